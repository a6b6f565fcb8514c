/-
  Rows of integers that the call itself makes.
-/
import Derived.Test.YtlmlckgnmkjkdaaIntAt
namespace Go.Proofs.Ytlmlckgnmkjkdaa
open Go.RowKit

theorem made_zeros_int (n : Nat) : madeCells (Value.int .i64 0).cells (n * 1) = (iz (List.replicate n 0)).toArray := by
  apply Array.ext
  · simp [madeCells, iz]
  · intro i h1 h2
    simp [madeCells, iz, Value.cells, Nat.mod_one]
theorem info_int : (Try.prog.info? 3).map (fun i => (i.zero, i.size, i.bytes)) = some (some (.int .i64 0), 1, 8) := by kernel_rfl
theorem make_int (n : Nat) (hn : n ≤ 1048576) (W : World) : (Instr.makeSlice 29 (.int .i64 (n : Int)) (.int .i64 (n : Int))).run Try.prog W = .ok (.slice (some ⟨W.heap.size, 0, none⟩) n n) (W.alloc (.cells (iz (List.replicate n 0)).toArray 3)) := by
  obtain ⟨i0, hi, hz0, hz1, hz2⟩ := info_parts info_int
  have h := run_make (P := Try.prog) W 29 3 i0 (.int .i64 0) Try.underlying29 hi hz0 .i64 .i64 n n (by omega) (by omega) (by rw [hz2]; omega) (by omega)
  rw [hz1, Int.toNat_natCast, made_zeros_int] at h
  exact h
end Go.Proofs.Ytlmlckgnmkjkdaa
