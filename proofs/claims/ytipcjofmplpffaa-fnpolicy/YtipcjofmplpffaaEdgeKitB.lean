/-
  Edges: marks, copies.
-/
import Derived.Test.YtipcjofmplpffaaEdgeKit
import Derived.Test.YtipcjofmplpffaaPairs
namespace Go.Proofs.Ytipcjofmplpffaa
open Go.RowKit

theorem info_edge : (Try.prog.info? 100).map (fun i => (i.zero, i.size, i.bytes)) = some (some (.agg #[.int .i64 0, .int .i64 0]), 2, 16) := by kernel_rfl
theorem made_zeros_edge (n : Nat) : madeCells (Value.agg #[.int .i64 0, .int .i64 0]).cells (n * 2) = (iz (List.replicate (n * 2) 0)).toArray := by
  apply Array.ext
  · simp [madeCells, iz]
  · intro i h1 h2
    have h : i % 2 = 0 ∨ i % 2 = 1 := by omega
    simp [madeCells, iz, Value.cells]
    rcases h with h | h <;> simp [h]
theorem make_edge (n : Nat) (hn : n ≤ 1048576) (W : World) : (Instr.makeSlice 98 (.int .i64 (n : Int)) (.int .i64 (n : Int))).run Try.prog W = .ok (.slice (some ⟨W.heap.size, 0, none⟩) n n) (W.alloc (.cells (iz (List.replicate (n * 2) 0)).toArray 100)) := by
  obtain ⟨i0, hi, hz0, hz1, hz2⟩ := info_parts info_edge
  have h := run_make (P := Try.prog) W 98 100 i0 (.agg #[.int .i64 0, .int .i64 0]) Try.underlying98 hi hz0 .i64 .i64 n n (by omega) (by omega) (by rw [hz2]; omega) (by omega)
  rw [hz1, Int.toNat_natCast, made_zeros_edge] at h
  exact h

def copyE (zs : List Int) (k : Nat) : List Int := zs.take k ++ List.replicate (zs.length - k) 0
theorem copyE_is (zs : List Int) (k : Nat) : copyE zs k = copyToI zs k := rfl

end Go.Proofs.Ytipcjofmplpffaa
