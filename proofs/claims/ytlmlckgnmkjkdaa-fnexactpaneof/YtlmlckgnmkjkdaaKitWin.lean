/-
  What the laws' own helpers on Win (a struct of 2 ints) return. By kitgen.py.
-/
import Derived.Test.YtlmlckgnmkjkdaaFlat
namespace Go.Proofs.Ytlmlckgnmkjkdaa
open Go.RowKit
set_option maxHeartbeats 400000 in
theorem toWin_any (x0 x1 : Int) (w : World) :
    Calls Try.prog 32 #[.agg #[.int .i64 x0, .int .i64 x1]] w fun e w' => e = .returned (.agg #[.int .i64 x0, .int .i64 x1]) ∧ Below w.heap.size w w' := by
  go_enter Try.func32, Try.ntmps32
  go_wp2
  refine bodyPost_ret (v := .agg #[.int .i64 x0, .int .i64 x1]) (by simp [results, Try.results32, go_sem]) rfl ⟨rfl, ?_⟩
  exact below_trans (below_trans (below_alloc _ _) (below_alloc _ _)) (below_alloc _ _)
theorem info_Win : (Try.prog.info? 68).map (fun i => (i.zero, i.size, i.bytes)) = some (some (.agg #[.int .i64 0, .int .i64 0]), 2, 16) := by kernel_rfl
theorem made_zeros_Win (n : Nat) : madeCells (Value.agg #[.int .i64 0, .int .i64 0]).cells (n * 2) = (iz (List.replicate (n * 2) 0)).toArray := by
  apply Array.ext
  · simp [madeCells, iz]
  · intro i h1 h2
    have h : i % 2 = 0 ∨ i % 2 = 1 := by omega
    simp [madeCells, iz, Value.cells]
    rcases h with h | h <;> simp [h]
end Go.Proofs.Ytlmlckgnmkjkdaa
