/-
  What the laws' own helpers on WinDef (a struct of 3 ints) return. By kitgen.py.
-/
import Derived.Test.YtlmlckgnmkjkdaaFlat
namespace Go.Proofs.Ytlmlckgnmkjkdaa
open Go.RowKit
set_option maxHeartbeats 400000 in
theorem toWinDef_any (x0 x1 x2 : Int) (w : World) :
    Calls Try.prog 59 #[.agg #[.int .i64 x0, .int .i64 x1, .int .i64 x2]] w fun e w' => e = .returned (.agg #[.int .i64 x0, .int .i64 x1, .int .i64 x2]) ∧ Below w.heap.size w w' := by
  go_enter Try.func59, Try.ntmps59
  go_wp2
  refine bodyPost_ret (v := .agg #[.int .i64 x0, .int .i64 x1, .int .i64 x2]) (by simp [results, Try.results59, go_sem]) rfl ⟨rfl, ?_⟩
  exact below_trans (below_trans (below_alloc _ _) (below_alloc _ _)) (below_alloc _ _)
end Go.Proofs.Ytlmlckgnmkjkdaa
