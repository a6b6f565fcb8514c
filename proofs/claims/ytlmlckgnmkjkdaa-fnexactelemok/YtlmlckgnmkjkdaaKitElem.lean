/-
  What the laws' own helpers on Elem (a struct of 4 ints) return. By kitgen.py.
-/
import Derived.Test.YtlmlckgnmkjkdaaFlat
namespace Go.Proofs.Ytlmlckgnmkjkdaa
open Go.RowKit
set_option maxHeartbeats 400000 in
theorem toElem_any (x0 x1 x2 x3 : Int) (w : World) :
    Calls Try.prog 22 #[.agg #[.int .i64 x0, .int .i64 x1, .int .i64 x2, .int .i64 x3]] w fun e w' => e = .returned (.agg #[.int .i64 x0, .int .i64 x1, .int .i64 x2, .int .i64 x3]) ∧ Below w.heap.size w w' := by
  go_enter Try.func22, Try.ntmps22
  go_wp2
  refine bodyPost_ret (v := .agg #[.int .i64 x0, .int .i64 x1, .int .i64 x2, .int .i64 x3]) (by simp [results, Try.results22, go_sem]) rfl ⟨rfl, ?_⟩
  exact below_trans (below_trans (below_alloc _ _) (below_alloc _ _)) (below_alloc _ _)
end Go.Proofs.Ytlmlckgnmkjkdaa
