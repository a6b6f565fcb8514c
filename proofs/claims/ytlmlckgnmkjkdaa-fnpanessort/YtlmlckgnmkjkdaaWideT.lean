/-
  laws.toWide.
-/
import Derived.Test.YtlmlckgnmkjkdaaWideA
namespace Go.Proofs.Ytlmlckgnmkjkdaa
open Go.RowKit

theorem toWide_any (h l : Int) (w : World) :
    Calls Try.prog 80 #[.agg #[.int .i64 h, .int .u64 l]] w (WideRes w h l) := by
  go_enter Try.func80, Try.ntmps80
  go_wp2
  exact bodyPost_ret (v := .agg #[.int .i64 h, .int .u64 l]) (by simp [results, Try.results80, go_sem]) rfl ⟨rfl, below3 _ _ _ _⟩

end Go.Proofs.Ytlmlckgnmkjkdaa
