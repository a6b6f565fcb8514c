/-
  laws.toWide.
-/
import Derived.Test.YtkaghdkehkjdoaaWideA
namespace Go.Proofs.Ytkaghdkehkjdoaa
open Go.RowKit

theorem toWide_any (h l : Int) (w : World) :
    Calls Try.prog 57 #[.agg #[.int .i64 h, .int .u64 l]] w (WideRes w h l) := by
  go_enter Try.func57, Try.ntmps57
  go_wp2
  exact bodyPost_ret (v := .agg #[.int .i64 h, .int .u64 l]) (by simp [results, Try.results57, go_sem]) rfl ⟨rfl, below3 _ _ _ _⟩

end Go.Proofs.Ytkaghdkehkjdoaa
