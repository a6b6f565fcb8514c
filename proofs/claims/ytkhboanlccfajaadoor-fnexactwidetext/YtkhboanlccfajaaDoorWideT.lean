/-
  laws.toWide.
-/
import Derived.Test.YtkhboanlccfajaaDoorWideA
namespace Go.Proofs.YtkhboanlccfajaaDoor
open Go.RowKit

theorem toWide_any (h l : Int) (w : World) :
    Calls Tryd.prog 17 #[.agg #[.int .i64 h, .int .u64 l]] w (WideRes w h l) := by
  go_enter Tryd.func17, Tryd.ntmps17
  go_wp2
  exact bodyPost_ret (v := .agg #[.int .i64 h, .int .u64 l]) (by simp [results, Tryd.results17, go_sem]) rfl ⟨rfl, below3 _ _ _ _⟩

end Go.Proofs.YtkhboanlccfajaaDoor
