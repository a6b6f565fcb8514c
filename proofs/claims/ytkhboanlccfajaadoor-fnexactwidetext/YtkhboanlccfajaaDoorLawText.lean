/-
  The law on WideText: at every number the program answers as the model.
-/
import Derived.Test.YtkhboanlccfajaaDoorTextC
import Derived.Test.YtkhboanlccfajaaDoorWideT
namespace Go.Proofs.YtkhboanlccfajaaDoor
open Go.RowKit

set_option maxHeartbeats 1000000 in
theorem fnExactWideText_walk (ah al : Int) (w : World) (h1 : I64 ah) (h2 : U64w al) :
    Calls Tryd.prog 4 #[.agg #[.int .i64 ah, .int .u64 al]] w fun e w' => e = .returned (.bool true) ∧ Below w.heap.size w w' := by
  obtain ⟨x, hx, e1, e2⟩ := wide_in h1 h2
  have HS := Lib.hid (fun W => specWideText_any ah al x W hx e1 e2)
  have HM := Lib.hid (fun W => implWideText_any ah al x W hx e1 e2)
  clear hx e1 e2 h1 h2
  generalize (⟨(decS x).toArray⟩ : ByteArray) = D at *
  have o1 := Own.new w 38 [.int .i64 ah, .int .u64 al]
  go_enter Tryd.func4, Tryd.ntmps4
  obtain ⟨c0, c1⟩ := o1.two
  go_wp2_with fail
  refine (toWide_any _ _ _).mono ?_
  rintro e w1 ⟨rfl, hb1⟩
  replace o1 := o1.grow hb1
  replace hb1 := below_trans (below1 _ _) hb1
  clear c0 c1
  go_wp2_with fail
  refine (HS.out _).mono ?_
  rintro e w2 ⟨rfl, hb2⟩
  replace o1 := o1.grow hb2
  replace hb1 := below_trans hb1 hb2
  clear hb2
  obtain ⟨c0, c1⟩ := o1.two
  go_wp2_with fail
  refine (toWide_any _ _ _).mono ?_
  rintro e w3 ⟨rfl, hb2⟩
  replace o1 := o1.grow hb2
  replace hb1 := below_trans hb1 hb2
  clear c0 c1 hb2
  go_wp2_with fail
  refine (HM.out _).mono ?_
  rintro e w4 ⟨rfl, hb2⟩
  replace hb1 := below_trans hb1 hb2
  clear hb2 o1
  go_wp2
  go_ret
  exact ⟨rfl, hb1⟩
end Go.Proofs.YtkhboanlccfajaaDoor
