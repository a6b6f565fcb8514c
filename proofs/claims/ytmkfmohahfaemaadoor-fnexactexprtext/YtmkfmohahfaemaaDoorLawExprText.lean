/-
  The law on ExprText: at every list of tokens the program answers as the model and leaves its argument as it was.
-/
import Derived.Test.YtmkfmohahfaemaaDoorExprTI
namespace Go.Proofs.YtmkfmohahfaemaaDoor
open Go.RowKit

set_option maxRecDepth 100000 in
set_option maxHeartbeats 1000000 in
theorem fnExactExprText_walk (A : Option Addr) (ca : Nat) (es : List (Int × Int)) (w : World) (hA : Rd w A (ez es)) (hn : es.length ≤ 9223372036854775807) (hi : Ints es) (ht : Tabs w) :
    Calls Tryd.prog 5 #[.slice A es.length ca] w fun e w' => e = .returned (.bool true) ∧ Below w.heap.size w w' := by
  have HE := Lib.hid (fun W (h : Below w.heap.size w W) => hA.below h)
  have HI := Lib.hid hi
  have HB := Lib.hid (fun W (h : Below w.heap.size w W) => ht.below h)
  clear hA hi ht
  by_cases hl : es.length ≤ 1048576
  · have e1 : lessT 1048576 es.length = 1048576 - (es.length : Int) := by simp [lessT]; omega
    have E1 := Lib.hid e1
    clear e1
    have CS := Lib.hid (fun A ca w hA => specExprText_any A ca es w hA hl HI.out)
    have CI := Lib.hid (fun A ca w hA ht => implExprText_any A ca es w hA hl HI.out ht)
    generalize (⟨(textOf es).toArray⟩ : ByteArray) = D at CS CI
    go_enter Tryd.func5, Tryd.ntmps5
    go_wp2_with fail
    refine (as_int E1.out (szTokS_any A es.length ca 1048576 _ (by omega) (by omega) hn)).mono ?_
    rintro e w' ⟨rfl, rfl⟩
    go_wp2_with fail
    refine (toTokS_any A ca es _ (HE.out _ (Below.refl _ _)) hl).mono ?_
    rintro e w2 ⟨g, rfl, hg, ho, hb2⟩
    go_wp2_with fail
    refine (CS.out _ _ _ ho.rd).mono ?_
    rintro e w2' ⟨rfl, hb2'⟩
    replace hb2 := below_trans hb2 hb2'
    go_wp2_with fail
    refine (toTokS_any A ca es _ (HE.out _ hb2) hl).mono ?_
    rintro e w3 ⟨g2, rfl, hg2, ho2, hb3⟩
    replace hb3 := below_trans hb2 hb3
    go_wp2_with fail
    refine (CI.out _ _ _ ho2.rd (HB.out _ hb3)).mono ?_
    rintro e w4 ⟨rfl, hb4⟩
    replace ho2 := ho2.grow hb4
    replace hb4 := below_trans hb3 hb4
    go_wp2_with fail
    refine (toTokS_any A ca es _ (HE.out _ hb4) hl).mono ?_
    rintro e w5 ⟨g3, rfl, hg3, ho3, hb5⟩
    replace ho2 := ho2.grow hb5
    replace hb5 := below_trans hb4 hb5
    go_wp2_with fail
    refine (eqTokS_same _ _ es.length _ _ es _ ho2.rd ho3.rd rfl hl).mono ?_
    rintro e w6 ⟨rfl, hb6⟩
    go_wp2
    go_ret
    exact ⟨rfl, below_trans hb5 hb6⟩
  · have e1 : lessT 1048576 es.length = -1 := by simp [lessT]; omega
    go_enter Tryd.func5, Tryd.ntmps5
    go_wp2_with fail
    refine (as_int e1 (szTokS_any A es.length ca 1048576 _ (by omega) (by omega) hn)).mono ?_
    rintro e w' ⟨rfl, rfl⟩
    go_wp2
    go_ret
    exact ⟨rfl, Below.refl _ _⟩
end Go.Proofs.YtmkfmohahfaemaaDoor
