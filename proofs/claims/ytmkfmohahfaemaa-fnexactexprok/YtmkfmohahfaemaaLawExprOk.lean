/-
  The laws on ExprOk and ExprDepth: at every list of tokens the program answers as the model and leaves its argument as it was.
-/
import Derived.Test.YtmkfmohahfaemaaExprS
namespace Go.Proofs.Ytmkfmohahfaemaa
open Go.RowKit

set_option maxHeartbeats 400000 in
theorem specExprDepth_any (A : Option Addr) (ca : Nat) (es : List (Int × Int)) (w : World) (hA : Rd w A (ez es)) (hn : es.length ≤ 1048576) :
    Calls Try.prog 10 #[.slice A es.length ca] w fun e w' => e = .returned (.int .i64 (depthOf es)) ∧ w = w' := by
  have HC := Lib.hid (l03Depth_any A ca es w hA hn)
  go_enter Try.func10, Try.ntmps10
  go_wp2_with (go_at_call 12; refine HC.out.mono ?_; rintro e w' ⟨rfl, rfl⟩)
  go_ret
  exact ⟨rfl, rfl⟩

set_option maxRecDepth 100000 in
set_option maxHeartbeats 1000000 in
theorem fnExactExprOk_walk (A : Option Addr) (ca : Nat) (es : List (Int × Int)) (w : World) (hA : Rd w A (ez es)) (hn : es.length ≤ 9223372036854775807) :
    Calls Try.prog 3 #[.slice A es.length ca] w fun e w' => e = .returned (.bool true) ∧ Below w.heap.size w w' := by
  have HE := Lib.hid (fun W (h : Below w.heap.size w W) => hA.below h)
  clear hA
  by_cases hl : es.length ≤ 1048576
  · have e1 : lessT 1048576 es.length = 1048576 - (es.length : Int) := by simp [lessT]; omega
    have E1 := Lib.hid e1
    clear e1
    generalize hB : decide (0 ≤ depthOf es) = B
    have hne : (B != B) = false := by simp
    go_enter Try.func3, Try.ntmps3
    go_wp2_with fail
    refine (as_int E1.out (szTokS_any A es.length ca 1048576 _ (by omega) (by omega) hn)).mono ?_
    rintro e w' ⟨rfl, rfl⟩
    go_wp2_with fail
    refine (toTokS_any A ca es _ (HE.out _ (Below.refl _ _)) hl).mono ?_
    rintro e w2 ⟨g, rfl, hg, ho, hb2⟩
    go_wp2_with fail
    refine (as_bool hB (specExprOk_any _ _ es _ ho.rd hl)).mono ?_
    rintro e w' ⟨rfl, rfl⟩
    go_wp2_with fail
    refine (toTokS_any A ca es _ (HE.out _ hb2) hl).mono ?_
    rintro e w3 ⟨g2, rfl, hg2, ho2, hb3⟩
    replace hb3 := below_trans hb2 hb3
    go_wp2_with fail
    refine (as_bool hB (implExprOk_any _ _ es _ ho2.rd hl)).mono ?_
    rintro e w4 ⟨rfl, hb4⟩
    replace ho2 := ho2.grow hb4
    replace hb4 := below_trans hb3 hb4
    go_wp2_with fail
    refine (toTokS_any A ca es _ (HE.out _ hb4) hl).mono ?_
    rintro e w5 ⟨g3, rfl, hg3, ho3, hb5⟩
    replace ho2 := ho2.grow hb5
    replace hb5 := below_trans hb4 hb5
    go_wp2_with fail
    refine (eqTokS_same _ _ es.length _ _ es _ ho2.rd ho3.rd rfl hl).mono ?_
    rintro e w6 ⟨rfl, hb6⟩
    go_wp2
    go_ret
    exact ⟨rfl, below_trans hb5 hb6⟩
  · have e1 : lessT 1048576 es.length = -1 := by simp [lessT]; omega
    go_enter Try.func3, Try.ntmps3
    go_wp2_with fail
    refine (as_int e1 (szTokS_any A es.length ca 1048576 _ (by omega) (by omega) hn)).mono ?_
    rintro e w' ⟨rfl, rfl⟩
    go_wp2
    go_ret
    exact ⟨rfl, Below.refl _ _⟩

set_option maxRecDepth 100000 in
set_option maxHeartbeats 1000000 in
theorem fnExactExprDepth_walk (A : Option Addr) (ca : Nat) (es : List (Int × Int)) (w : World) (hA : Rd w A (ez es)) (hn : es.length ≤ 9223372036854775807) :
    Calls Try.prog 4 #[.slice A es.length ca] w fun e w' => e = .returned (.bool true) ∧ Below w.heap.size w w' := by
  have HE := Lib.hid (fun W (h : Below w.heap.size w W) => hA.below h)
  clear hA
  by_cases hl : es.length ≤ 1048576
  · have e1 : lessT 1048576 es.length = 1048576 - (es.length : Int) := by simp [lessT]; omega
    have E1 := Lib.hid e1
    clear e1
    generalize hB : depthOf es = B
    have hne : (B != B) = false := by simp
    go_enter Try.func4, Try.ntmps4
    go_wp2_with fail
    refine (as_int E1.out (szTokS_any A es.length ca 1048576 _ (by omega) (by omega) hn)).mono ?_
    rintro e w' ⟨rfl, rfl⟩
    go_wp2_with fail
    refine (toTokS_any A ca es _ (HE.out _ (Below.refl _ _)) hl).mono ?_
    rintro e w2 ⟨g, rfl, hg, ho, hb2⟩
    go_wp2_with fail
    refine (as_int hB (specExprDepth_any _ _ es _ ho.rd hl)).mono ?_
    rintro e w' ⟨rfl, rfl⟩
    go_wp2_with fail
    refine (toTokS_any A ca es _ (HE.out _ hb2) hl).mono ?_
    rintro e w3 ⟨g2, rfl, hg2, ho2, hb3⟩
    replace hb3 := below_trans hb2 hb3
    go_wp2_with fail
    refine (as_int hB (implExprDepth_any _ _ es _ ho2.rd hl)).mono ?_
    rintro e w4 ⟨rfl, hb4⟩
    replace ho2 := ho2.grow hb4
    replace hb4 := below_trans hb3 hb4
    go_wp2_with fail
    refine (toTokS_any A ca es _ (HE.out _ hb4) hl).mono ?_
    rintro e w5 ⟨g3, rfl, hg3, ho3, hb5⟩
    replace ho2 := ho2.grow hb5
    replace hb5 := below_trans hb4 hb5
    go_wp2_with fail
    refine (eqTokS_same _ _ es.length _ _ es _ ho2.rd ho3.rd rfl hl).mono ?_
    rintro e w6 ⟨rfl, hb6⟩
    go_wp2
    go_ret
    exact ⟨rfl, below_trans hb5 hb6⟩
  · have e1 : lessT 1048576 es.length = -1 := by simp [lessT]; omega
    go_enter Try.func4, Try.ntmps4
    go_wp2_with fail
    refine (as_int e1 (szTokS_any A es.length ca 1048576 _ (by omega) (by omega) hn)).mono ?_
    rintro e w' ⟨rfl, rfl⟩
    go_wp2
    go_ret
    exact ⟨rfl, Below.refl _ _⟩
end Go.Proofs.Ytmkfmohahfaemaa
