/-
  The law on PolicyFor: at every lattice value, list of puncts, source and key the program answers as the model, and writes into no argument.
-/
import Derived.Test.YtipcjofmplpffaaPolicyForS
import Derived.Test.YtipcjofmplpffaaLawKit
import Derived.Test.YtipcjofmplpffaaKitPunct
import Derived.Deep.RegionHeld3
namespace Go.Proofs.Ytipcjofmplpffaa
open Go.RowKit

set_option maxRecDepth 100000 in
set_option maxHeartbeats 2000000 in
theorem fnExactPolicyFor_walk (N : Int) (A : Option Addr) (ca : Nat) (xs : List Nat) (B : Option Addr) (cb : Nat) (ps : List Pn) (s k : Int) (w : World) (hA : Rd w A (us xs)) (hu : U64 xs) (hn : xs.length ≤ 9223372036854775807) (hB : Rd w B (iz (qz ps))) (hm : ps.length ≤ 9223372036854775807) :
    Calls Try.prog 10 #[.agg #[.int .i64 N, .slice A xs.length ca], .slice B ps.length cb, .int .i64 s, .int .i64 k] w fun e w' => e = .returned (.bool true) ∧ Below w.heap.size w w' := by
  have HA := Lib.hid (fun W (h : Below w.heap.size w W) => hA.below h)
  have HB := Lib.hid (fun W (h : Below w.heap.size w W) => hB.below h)
  clear hA hB
  by_cases hl : xs.length ≤ 1048576
  · have e1 : less 1048576 xs.length = 1048576 - (xs.length : Int) := by simp [less]; omega
    have E1 := Lib.hid e1
    clear e1
    by_cases hl2 : (ps.length : Int) ≤ 1048576 - (xs.length : Int)
    · have hp : ps.length ≤ 1048576 := by omega
      have E2 := Lib.hid (show lessF (1048576 - (xs.length : Int)) ps.length = 1048576 - (xs.length : Int) - ps.length by simp [lessF]; omega)
      generalize hT : forV N xs ps s k = T
      have hne : (T != T) = false := by simp
      go_enter Try.func10, Try.ntmps10
      go_wp2_with fail
      refine (as_int E1.out (szLat_any N A xs.length ca 1048576 _ (by omega) (by omega) hn)).mono ?_
      rintro e w1 ⟨rfl, hb1⟩
      obtain ⟨ho, hb⟩ := box_own hb1
      clear hb1
      go_wp2_with fail
      refine (as_int E2.out (szPunctS_any B ps.length cb (1048576 - (xs.length : Int)) _ (by omega) (by omega) hm)).mono ?_
      rintro e _ ⟨rfl, rfl⟩
      obtain ⟨c0, c1⟩ := ho.two
      go_wp2_with fail
      clear c0 c1
      refine (toLat_any N A ca xs _ (HA.out _ hb) hl).mono ?_
      rintro e w2 ⟨g2, rfl, hg2, hown2, hb2⟩
      replace ho := ho.grow hb2
      replace hb := below_trans hb hb2
      go_wp2_with fail
      refine (toPunctS_any B ps.length cb (qz ps) _ (HB.out _ hb) (qz_length ps) hp).mono ?_
      rintro e w3 ⟨g3, rfl, hg3, hown3, hb3⟩
      replace ho := ho.grow hb3
      replace hb := below_trans hb hb3
      replace hown2 := hown2.grow hb3
      go_wp2_with fail
      refine (as_int hT (specPolicyFor_any N _ _ xs _ _ ps s k _ hown2.rd hu hl hown3.rd (by omega))).mono ?_
      rintro e w4 ⟨rfl, hb4⟩
      replace ho := ho.grow hb4
      replace hb := below_trans hb hb4
      clear hown2 hown3 hb2 hb3 hb4 hg2 hg3
      obtain ⟨c0, c1⟩ := ho.two
      go_wp2_with fail
      clear c0 c1
      refine (toLat_any N A ca xs _ (HA.out _ hb) hl).mono ?_
      rintro e w5 ⟨g5, rfl, hg5, hown5, hb5⟩
      replace ho := ho.grow hb5
      replace hb := below_trans hb hb5
      have hx : Own (w5.alloc (.cells #[.int .i64 N, .slice (some ⟨g5, 0, none⟩) xs.length xs.length] 26)) w5.heap.size 26 [.int .i64 N, .slice (some ⟨g5, 0, none⟩) xs.length xs.length] := Own.new _ _ [_, _]
      replace ho := ho.alloc (.cells #[.int .i64 N, .slice (some ⟨g5, 0, none⟩) xs.length xs.length] 26)
      replace hown5 := hown5.alloc (.cells #[.int .i64 N, .slice (some ⟨g5, 0, none⟩) xs.length xs.length] 26)
      replace hb := below_trans hb (below_alloc w5 (.cells #[.int .i64 N, .slice (some ⟨g5, 0, none⟩) xs.length xs.length] 26))
      go_wp2_with fail
      refine (toPunctS_any B ps.length cb (qz ps) _ (HB.out _ hb) (qz_length ps) hp).mono ?_
      rintro e w6 ⟨g6, rfl, hg6, hown6, hb6⟩
      replace ho := ho.grow hb6
      replace hx := hx.grow hb6
      replace hown5 := hown5.grow hb6
      replace hb := below_trans hb hb6
      clear hb6 hg6
      obtain ⟨c0, c1⟩ := hx.two
      go_wp2_with fail
      clear c0 c1
      refine (as_int hT (implPolicyFor_any N _ _ xs _ _ ps s k _ hown5.rd hu hl hown6.rd (by omega))).mono ?_
      rintro e w7 ⟨rfl, hb7⟩
      replace ho := ho.grow hb7
      replace hx := hx.grow hb7
      replace hown5 := hown5.grow hb7
      replace hown6 := hown6.grow hb7
      replace hb := below_trans hb hb7
      clear hb7
      have k1 : ∀ W, Below w7.heap.size w7 W → W.cell? ⟨w.heap.size, 0, none⟩ = some (.int .i64 N) := fun W h => (ho.grow h).two.1
      have k2 : ∀ W, Below w7.heap.size w7 W → W.cell? ⟨w.heap.size, 1, none⟩ = some (.slice A xs.length ca) := fun W h => (ho.grow h).two.2
      have k3 : ∀ W, Below w7.heap.size w7 W → W.cell? ⟨w5.heap.size, 0, none⟩ = some (.int .i64 N) := fun W h => (hx.grow h).two.1
      have k4 : ∀ W, Below w7.heap.size w7 W → W.cell? ⟨w5.heap.size, 1, none⟩ = some (.slice (some ⟨g5, 0, none⟩) xs.length xs.length) := fun W h => (hx.grow h).two.2
      have HR := Lib.hid (fun W (h : Below w7.heap.size w7 W) => hown5.rd.below h)
      have HA5 := Lib.hid (fun W (h : Below w7.heap.size w7 W) => HA.out W (below_trans hb h))
      clear hown5 hx ho
      go_wp2
      go_region_held3 (fun W => Below w7.heap.size w7 W) (first | exact (Below.refl _ _).drew | exact below_trans (by assumption) (by assumption))
        (first
          | (go_at_call 27; refine (toLat_any N A ca xs _ (HA5.out _ (by assumption)) hl).mono ?_; rintro e w8 ⟨g8, rfl, hg8, hown8, hb8⟩)
          | (go_at_call 30; refine (eqLat_same N _ _ _ _ xs _ (HR.out _ (by assumption)) hown8.rd (by omega)).mono ?_; rintro e w9 ⟨rfl, hb9⟩))
      have hB9 : Below w7.heap.size w7 w9 := by assumption
      clear hb8 hb9 hg8 hown8 HR HA5 k1 k2 k3 k4
      replace hb := below_trans hb hB9
      replace hown6 := hown6.grow hB9
      go_wp2_with fail
      refine (toPunctS_any B ps.length cb (qz ps) _ (HB.out _ hb) (qz_length ps) hp).mono ?_
      rintro e wa ⟨ga, rfl, hga, howna, hba⟩
      replace hown6 := hown6.grow hba
      replace hb := below_trans hb hba
      go_wp2_with fail
      refine (eqPunctS_same _ _ ps.length _ _ (qz ps) _ hown6.rd howna.rd (qz_length ps) hp).mono ?_
      rintro e wb ⟨rfl, hbb⟩
      go_wp2
      go_ret
      exact ⟨rfl, below_trans hb hbb⟩
    · have E2 := Lib.hid (show lessF (1048576 - (xs.length : Int)) ps.length = -1 by simp [lessF]; omega)
      go_enter Try.func10, Try.ntmps10
      go_wp2_with fail
      refine (as_int E1.out (szLat_any N A xs.length ca 1048576 _ (by omega) (by omega) hn)).mono ?_
      rintro e w1 ⟨rfl, hb1⟩
      go_wp2_with fail
      refine (as_int E2.out (szPunctS_any B ps.length cb (1048576 - (xs.length : Int)) _ (by omega) (by omega) hm)).mono ?_
      rintro e _ ⟨rfl, rfl⟩
      go_wp2
      go_ret
      exact ⟨rfl, (box_own hb1).2⟩
  · have e1 : less 1048576 xs.length = -1 := by simp [less]; omega
    go_enter Try.func10, Try.ntmps10
    go_wp2_with fail
    refine (as_int e1 (szLat_any N A xs.length ca 1048576 _ (by omega) (by omega) hn)).mono ?_
    rintro e w1 ⟨rfl, hb1⟩
    go_wp2
    go_ret
    exact ⟨rfl, (box_own hb1).2⟩
end Go.Proofs.Ytipcjofmplpffaa
