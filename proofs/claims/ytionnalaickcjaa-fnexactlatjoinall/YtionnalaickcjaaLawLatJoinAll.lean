/-
  The law on LatJoinAll: at every lattice value and list of integers the program's LatJoinAll answers as the model's, and writes into no argument.
-/
import Derived.Test.YtionnalaickcjaaLatAll
import Derived.Deep.RegionHeld3
namespace Go.Proofs.Ytionnalaickcjaa
open Go.RowKit

set_option maxHeartbeats 2000000 in
theorem fnExactLatJoinAll_walk (N : Int) (A : Option Addr) (ca : Nat) (xs : List Nat) (B : Option Addr) (cb : Nat) (zs : List Int) (w : World) (hA : Rd w A (us xs)) (hu : U64 xs) (hn : xs.length ≤ 9223372036854775807) (hB : Rd w B (iz zs)) (hm : zs.length ≤ 9223372036854775807) :
    Calls Try.prog 13 #[.agg #[.int .i64 N, .slice A xs.length ca], .slice B zs.length cb] w fun e w' => e = .returned (.bool true) ∧ Below w.heap.size w w' := by
  have HA := Lib.hid (fun W (h : Below w.heap.size w W) => hA.below h)
  have HB := Lib.hid (fun W (h : Below w.heap.size w W) => hB.below h)
  clear hA hB
  by_cases hlz : zs.length ≤ 1048576
  case neg =>
    go_enter Try.func13, Try.ntmps13
    go_wp2
    go_ret
    exact ⟨rfl, below_alloc _ _⟩
  by_cases hl : xs.length ≤ 1048576
  · have e1 : less 1048576 xs.length = 1048576 - (xs.length : Int) := by simp [less]; omega
    have E1 := Lib.hid e1
    clear e1
    go_enter Try.func13, Try.ntmps13
    go_wp2_with fail
    refine (as_int E1.out (szLat_any N A xs.length ca 1048576 _ (by omega) (by omega) hn)).mono ?_
    rintro e w1 ⟨rfl, hb⟩
    obtain ⟨ho1, hb1⟩ := box_own hb
    clear hb
    obtain ⟨c0, c1⟩ := ho1.two
    go_wp2_with fail
    clear c0 c1
    refine (toLat_at N A ca xs _ (HA.out _ hb1) hl).mono ?_
    rintro e w2 ⟨g, rfl, hr, hb⟩
    have ho2 := ho1.grow hb
    have hb2 := below_trans hb1 hb
    clear hb hb1 ho1
    go_wp2_with fail
    refine (toIntS_at B cb zs _ (HB.out _ hb2) hlz).mono ?_
    rintro e w2' ⟨gi, rfl, hri, hb⟩
    replace ho2 := ho2.grow hb
    replace hb2 := below_trans hb2 hb
    replace hr := hr.grow hb
    clear hb
    go_wp2_with fail
    refine (specLatJoinAll_any N (some ⟨g, 0, none⟩) xs.length xs (some ⟨gi, 0, none⟩) zs.length zs _ hr.reads hu hl hri.reads hlz).mono ?_
    rintro e w3 ⟨rfl, hb⟩
    have ho3 := ho2.grow hb
    have hb3 := below_trans hb2 hb
    clear hb hb2 ho2 hr hri
    obtain ⟨c0, c1⟩ := ho3.two
    go_wp2_with fail
    clear c0 c1
    refine (toLat_at N A ca xs _ (HA.out _ hb3) hl).mono ?_
    rintro e w4 ⟨g2, rfl, rx, hb⟩
    have ho4 := ho3.grow hb
    have hb4 := below_trans hb3 hb
    clear hb hb3 ho3
    go_wp2_with fail
    refine (toIntS_at B cb zs _ (HB.out _ (below_trans hb4 (below_alloc _ _))) hlz).mono ?_
    rintro e w5 ⟨g3, rfl, ri, hb⟩
    obtain ⟨hx5, hb45⟩ := box_own hb
    have ho5 := ho4.grow hb45
    have hb5 := below_trans hb4 hb45
    replace rx := rx.grow hb45
    clear hb hb45 hb4 ho4
    obtain ⟨c0, c1⟩ := hx5.two
    go_wp2_with fail
    clear c0 c1
    refine (implLatJoinAll_any N (some ⟨g2, 0, none⟩) xs.length xs (some ⟨g3, 0, none⟩) zs.length zs _ rx.reads hu hl ri.reads hlz).mono ?_
    rintro e w6 ⟨rfl, hb⟩
    have ho6 := ho5.grow hb
    have hx6 := hx5.grow hb
    have hb6 := below_trans hb5 hb
    replace rx := rx.grow hb
    replace ri := ri.grow hb
    clear hb hb5 ho5 hx5
    have k1 : ∀ W, Below w6.heap.size w6 W → W.cell? ⟨w.heap.size, 0, none⟩ = some (.int .i64 N) := fun W h => (ho6.grow h).two.1
    have k2 : ∀ W, Below w6.heap.size w6 W → W.cell? ⟨w.heap.size, 1, none⟩ = some (.slice A xs.length ca) := fun W h => (ho6.grow h).two.2
    have k3 : ∀ W, Below w6.heap.size w6 W → W.cell? ⟨w4.heap.size, 0, none⟩ = some (.int .i64 N) := fun W h => (hx6.grow h).two.1
    have k4 : ∀ W, Below w6.heap.size w6 W → W.cell? ⟨w4.heap.size, 1, none⟩ = some (.slice (some ⟨g2, 0, none⟩) xs.length xs.length) := fun W h => (hx6.grow h).two.2
    have HR := Lib.hid (fun W (h : Below w6.heap.size w6 W) => rx.reads.below h)
    have HA6 := Lib.hid (fun W (h : Below w6.heap.size w6 W) => HA.out W (below_trans hb6 h))
    have hne : (allV N xs zs != allV N xs zs) = false := by simp
    go_wp2
    go_region_held3 (fun W => Below w6.heap.size w6 W) (first | exact (Below.refl _ _).drew | exact below_trans (by assumption) (by assumption))
      (first
        | (go_at_call 44; refine (toLat_any N A ca xs _ (HA6.out _ (by assumption)) hl).mono ?_; rintro e w7 ⟨g3, rfl, hg3, hown3, hb7⟩)
        | (go_at_call 38; refine (eqLat_same N _ _ _ _ xs _ (HR.out _ (by assumption)) hown3.rd (by omega)).mono ?_; rintro e w8 ⟨rfl, hb8⟩))
    have hb : Below w6.heap.size w6 w8 := by assumption
    clear hb7 hb8 hg3 hown3 k1 k2 k3 k4 HR HA6
    have hB8 := below_trans hb6 hb
    replace ri := ri.grow hb
    clear hb hb6 ho6 hx6 rx
    go_wp2_with fail
    refine (toIntS_at B cb zs _ (HB.out _ hB8) hlz).mono ?_
    rintro e w9 ⟨g5, rfl, rj, hb⟩
    have hB9 := below_trans hB8 hb
    replace ri := ri.grow hb
    clear hb hB8
    go_wp2_with fail
    refine (eqIntS_same _ _ zs.length _ _ zs _ ri.reads rj.reads rfl hlz).mono ?_
    rintro e w10 ⟨rfl, hb⟩
    go_wp2
    go_ret
    exact ⟨rfl, below_trans hB9 hb⟩
  · have e1 : less 1048576 xs.length = -1 := by simp [less]; omega
    go_enter Try.func13, Try.ntmps13
    go_wp2_with fail
    refine (as_int e1 (szLat_any N A xs.length ca 1048576 _ (by omega) (by omega) hn)).mono ?_
    rintro e w1 ⟨rfl, hb1⟩
    go_wp2
    go_ret
    exact ⟨rfl, (box_own hb1).2⟩
end Go.Proofs.Ytionnalaickcjaa
