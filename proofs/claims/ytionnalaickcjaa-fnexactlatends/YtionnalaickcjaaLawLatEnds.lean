/-
  The law on LatEnds: at every lattice value the program's LatEnds answers as the model's, and writes into no argument.
-/
import Derived.Test.YtionnalaickcjaaLawKit
import Derived.Test.YtionnalaickcjaaLatEnds
import Derived.Deep.RegionHeld3
namespace Go.Proofs.Ytionnalaickcjaa
open Go.RowKit

set_option maxHeartbeats 1000000 in
theorem fnExactLatEnds_walk (N : Int) (A : Option Addr) (ca : Nat) (xs : List Nat) (w : World) (hA : Rd w A (us xs)) (hu : U64 xs) (hn : xs.length ≤ 9223372036854775807) :
    Calls Try.prog 11 #[.agg #[.int .i64 N, .slice A xs.length ca]] w fun e w' => e = .returned (.bool true) ∧ Below w.heap.size w w' := by
  have HA := Lib.hid (fun W (h : Below w.heap.size w W) => hA.below h)
  clear hA
  by_cases hl : xs.length ≤ 1048576
  · have e1 : less 1048576 xs.length = 1048576 - (xs.length : Int) := by simp [less]; omega
    have E1 := Lib.hid e1
    clear e1
    go_enter Try.func11, Try.ntmps11
    go_wp2_with fail
    refine (as_int E1.out (szLat_any N A xs.length ca 1048576 _ (by omega) (by omega) hn)).mono ?_
    rintro e w1 ⟨rfl, hb1⟩
    obtain ⟨ho1, hb1⟩ := box_own hb1
    obtain ⟨c0, c1⟩ := ho1.two
    go_wp2_with fail
    clear c0 c1
    refine (toLat_any N A ca xs _ (HA.out _ hb1) hl).mono ?_
    rintro e w2 ⟨g, rfl, hg, hown, hb2⟩
    have ho2 := ho1.grow hb2
    replace hb2 := below_trans hb1 hb2
    clear hb1 ho1
    go_wp2_with fail
    refine (specLatEnds_any N (some ⟨g, 0, none⟩) xs.length xs _ hown.rd hu hl).mono ?_
    rintro e w3 ⟨rfl, hb3⟩
    have ho3 := ho2.grow hb3
    replace hb3 := below_trans hb2 hb3
    clear hb2 ho2 hown hg
    obtain ⟨c0, c1⟩ := ho3.two
    go_wp2_with fail
    clear c0 c1
    refine (toLat_any N A ca xs _ (HA.out _ hb3) hl).mono ?_
    rintro e w4 ⟨g2, rfl, hg2, hown, hb4⟩
    have ho4 := ho3.grow hb4
    replace hb4 := below_trans hb3 hb4
    clear hb3 ho3 hg2
    go_wp2_with fail
    refine (implLatEnds_any N (some ⟨g2, 0, none⟩) xs.length xs _ (hown.rd.below (below_alloc _ _)) hu hl).mono ?_
    rintro e w5 ⟨rfl, hb5⟩
    obtain ⟨hx5, hb5⟩ := box_own hb5
    have ho5 := ho4.grow hb5
    have hr5 := hown.rd.below hb5
    replace hb5 := below_trans hb4 hb5
    clear hb4 ho4 hown
    have k1 : ∀ W, Below w5.heap.size w5 W → W.cell? ⟨w.heap.size, 0, none⟩ = some (.int .i64 N) := fun W h => (ho5.grow h).two.1
    have k2 : ∀ W, Below w5.heap.size w5 W → W.cell? ⟨w.heap.size, 1, none⟩ = some (.slice A xs.length ca) := fun W h => (ho5.grow h).two.2
    have k3 : ∀ W, Below w5.heap.size w5 W → W.cell? ⟨w4.heap.size, 0, none⟩ = some (.int .i64 N) := fun W h => (hx5.grow h).two.1
    have k4 : ∀ W, Below w5.heap.size w5 W → W.cell? ⟨w4.heap.size, 1, none⟩ = some (.slice (some ⟨g2, 0, none⟩) xs.length xs.length) := fun W h => (hx5.grow h).two.2
    have HR := Lib.hid (fun W (h : Below w5.heap.size w5 W) => hr5.below h)
    have HA5 := Lib.hid (fun W (h : Below w5.heap.size w5 W) => HA.out W (below_trans hb5 h))
    clear hr5 hx5 ho5
    go_wp2
    go_region_held3 (fun W => Below w5.heap.size w5 W) (first | exact (Below.refl _ _).drew | exact below_trans (by assumption) (by assumption))
      (first
        | (go_at_call 44; refine (toLat_any N A ca xs _ (HA5.out _ (by assumption)) hl).mono ?_; rintro e w6 ⟨g3, rfl, hg3, hown3, hb6⟩)
        | (go_at_call 38; refine (eqLat_same N _ _ _ _ xs _ (HR.out _ (by assumption)) hown3.rd (by omega)).mono ?_; rintro e w7 ⟨rfl, hb7⟩))
    have hb8 : Below w5.heap.size w5 w7 := by assumption
    clear hb7 hb6 hg3 hown3
    go_wp2
    go_ret
    exact ⟨rfl, below_trans hb5 hb8⟩
  · have e1 : less 1048576 xs.length = -1 := by simp [less]; omega
    go_enter Try.func11, Try.ntmps11
    go_wp2_with fail
    refine (as_int e1 (szLat_any N A xs.length ca 1048576 _ (by omega) (by omega) hn)).mono ?_
    rintro e w1 ⟨rfl, hb1⟩
    go_wp2
    go_ret
    exact ⟨rfl, (box_own hb1).2⟩
end Go.Proofs.Ytionnalaickcjaa
