/-
  The law on PunctOk: at every lattice value and punct the program answers as the model, and writes into no argument.
-/
import Derived.Test.YtipcjofmplpffaaPunctOk
import Derived.Test.YtipcjofmplpffaaLawKit
import Derived.Test.YtipcjofmplpffaaKitPunct
import Derived.Deep.RegionHeld3
namespace Go.Proofs.Ytipcjofmplpffaa
open Go.RowKit

/-- the cells of two boxes in every world grown from here -/
theorem two_boxes {w1 : World} {g h : Nat} {t s : TypeId} {x0 x1 y0 y1 y2 y3 : Value} (ho : Own w1 g t [x0, x1]) (hp : Own w1 h s [y0, y1, y2, y3]) :
    (∀ W, Below w1.heap.size w1 W → W.cell? ⟨g, 0, none⟩ = some x0) ∧ (∀ W, Below w1.heap.size w1 W → W.cell? ⟨g, 1, none⟩ = some x1) ∧
    (∀ W, Below w1.heap.size w1 W → W.cell? ⟨h, 0, none⟩ = some y0) ∧ (∀ W, Below w1.heap.size w1 W → W.cell? ⟨h, 1, none⟩ = some y1) ∧ (∀ W, Below w1.heap.size w1 W → W.cell? ⟨h, 2, none⟩ = some y2) ∧ (∀ W, Below w1.heap.size w1 W → W.cell? ⟨h, 3, none⟩ = some y3) :=
  ⟨fun _ hW => (ho.grow hW).cell 0, fun _ hW => (ho.grow hW).cell 1, fun _ hW => (hp.grow hW).cell 0, fun _ hW => (hp.grow hW).cell 1, fun _ hW => (hp.grow hW).cell 2, fun _ hW => (hp.grow hW).cell 3⟩

set_option maxRecDepth 100000 in
set_option maxHeartbeats 2000000 in
theorem fnExactPunctOk_walk (N : Int) (A : Option Addr) (ca : Nat) (xs : List Nat) (a b c d : Int) (w : World) (hA : Rd w A (us xs)) (hu : U64 xs) (hn : xs.length ≤ 9223372036854775807) :
    Calls Try.prog 5 #[.agg #[.int .i64 N, .slice A xs.length ca], pv a b c d] w fun e w' => e = .returned (.bool true) ∧ Below w.heap.size w w' := by
  have HA := Lib.hid (fun W (h : Below w.heap.size w W) => hA.below h)
  clear hA
  by_cases hl : xs.length ≤ 1048576
  · have e1 : less 1048576 xs.length = 1048576 - (xs.length : Int) := by simp [less]; omega
    have E1 := Lib.hid e1
    clear e1
    generalize hT : tf (okP N xs (a, b, c, d)) = T
    have hne : (T != T) = false := by simp
    go_enter Try.func5, Try.ntmps5
    go_wp2_with fail
    refine (as_int E1.out (szLat_any N A xs.length ca 1048576 _ (by omega) (by omega) hn)).mono ?_
    rintro e w1 ⟨rfl, hb1⟩
    obtain ⟨ho1, hp1, hB1⟩ := box_two hb1
    clear hb1
    obtain ⟨k0, k1, j0, j1, j2, j3⟩ := two_boxes ho1 hp1
    have HA1 := Lib.hid (fun W (h : Below w1.heap.size w1 W) => HA.out W (below_trans hB1 h))
    go_wp2
    go_region_held3 (fun W => Below w1.heap.size w1 W) (first | exact (Below.refl _ _).drew | exact below_trans (by assumption) (by assumption))
      (first
        | (go_at_call 27; refine (toLat_any N A ca xs _ (HA1.out _ (by assumption)) hl).mono ?_; rintro e w2 ⟨g2, rfl, hg2, hown2, hb2⟩)
        | (go_at_call 28; refine (toPunct_any a b c d _).mono ?_; rintro e w3 ⟨rfl, hb3⟩)
        | (go_at_call 26; refine (as_bool hT (specPunctOk_any N _ _ xs a b c d _ (by first | exact hown2.rd | exact (hown2.grow (by assumption)).rd) hu hl)).mono ?_; rintro e w4 ⟨rfl, hb4⟩))
    all_goals
      have hB4 : Below w1.heap.size w1 w4 := by assumption
      replace hB1 := below_trans hB1 hB4
      replace ho1 := ho1.grow hB4
      replace hp1 := hp1.grow hB4
      clear HA1 k0 k1 j0 j1 j2 j3
      obtain ⟨c0, c1⟩ := ho1.two
      clear hown2 hb2 hb3 hb4 hB4 hg2
      go_wp2_with fail
      clear c0 c1
      refine (toLat_any N A ca xs _ (HA.out _ hB1) hl).mono ?_
      rintro e w5 ⟨g5, rfl, hg5, hown5, hb5⟩
      replace ho1 := ho1.grow hb5
      replace hp1 := hp1.grow hb5
      replace hB1 := below_trans hB1 hb5
      have hx : Own (w5.alloc (.cells #[.int .i64 N, .slice (some ⟨g5, 0, none⟩) xs.length xs.length] 26)) w5.heap.size 26 [.int .i64 N, .slice (some ⟨g5, 0, none⟩) xs.length xs.length] := Own.new _ _ [_, _]
      replace ho1 := ho1.alloc (.cells #[.int .i64 N, .slice (some ⟨g5, 0, none⟩) xs.length xs.length] 26)
      replace hp1 := hp1.alloc (.cells #[.int .i64 N, .slice (some ⟨g5, 0, none⟩) xs.length xs.length] 26)
      replace hown5 := hown5.alloc (.cells #[.int .i64 N, .slice (some ⟨g5, 0, none⟩) xs.length xs.length] 26)
      replace hB1 := below_trans hB1 (below_alloc w5 (.cells #[.int .i64 N, .slice (some ⟨g5, 0, none⟩) xs.length xs.length] 26))
      go_wp2
      generalize hV : w5.alloc (.cells #[.int .i64 N, .slice (some ⟨g5, 0, none⟩) xs.length xs.length] 26) = v at *
      obtain ⟨x0, x1, j0, j1, j2, j3⟩ := two_boxes hx hp1
      go_region_held3 (fun W => Below v.heap.size v W) (first | exact (Below.refl _ _).drew | exact below_trans (by assumption) (by assumption))
        (first
          | (go_at_call 28; refine (toPunct_any a b c d _).mono ?_; rintro e w6 ⟨rfl, hb6⟩)
          | (go_at_call 29; refine (as_bool hT (implPunctOk_any N _ _ xs a b c d _ ((hown5.grow (by assumption)).rd) hu hl)).mono ?_; rintro e w7 ⟨rfl, hb7⟩))
      have hB7 : Below v.heap.size v w7 := by assumption
      replace hB1 := below_trans hB1 hB7
      replace ho1 := ho1.grow hB7
      replace hx := hx.grow hB7
      replace hown5 := hown5.grow hB7
      clear hp1 x0 x1 j0 j1 j2 j3 hb6 hb7 hB7 hV
      have k1 : ∀ W, Below w7.heap.size w7 W → W.cell? ⟨w.heap.size, 0, none⟩ = some (.int .i64 N) := fun W h => (ho1.grow h).two.1
      have k2 : ∀ W, Below w7.heap.size w7 W → W.cell? ⟨w.heap.size, 1, none⟩ = some (.slice A xs.length ca) := fun W h => (ho1.grow h).two.2
      have k3 : ∀ W, Below w7.heap.size w7 W → W.cell? ⟨w5.heap.size, 0, none⟩ = some (.int .i64 N) := fun W h => (hx.grow h).two.1
      have k4 : ∀ W, Below w7.heap.size w7 W → W.cell? ⟨w5.heap.size, 1, none⟩ = some (.slice (some ⟨g5, 0, none⟩) xs.length xs.length) := fun W h => (hx.grow h).two.2
      have HR := Lib.hid (fun W (h : Below w7.heap.size w7 W) => hown5.rd.below h)
      have HA5 := Lib.hid (fun W (h : Below w7.heap.size w7 W) => HA.out W (below_trans hB1 h))
      clear hown5 hx ho1
      go_wp2
      go_region_held3 (fun W => Below w7.heap.size w7 W) (first | exact (Below.refl _ _).drew | exact below_trans (by assumption) (by assumption))
        (first
          | (go_at_call 27; refine (toLat_any N A ca xs _ (HA5.out _ (by assumption)) hl).mono ?_; rintro e w8 ⟨g8, rfl, hg8, hown8, hb8⟩)
          | (go_at_call 30; refine (eqLat_same N _ _ _ _ xs _ (HR.out _ (by assumption)) hown8.rd (by omega)).mono ?_; rintro e w9 ⟨rfl, hb9⟩))
      have hB9 : Below w7.heap.size w7 w9 := by assumption
      clear hb8 hb9 hg8 hown8
      go_wp2
      go_ret
      exact ⟨rfl, below_trans hB1 hB9⟩
  · have e1 : less 1048576 xs.length = -1 := by simp [less]; omega
    go_enter Try.func5, Try.ntmps5
    go_wp2_with fail
    refine (as_int e1 (szLat_any N A xs.length ca 1048576 _ (by omega) (by omega) hn)).mono ?_
    rintro e w1 ⟨rfl, hb1⟩
    go_wp2
    go_ret
    exact ⟨rfl, (box_two hb1).2.2⟩
end Go.Proofs.Ytipcjofmplpffaa
