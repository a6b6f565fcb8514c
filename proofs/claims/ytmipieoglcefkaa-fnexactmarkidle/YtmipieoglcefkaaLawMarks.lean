/-
  The laws on MarksLeast, MarksOk and MarksLate: at every marks value the program answers as the model and writes into no argument.
-/
import Derived.Test.YtmipieoglcefkaaMarkI
import Derived.Test.YtmipieoglcefkaaKitMarkB
import Derived.Deep.RegionHeld3
namespace Go.Proofs.Ytmipieoglcefkaa
open Go.RowKit

set_option maxHeartbeats 2000000 in
theorem fnExactMarksLeast_walk (G : Int) (A : Option Addr) (ca : Nat) (ms : List Mk) (w : World) (hA : Rd w A (mz ms)) (hn : ms.length ≤ 9223372036854775807) :
    Calls Try.prog 8 #[msv G (.slice A ms.length ca)] w fun e w' => e = .returned (.bool true) ∧ Below w.heap.size w w' := by
  have HA := Lib.hid (fun W (h : Below w.heap.size w W) => hA.below h)
  clear hA
  by_cases hl : (ms.length : Int) ≤ 1048576
  · have E1 := Lib.hid (show lessF 1048576 ms.length = 1048576 - (ms.length : Int) by simp [lessF]; omega)
    have hl2 : ms.length ≤ 1048576 := by omega
    obtain ⟨r, HR⟩ : ∃ r, Hid (leastOf ms = r) := ⟨_, Lib.hid rfl⟩
    have hne : (r != r) = false := by simp
    go_enter Try.func8, Try.ntmps8
    go_wp2_with fail
    refine (as_int E1.out (szMarks_any G A ms.length ca 1048576 _ (by omega) (by omega) hn)).mono ?_
    rintro e w1 ⟨rfl, hb1⟩
    obtain ⟨ho, hb⟩ := box_own hb1
    clear hb1
    obtain ⟨c0, c1⟩ := ho.two
    go_wp2_with fail
    clear c0 c1
    refine (toMarks_any G A ms.length ca ms _ (HA.out _ hb) rfl hl2).mono ?_
    rintro e w2 ⟨g2, rfl, hg2, hown2, hb2⟩
    replace ho := ho.grow hb2
    replace hb := below_trans hb hb2
    go_wp2_with fail
    refine (as_int HR.out (specMarksLeast_any G _ _ _ ms _ hown2.rd rfl hl2)).mono ?_
    rintro e w3 ⟨rfl, hb3⟩
    replace ho := ho.grow hb3
    replace hb := below_trans hb hb3
    clear hown2 hb2 hb3 hg2
    obtain ⟨c0, c1⟩ := ho.two
    go_wp2_with fail
    clear c0 c1
    refine (toMarks_any G A ms.length ca ms _ (HA.out _ hb) rfl hl2).mono ?_
    rintro e w4 ⟨g4, rfl, hg4, hown4, hb4⟩
    replace ho := (ho.grow hb4).alloc (.cells #[.int .i64 G, .slice (some ⟨g4, 0, none⟩) ms.length ms.length] 26)
    replace hb := below_trans (below_trans hb hb4) (below_alloc w4 (.cells #[.int .i64 G, .slice (some ⟨g4, 0, none⟩) ms.length ms.length] 26))
    have hx : Own (w4.alloc (.cells #[.int .i64 G, .slice (some ⟨g4, 0, none⟩) ms.length ms.length] 26)) w4.heap.size 26 [.int .i64 G, .slice (some ⟨g4, 0, none⟩) ms.length ms.length] := Own.new _ _ [_, _]
    replace hown4 := hown4.alloc (.cells #[.int .i64 G, .slice (some ⟨g4, 0, none⟩) ms.length ms.length] 26)
    clear hb4 hg4
    go_wp2_with fail
    refine (as_int HR.out (implMarksLeast_any G _ _ _ ms _ hown4.rd rfl hl2)).mono ?_
    rintro e w7 ⟨rfl, hb5⟩
    replace ho := ho.grow hb5
    replace hx := hx.grow hb5
    replace hown4 := hown4.grow hb5
    replace hb := below_trans hb hb5
    clear hb5
    have k1 : ∀ W, Below w7.heap.size w7 W → W.cell? ⟨w.heap.size, 0, none⟩ = some (.int .i64 G) := fun W h => (ho.grow h).two.1
    have k2 : ∀ W, Below w7.heap.size w7 W → W.cell? ⟨w.heap.size, 1, none⟩ = some (.slice A ms.length ca) := fun W h => (ho.grow h).two.2
    have k3 : ∀ W, Below w7.heap.size w7 W → W.cell? ⟨w4.heap.size, 0, none⟩ = some (.int .i64 G) := fun W h => (hx.grow h).two.1
    have k4 : ∀ W, Below w7.heap.size w7 W → W.cell? ⟨w4.heap.size, 1, none⟩ = some (.slice (some ⟨g4, 0, none⟩) ms.length ms.length) := fun W h => (hx.grow h).two.2
    have HRd := Lib.hid (fun W (h : Below w7.heap.size w7 W) => hown4.rd.below h)
    have HA5 := Lib.hid (fun W (h : Below w7.heap.size w7 W) => HA.out W (below_trans hb h))
    clear hown4 hx ho
    go_wp2
    go_region_held3 (fun W => Below w7.heap.size w7 W) (first | exact (Below.refl _ _).drew | exact below_trans (by assumption) (by assumption))
      (first
        | (go_at_call 27; refine (toMarks_any G A ms.length ca ms _ (HA5.out _ (by assumption)) rfl hl2).mono ?_; rintro e w8 ⟨g8, rfl, hg8, hown8, hb8⟩)
        | (go_at_call 23; refine (eqMarks_same G _ _ ms.length _ _ ms _ (HRd.out _ (by assumption)) hown8.rd rfl hl2).mono ?_; rintro e w9 ⟨rfl, hb9⟩))
    have hB9 : Below w7.heap.size w7 w9 := by assumption
    go_wp2
    go_ret
    exact ⟨rfl, below_trans hb hB9⟩
  · have e1 : lessF 1048576 ms.length = -1 := by simp [lessF]; omega
    go_enter Try.func8, Try.ntmps8
    go_wp2_with fail
    refine (as_int e1 (szMarks_any G A ms.length ca 1048576 _ (by omega) (by omega) hn)).mono ?_
    rintro e w1 ⟨rfl, hb1⟩
    go_wp2
    go_ret
    exact ⟨rfl, (box_own hb1).2⟩

set_option maxHeartbeats 2000000 in
theorem fnExactMarksOk_walk (G : Int) (A : Option Addr) (ca : Nat) (ms : List Mk) (w : World) (hA : Rd w A (mz ms)) (hn : ms.length ≤ 9223372036854775807) :
    Calls Try.prog 5 #[msv G (.slice A ms.length ca)] w fun e w' => e = .returned (.bool true) ∧ Below w.heap.size w w' := by
  have HA := Lib.hid (fun W (h : Below w.heap.size w W) => hA.below h)
  clear hA
  by_cases hl : (ms.length : Int) ≤ 1048576
  · have E1 := Lib.hid (show lessF 1048576 ms.length = 1048576 - (ms.length : Int) by simp [lessF]; omega)
    have hl2 : ms.length ≤ 1048576 := by omega
    obtain ⟨r, HR⟩ : ∃ r, Hid (tf (marksOk G ms) = r) := ⟨_, Lib.hid rfl⟩
    have hne : (r != r) = false := by simp
    go_enter Try.func5, Try.ntmps5
    go_wp2_with fail
    refine (as_int E1.out (szMarks_any G A ms.length ca 1048576 _ (by omega) (by omega) hn)).mono ?_
    rintro e w1 ⟨rfl, hb1⟩
    obtain ⟨ho, hb⟩ := box_own hb1
    clear hb1
    obtain ⟨c0, c1⟩ := ho.two
    go_wp2_with fail
    clear c0 c1
    refine (toMarks_any G A ms.length ca ms _ (HA.out _ hb) rfl hl2).mono ?_
    rintro e w2 ⟨g2, rfl, hg2, hown2, hb2⟩
    replace ho := ho.grow hb2
    replace hb := below_trans hb hb2
    go_wp2_with fail
    refine (as_bool HR.out (specMarksOk_any G _ _ _ ms _ hown2.rd rfl hl2)).mono ?_
    rintro e w3 ⟨rfl, hb3⟩
    replace ho := ho.grow hb3
    replace hb := below_trans hb hb3
    clear hown2 hb2 hb3 hg2
    obtain ⟨c0, c1⟩ := ho.two
    go_wp2_with fail
    clear c0 c1
    refine (toMarks_any G A ms.length ca ms _ (HA.out _ hb) rfl hl2).mono ?_
    rintro e w4 ⟨g4, rfl, hg4, hown4, hb4⟩
    replace ho := (ho.grow hb4).alloc (.cells #[.int .i64 G, .slice (some ⟨g4, 0, none⟩) ms.length ms.length] 26)
    replace hb := below_trans (below_trans hb hb4) (below_alloc w4 (.cells #[.int .i64 G, .slice (some ⟨g4, 0, none⟩) ms.length ms.length] 26))
    have hx : Own (w4.alloc (.cells #[.int .i64 G, .slice (some ⟨g4, 0, none⟩) ms.length ms.length] 26)) w4.heap.size 26 [.int .i64 G, .slice (some ⟨g4, 0, none⟩) ms.length ms.length] := Own.new _ _ [_, _]
    replace hown4 := hown4.alloc (.cells #[.int .i64 G, .slice (some ⟨g4, 0, none⟩) ms.length ms.length] 26)
    clear hb4 hg4
    go_wp2_with fail
    refine (as_bool HR.out (implMarksOk_any G _ _ _ ms _ hown4.rd rfl hl2)).mono ?_
    rintro e w7 ⟨rfl, hb5⟩
    replace ho := ho.grow hb5
    replace hx := hx.grow hb5
    replace hown4 := hown4.grow hb5
    replace hb := below_trans hb hb5
    clear hb5
    have k1 : ∀ W, Below w7.heap.size w7 W → W.cell? ⟨w.heap.size, 0, none⟩ = some (.int .i64 G) := fun W h => (ho.grow h).two.1
    have k2 : ∀ W, Below w7.heap.size w7 W → W.cell? ⟨w.heap.size, 1, none⟩ = some (.slice A ms.length ca) := fun W h => (ho.grow h).two.2
    have k3 : ∀ W, Below w7.heap.size w7 W → W.cell? ⟨w4.heap.size, 0, none⟩ = some (.int .i64 G) := fun W h => (hx.grow h).two.1
    have k4 : ∀ W, Below w7.heap.size w7 W → W.cell? ⟨w4.heap.size, 1, none⟩ = some (.slice (some ⟨g4, 0, none⟩) ms.length ms.length) := fun W h => (hx.grow h).two.2
    have HRd := Lib.hid (fun W (h : Below w7.heap.size w7 W) => hown4.rd.below h)
    have HA5 := Lib.hid (fun W (h : Below w7.heap.size w7 W) => HA.out W (below_trans hb h))
    clear hown4 hx ho
    go_wp2
    go_region_held3 (fun W => Below w7.heap.size w7 W) (first | exact (Below.refl _ _).drew | exact below_trans (by assumption) (by assumption))
      (first
        | (go_at_call 27; refine (toMarks_any G A ms.length ca ms _ (HA5.out _ (by assumption)) rfl hl2).mono ?_; rintro e w8 ⟨g8, rfl, hg8, hown8, hb8⟩)
        | (go_at_call 23; refine (eqMarks_same G _ _ ms.length _ _ ms _ (HRd.out _ (by assumption)) hown8.rd rfl hl2).mono ?_; rintro e w9 ⟨rfl, hb9⟩))
    have hB9 : Below w7.heap.size w7 w9 := by assumption
    go_wp2
    go_ret
    exact ⟨rfl, below_trans hb hB9⟩
  · have e1 : lessF 1048576 ms.length = -1 := by simp [lessF]; omega
    go_enter Try.func5, Try.ntmps5
    go_wp2_with fail
    refine (as_int e1 (szMarks_any G A ms.length ca 1048576 _ (by omega) (by omega) hn)).mono ?_
    rintro e w1 ⟨rfl, hb1⟩
    go_wp2
    go_ret
    exact ⟨rfl, (box_own hb1).2⟩

set_option maxHeartbeats 2000000 in
theorem fnExactMarksLate_walk (G : Int) (A : Option Addr) (ca : Nat) (ms : List Mk) (t : Int) (w : World) (hA : Rd w A (mz ms)) (hn : ms.length ≤ 9223372036854775807) :
    Calls Try.prog 9 #[msv G (.slice A ms.length ca), .int .i64 t] w fun e w' => e = .returned (.bool true) ∧ Below w.heap.size w w' := by
  have HA := Lib.hid (fun W (h : Below w.heap.size w W) => hA.below h)
  clear hA
  by_cases hl : (ms.length : Int) ≤ 1048576
  · have E1 := Lib.hid (show lessF 1048576 ms.length = 1048576 - (ms.length : Int) by simp [lessF]; omega)
    have hl2 : ms.length ≤ 1048576 := by omega
    obtain ⟨r, HR⟩ : ∃ r, Hid (tf (marksOk G ms ∧ t < G) = r) := ⟨_, Lib.hid rfl⟩
    have hne : (r != r) = false := by simp
    go_enter Try.func9, Try.ntmps9
    go_wp2_with fail
    refine (as_int E1.out (szMarks_any G A ms.length ca 1048576 _ (by omega) (by omega) hn)).mono ?_
    rintro e w1 ⟨rfl, hb1⟩
    obtain ⟨ho, hb⟩ := box_own hb1
    clear hb1
    obtain ⟨c0, c1⟩ := ho.two
    go_wp2_with fail
    clear c0 c1
    refine (toMarks_any G A ms.length ca ms _ (HA.out _ hb) rfl hl2).mono ?_
    rintro e w2 ⟨g2, rfl, hg2, hown2, hb2⟩
    replace ho := ho.grow hb2
    replace hb := below_trans hb hb2
    go_wp2_with fail
    refine (as_bool HR.out (specMarksLate_any G _ _ _ ms t _ hown2.rd rfl hl2)).mono ?_
    rintro e w3 ⟨rfl, hb3⟩
    replace ho := ho.grow hb3
    replace hb := below_trans hb hb3
    clear hown2 hb2 hb3 hg2
    obtain ⟨c0, c1⟩ := ho.two
    go_wp2_with fail
    clear c0 c1
    refine (toMarks_any G A ms.length ca ms _ (HA.out _ hb) rfl hl2).mono ?_
    rintro e w4 ⟨g4, rfl, hg4, hown4, hb4⟩
    replace ho := (ho.grow hb4).alloc (.cells #[.int .i64 G, .slice (some ⟨g4, 0, none⟩) ms.length ms.length] 26)
    replace hb := below_trans (below_trans hb hb4) (below_alloc w4 (.cells #[.int .i64 G, .slice (some ⟨g4, 0, none⟩) ms.length ms.length] 26))
    have hx : Own (w4.alloc (.cells #[.int .i64 G, .slice (some ⟨g4, 0, none⟩) ms.length ms.length] 26)) w4.heap.size 26 [.int .i64 G, .slice (some ⟨g4, 0, none⟩) ms.length ms.length] := Own.new _ _ [_, _]
    replace hown4 := hown4.alloc (.cells #[.int .i64 G, .slice (some ⟨g4, 0, none⟩) ms.length ms.length] 26)
    clear hb4 hg4
    go_wp2_with fail
    refine (as_bool HR.out (implMarksLate_any G _ _ _ ms t _ hown4.rd rfl hl2)).mono ?_
    rintro e w7 ⟨rfl, hb5⟩
    replace ho := ho.grow hb5
    replace hx := hx.grow hb5
    replace hown4 := hown4.grow hb5
    replace hb := below_trans hb hb5
    clear hb5
    have k1 : ∀ W, Below w7.heap.size w7 W → W.cell? ⟨w.heap.size, 0, none⟩ = some (.int .i64 G) := fun W h => (ho.grow h).two.1
    have k2 : ∀ W, Below w7.heap.size w7 W → W.cell? ⟨w.heap.size, 1, none⟩ = some (.slice A ms.length ca) := fun W h => (ho.grow h).two.2
    have k3 : ∀ W, Below w7.heap.size w7 W → W.cell? ⟨w4.heap.size, 0, none⟩ = some (.int .i64 G) := fun W h => (hx.grow h).two.1
    have k4 : ∀ W, Below w7.heap.size w7 W → W.cell? ⟨w4.heap.size, 1, none⟩ = some (.slice (some ⟨g4, 0, none⟩) ms.length ms.length) := fun W h => (hx.grow h).two.2
    have HRd := Lib.hid (fun W (h : Below w7.heap.size w7 W) => hown4.rd.below h)
    have HA5 := Lib.hid (fun W (h : Below w7.heap.size w7 W) => HA.out W (below_trans hb h))
    clear hown4 hx ho
    go_wp2
    go_region_held3 (fun W => Below w7.heap.size w7 W) (first | exact (Below.refl _ _).drew | exact below_trans (by assumption) (by assumption))
      (first
        | (go_at_call 27; refine (toMarks_any G A ms.length ca ms _ (HA5.out _ (by assumption)) rfl hl2).mono ?_; rintro e w8 ⟨g8, rfl, hg8, hown8, hb8⟩)
        | (go_at_call 23; refine (eqMarks_same G _ _ ms.length _ _ ms _ (HRd.out _ (by assumption)) hown8.rd rfl hl2).mono ?_; rintro e w9 ⟨rfl, hb9⟩))
    have hB9 : Below w7.heap.size w7 w9 := by assumption
    go_wp2
    go_ret
    exact ⟨rfl, below_trans hb hB9⟩
  · have e1 : lessF 1048576 ms.length = -1 := by simp [lessF]; omega
    go_enter Try.func9, Try.ntmps9
    go_wp2_with fail
    refine (as_int e1 (szMarks_any G A ms.length ca 1048576 _ (by omega) (by omega) hn)).mono ?_
    rintro e w1 ⟨rfl, hb1⟩
    go_wp2
    go_ret
    exact ⟨rfl, (box_own hb1).2⟩
end Go.Proofs.Ytmipieoglcefkaa
