/-
  What the program's LatOk, LatLe, LatJoin and LatMeet return.
-/
import Derived.Test.YtipcjofmplpffaaLatImplC
namespace Go.Proofs.Ytipcjofmplpffaa
open Go.RowKit

theorem rowsBounded_flip (A : Option Addr) (ca : Nat) (xs : List Nat) (w : World) (hA : Rd w A (us (flip xs))) (hn : xs.length ≤ 16) :
    Calls Try.prog 84 #[.slice A xs.length ca] w fun e w' => e = .returned (.bool (tf (Bnd xs false))) ∧ Below w.heap.size w w' := by
  have h := rowsBounded_any A ca (flip xs) w hA (flip_u64 (by omega)) (flip_small xs) (by rw [flip_length]; omega)
  rw [flip_length, tf_iff (flip_bnd xs)] at h
  exact h

theorem flipRows_at (A : Option Addr) (ca : Nat) (xs : List Nat) (w : World) (hA : Rd w A (us xs)) (hu : U64 xs) (hn : xs.length ≤ 16) :
    Calls Try.prog 66 #[.slice A xs.length ca] w fun e w' => ∃ g, e = .returned (.slice (some ⟨g, 0, none⟩) xs.length xs.length) ∧ Rd w' (some ⟨g, 0, none⟩) (us (flip xs)) ∧ Below w.heap.size w w' :=
  (flipRows_any A ca xs w hA hu hn).mono fun e w' ⟨g, _, he, hown, hb⟩ => ⟨g, by rw [he]; simp [us_length, flip_length], hown.rd, hb⟩

set_option maxHeartbeats 1000000 in
theorem implLatOk_any (N : Int) (A : Option Addr) (ca : Nat) (xs : List Nat) (w : World) (hA : Rd w A (us xs)) (hu : U64 xs) (hn : xs.length ≤ 1048576) :
    Calls Try.prog 63 #[.agg #[.int .i64 N, .slice A xs.length ca]] w fun e w' => e = .returned (.bool (tf (LatP N xs))) ∧ Below w.heap.size w w' := by
  have HA := fun W (h : Below w.heap.size w W) => hA.below h
  have HA := Lib.hid HA
  clear hA
  go_enter Try.func63, Try.ntmps63
  go_wp2_with fail
  by_cases h1 : Fit N xs ∧ Small xs
  · have h16 : xs.length ≤ 16 := by obtain ⟨⟨_, h, h'⟩, _⟩ := h1; omega
    refine (as_bool (tf_yes h1).symm (rowsFit_any N A ca xs _ (HA.out _ (below_alloc _ _)) hu (by omega))).mono ?_
    have H1 := Lib.hid h1
    clear h1
    rintro e w1 ⟨rfl, hb1⟩
    obtain ⟨ho1, hb1⟩ := box_own hb1
    obtain ⟨c0, c1⟩ := ho1.two
    go_wp2_with fail
    clear c0 c1
    by_cases h2 : Ord xs
    · refine (as_bool (tf_yes h2).symm (rowsOrdered_any A ca xs _ (HA.out _ hb1) hu H1.out.2 h16)).mono ?_
      have H2 := Lib.hid h2
      clear h2
      rintro e w2 ⟨rfl, hb2⟩
      have ho2 := ho1.grow hb2
      replace hb2 := below_trans hb1 hb2
      clear ho1 hb1
      obtain ⟨c0, c1⟩ := ho2.two
      go_wp2_with fail
      clear c0 c1
      by_cases h3 : Bnd xs true
      · refine (as_bool (tf_yes h3).symm (rowsBounded_any A ca xs _ (HA.out _ hb2) hu H1.out.2 h16)).mono ?_
        have H3 := Lib.hid h3
        clear h3
        rintro e w3 ⟨rfl, hb3⟩
        have ho3 := ho2.grow hb3
        replace hb3 := below_trans hb2 hb3
        clear ho2 hb2
        obtain ⟨c0, c1⟩ := ho3.two
        go_wp2_with fail
        clear c0 c1
        refine (flipRows_at A ca xs _ (HA.out _ hb3) hu h16).mono ?_
        rintro e w4 ⟨g, rfl, hrd, hb4⟩
        replace hb4 := below_trans hb3 hb4
        clear hb3 ho3
        go_wp2_with fail
        refine (rowsBounded_flip (some ⟨g, 0, none⟩) xs.length xs _ hrd h16).mono ?_
        rintro e w5 ⟨rfl, hb5⟩
        go_wp2
        go_ret
        refine ⟨ret_bool (tf_iff ⟨fun h => ⟨H1.out.1, H1.out.2, H2.out, H3.out, h⟩, fun h => h.2.2.2.2⟩), below_trans hb4 hb5⟩
      · refine (as_bool (tf_no h3).symm (rowsBounded_any A ca xs _ (HA.out _ hb2) hu H1.out.2 h16)).mono ?_
        have H3 := Lib.hid h3
        clear h3
        rintro e w3 ⟨rfl, hb3⟩
        go_wp2
        go_ret
        exact ⟨ret_bool (tf_no (fun h => H3.out h.2.2.2.1)), below_trans hb2 hb3⟩
    · refine (as_bool (tf_no h2).symm (rowsOrdered_any A ca xs _ (HA.out _ hb1) hu H1.out.2 h16)).mono ?_
      have H2 := Lib.hid h2
      clear h2
      rintro e w2 ⟨rfl, hb2⟩
      go_wp2
      go_ret
      exact ⟨ret_bool (tf_no (fun h => H2.out h.2.2.1)), below_trans hb1 hb2⟩
  · refine (as_bool (tf_no h1).symm (rowsFit_any N A ca xs _ (HA.out _ (below_alloc _ _)) hu (by omega))).mono ?_
    have H1 := Lib.hid h1
    clear h1
    rintro e w1 ⟨rfl, hb1⟩
    go_wp2
    go_ret
    exact ⟨ret_bool (tf_no (fun h => H1.out ⟨h.1, h.2.1⟩)), (box_own hb1).2⟩

/-! ### labels, and what is asked of two of them -/

def Lab (xs : List Nat) (a : Int) : Prop := 0 ≤ a ∧ a < (xs.length : Int)
noncomputable def boundV (N : Int) (xs : List Nat) (up : Bool) (a b : Int) : Int := if tf (LatP N xs ∧ Lab xs a ∧ Lab xs b) = true then bound xs up a.toNat b.toNat else -1
theorem boundV_no {N : Int} {xs : List Nat} {up : Bool} {a b : Int} (h : ¬ (LatP N xs ∧ Lab xs a ∧ Lab xs b)) : -1 = boundV N xs up a b := by
  unfold boundV; rw [← tf_no h]; rfl
theorem boundV_yes {N : Int} {xs : List Nat} {up : Bool} {a b : Nat} (h : LatP N xs) (ha : a < xs.length) (hb : b < xs.length) : bound xs up a b = boundV N xs up a b := by
  unfold boundV; rw [← tf_yes ⟨h, ⟨by omega, by omega⟩, ⟨by omega, by omega⟩⟩]; rfl
theorem LatP.len {N : Int} {xs : List Nat} (h : LatP N xs) : (xs.length : Int) = N ∧ 1 ≤ xs.length ∧ xs.length ≤ 16 := by
  obtain ⟨⟨h1, h2, h3⟩, _⟩ := h
  omega

theorem isLabel_is (n : Nat) (a : Int) (xs : List Nat) (b : Bool) (w : World) (hn : n = xs.length) (h : tf (Lab xs a) = b) :
    Calls Try.prog 87 #[.int .i64 (n : Int), .int .i64 a] w fun e w' => e = .returned (.bool b) ∧ w = w' := by
  refine as_bool (R := fun w' => w = w') ?_ (isLabel_any n a w)
  subst hn
  rw [← h, Bool.eq_iff_iff, tf_true]
  simp [Lab]

theorem leastIn_flip (A : Option Addr) (ca : Nat) (xs : List Nat) (set : Nat) (w : World) (hA : Rd w A (us (flip xs))) (hset : set < 18446744073709551616) (hn : xs.length ≤ 64) :
    Calls Try.prog 65 #[.slice A xs.length ca, .int .u64 (set : Int)] w fun e w' => e = .returned (.int .i64 (least (flip xs) set)) ∧ w = w' := by
  have h := leastIn_any A ca (flip xs) set w hA (flip_u64 hn) hset (by rw [flip_length]; exact hn)
  rw [flip_length] at h
  exact h

noncomputable def leV (N : Int) (xs : List Nat) (a b : Int) : Bool := tf (LatP N xs ∧ Lab xs a ∧ Lab xs b) && le xs a.toNat b.toNat
theorem leV_no {N : Int} {xs : List Nat} {a b : Int} (h : ¬ (LatP N xs ∧ Lab xs a ∧ Lab xs b)) : false = leV N xs a b := by
  unfold leV; rw [← tf_no h]; rfl
theorem leV_yes {N : Int} {xs : List Nat} {a b : Nat} (h : LatP N xs) (ha : a < xs.length) (hb : b < xs.length) : (row xs a).testBit b = leV N xs a b := by
  unfold leV; rw [← tf_yes ⟨h, ⟨by omega, by omega⟩, ⟨by omega, by omega⟩⟩]; rfl

end Go.Proofs.Ytipcjofmplpffaa
