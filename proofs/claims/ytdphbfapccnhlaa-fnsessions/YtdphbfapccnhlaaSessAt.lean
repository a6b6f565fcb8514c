/-
  SessAt, the model's and the program's: what it returns.
-/
import Derived.Test.YtdphbfapccnhlaaWinKit
namespace Go.Proofs.Ytdphbfapccnhlaa
open Go.RowKit

/-- none of the first k windows holds t -/
def noneTo (ws : List Wn) (t : Int) (k : Nat) : Prop := ∀ j, j < k → ¬ inWin t (wat ws j)
theorem noneTo_succ {ws : List Wn} {t : Int} {k : Nat} (h : noneTo ws t k) (h1 : ¬ inWin t (wat ws k)) : noneTo ws t (k + 1) := fun j hj => by
  by_cases e : j = k
  · subst e; exact h1
  · exact h j (by omega)
def FirstAt (ws : List Wn) (t : Int) (k : Nat) : Prop := k < ws.length ∧ inWin t (wat ws k) ∧ noneTo ws t k
theorem first_unique {ws : List Wn} {t : Int} {k j : Nat} (h : FirstAt ws t k) (g : FirstAt ws t j) : k = j := by
  rcases Nat.lt_trichotomy k j with c | c | c
  · exact absurd h.2.1 (g.2.2 k c)
  · exact c
  · exact absurd g.2.1 (h.2.2 j c)
open Classical in
/-- the index of the first window that holds t, or -1 -/
noncomputable def firstOf (ws : List Wn) (t : Int) : Int := if h : ∃ k, FirstAt ws t k then (Classical.choose h : Nat) else -1
theorem firstOf_at {ws : List Wn} {t : Int} {k : Nat} (h : FirstAt ws t k) : firstOf ws t = k := by
  have e : ∃ k, FirstAt ws t k := ⟨k, h⟩
  unfold firstOf
  rw [dif_pos e, first_unique (Classical.choose_spec e) h]
theorem firstOf_none {ws : List Wn} {t : Int} (h : noneTo ws t ws.length) : firstOf ws t = -1 := by
  unfold firstOf
  rw [dif_neg]
  rintro ⟨k, h1, h2, _⟩
  exact h k h1 h2
open Classical in
noncomputable def sessAt (ws : List Wn) (t : Int) : Int := if sessOk ws then firstOf ws t else -1
theorem sessAt_ok {ws : List Wn} {t : Int} (h : sessOk ws) : sessAt ws t = firstOf ws t := by unfold sessAt; rw [if_pos h]
theorem sessAt_bad {ws : List Wn} {t : Int} (h : ¬ sessOk ws) : sessAt ws t = -1 := by unfold sessAt; rw [if_neg h]

set_option maxRecDepth 100000 in
set_option maxHeartbeats 2000000 in
theorem specSessAt_any (A : Option Addr) (n ca : Nat) (ws : List Wn) (t : Int) (w : World) (hA : Rd w A (ez ws)) (hz : ws.length = n) (hn : n ≤ 2097152) :
    Calls Try.prog 42 #[.slice A n ca, .int .i64 t] w fun e w' => e = .returned (.int .i64 (sessAt ws t)) ∧ Below w.heap.size w w' := by
  have HA := Lib.hid hA
  have HZ := Lib.hid hz
  clear hA hz
  by_cases hs : sessOk ws
  · have HS := Lib.hid hs
    clear hs
    go_enter Try.func42, Try.ntmps42
    go_wp2
    go_loopw [5] (fun i wr => ∃ k : Nat, k ≤ n ∧ i = .int .i64 k ∧ Hid (noneTo ws t k) ∧ Below w.heap.size w wr) (fun i _ => n - (intOf i).toNat)
    case atStart => exact ⟨0, Nat.zero_le _, rfl, Lib.hid fun i hi => by omega, Below.refl _ _⟩
    case round =>
      obtain ⟨k, hk, rfl, HT, hbel⟩ := hrel
      by_cases hlt : k < n
      · go_wp2_with fail
        refine (as_bool (tf_yes HS.out).symm (specSessOk_any A n ca ws _ (HA.out.below hbel) HZ.out hn)).mono ?_
        rintro e w1 ⟨rfl, hb1⟩
        have hlm : k < ws.length := by rw [HZ.out]; exact hlt
        obtain ⟨b, off, rfl, c0, c1⟩ := win_cells HA.out (below_trans hbel hb1) hlm
        replace c0 := c0 ⟨w1, Below.refl _ _⟩
        replace c1 := c1 ⟨w1, Below.refl _ _⟩
        simp only at c0 c1
        by_cases h1 : inWin t (wat ws k)
        · have HR := Lib.hid (firstOf_at ⟨hlm, h1, HT.out⟩)
          obtain ⟨g1, g2⟩ := h1
          generalize wat ws k = q at *
          obtain ⟨q0, q1⟩ := q
          simp only at g1 g2
          go_wp2
          go_ret
          exact ⟨ret_int (by rw [sessAt_ok HS.out, HR.out]), below_trans hbel hb1⟩
        · have HR := Lib.hid (noneTo_succ HT.out h1)
          unfold inWin at h1
          generalize wat ws k = q at *
          obtain ⟨q0, q1⟩ := q
          simp only at h1
          by_cases g1 : q0 ≤ t
          · have g2 : ¬ t < q1 := fun h => h1 ⟨g1, h⟩
            clear h1
            go_wp2
            go_roundw
            case rel => exact ⟨k + 1, by omega, by go_num, HR, below_trans hbel hb1⟩
            case measure => simp [intOf]; omega
          · clear h1
            go_wp2
            go_roundw
            case rel => exact ⟨k + 1, by omega, by go_num, HR, below_trans hbel hb1⟩
            case measure => simp [intOf]; omega
      · go_wp2_with fail
        refine (as_bool (tf_yes HS.out).symm (specSessOk_any A n ca ws _ (HA.out.below hbel) HZ.out hn)).mono ?_
        rintro e w1 ⟨rfl, hb1⟩
        go_wp2
        go_ret
        exact ⟨ret_int (by rw [sessAt_ok HS.out, firstOf_none (by have h := HT.out; rw [show k = ws.length by rw [HZ.out]; omega] at h; exact h)]), below_trans hbel hb1⟩
  · have HS := Lib.hid hs
    clear hs
    go_enter Try.func42, Try.ntmps42
    go_wp2
    go_loopw [5] (fun i wr => i = .int .i64 0 ∧ wr = w) (fun i _ => 0)
    case atStart => exact ⟨rfl, rfl⟩
    case round =>
      obtain ⟨rfl, rfl⟩ := hrel
      go_wp2_with fail
      refine (as_bool (tf_no HS.out).symm (specSessOk_any A n ca ws _ HA.out HZ.out hn)).mono ?_
      rintro e w1 ⟨rfl, hb1⟩
      go_wp2
      go_ret
      exact ⟨ret_int (by rw [sessAt_bad HS.out]), hb1⟩

set_option maxHeartbeats 400000 in
theorem inWin_any (a b t : Int) (B : Nat) (w : World) (hB : Own w B 3 [.int .i64 t]) :
    Calls Try.prog 56 #[.agg #[.int .i64 a, .int .i64 b], .pointer (some ⟨B, 0, none⟩)] w fun e w' => e = .returned (.bool (tf (inWin t (a, b)))) ∧ Below w.heap.size w w' := by
  have h0 := (hB.alloc (.cells #[.int .i64 a, .int .i64 b] 32)).cell 0
  simp only [List.getElem?_cons_zero] at h0
  by_cases g1 : a ≤ t
  · by_cases g2 : t < b
    · go_enter Try.func56, Try.ntmps56
      go_wp2
      go_ret
      exact ⟨ret_bool (tf_yes ⟨g1, g2⟩), below_alloc _ _⟩
    · go_enter Try.func56, Try.ntmps56
      go_wp2
      go_ret
      exact ⟨ret_bool (tf_no (by unfold inWin; simp only; omega)), below_alloc _ _⟩
  · go_enter Try.func56, Try.ntmps56
    go_wp2
    go_ret
    exact ⟨ret_bool (tf_no (by unfold inWin; simp only; omega)), below_alloc _ _⟩

set_option maxRecDepth 100000 in
set_option maxHeartbeats 2000000 in
theorem indexFunc_any (A : Option Addr) (n ca : Nat) (ws : List Wn) (t : Int) (B : Nat) (w : World) (hA : Rd w A (ez ws)) (hz : ws.length = n) (hn : n ≤ 2097152) (hB : Own w B 3 [.int .i64 t]) :
    Calls Try.prog 55 #[.slice A n ca, .func (.func 56) #[] #[.pointer (some ⟨B, 0, none⟩)]] w fun e w' => e = .returned (.int .i64 (firstOf ws t)) ∧ Below w.heap.size w w' := by
  have HA := Lib.hid hA
  have HZ := Lib.hid hz
  have HB := Lib.hid hB
  clear hA hz hB
  go_enter Try.func55, Try.ntmps55
  go_wp2
  go_loopw [8] (fun i wr => ∃ k : Nat, k ≤ n ∧ i = .int .i64 k ∧ Hid (noneTo ws t k) ∧ Below w.heap.size w wr) (fun i _ => n - (intOf i).toNat)
  case atStart => exact ⟨0, Nat.zero_le _, rfl, Lib.hid fun i hi => by omega, Below.refl _ _⟩
  case round =>
    obtain ⟨k, hk, rfl, HT, hbel⟩ := hrel
    by_cases hlt : k < n
    · have hlm : k < ws.length := by rw [HZ.out]; exact hlt
      obtain ⟨b, off, rfl, c0, c1⟩ := win_cells HA.out hbel hlm
      replace c0 := c0 ⟨wr, Below.refl _ _⟩
      replace c1 := c1 ⟨wr, Below.refl _ _⟩
      simp only at c0 c1
      by_cases h1 : inWin t (wat ws k)
      · have HR := Lib.hid (firstOf_at ⟨hlm, h1, HT.out⟩)
        have H1 := Lib.hid (tf_yes h1).symm
        clear h1
        generalize wat ws k = q at *
        obtain ⟨q0, q1⟩ := q
        go_wp2_with fail
        refine (as_bool H1.out (inWin_any q0 q1 t B _ (HB.out.grow hbel))).mono ?_
        rintro e w1 ⟨rfl, hb1⟩
        go_wp2
        go_ret
        exact ⟨ret_int HR.out.symm, below_trans hbel hb1⟩
      · have HR := Lib.hid (noneTo_succ HT.out h1)
        have H1 := Lib.hid (tf_no h1).symm
        clear h1
        generalize wat ws k = q at *
        obtain ⟨q0, q1⟩ := q
        go_wp2_with fail
        refine (as_bool H1.out (inWin_any q0 q1 t B _ (HB.out.grow hbel))).mono ?_
        rintro e w1 ⟨rfl, hb1⟩
        go_wp2
        go_roundw
        case rel => exact ⟨k + 1, by omega, by go_num, HR, below_trans hbel hb1⟩
        case measure => simp [intOf]; omega
    · go_wp2
      go_ret
      exact ⟨ret_int (by rw [firstOf_none (by have h := HT.out; rw [show k = ws.length by rw [HZ.out]; omega] at h; exact h)]), hbel⟩

set_option maxHeartbeats 1000000 in
theorem implSessAt_any (A : Option Addr) (n ca : Nat) (ws : List Wn) (t : Int) (w : World) (hA : Rd w A (ez ws)) (hz : ws.length = n) (hn : n ≤ 2097152) :
    Calls Try.prog 23 #[.slice A n ca, .int .i64 t] w fun e w' => e = .returned (.int .i64 (sessAt ws t)) ∧ Below w.heap.size w w' := by
  have HA := Lib.hid (fun W (h : Below w.heap.size w W) => hA.below h)
  have HZ := Lib.hid hz
  clear hA hz
  go_enter Try.func23, Try.ntmps23
  go_wp2_with fail
  by_cases hs : sessOk ws
  · refine (as_bool (tf_yes hs).symm (implSessOk_any A n ca ws _ (HA.out _ (below_alloc _ _)) HZ.out hn)).mono ?_
    have HS := Lib.hid hs
    clear hs
    rintro e w1 ⟨rfl, hb1⟩
    obtain ⟨ho, hb⟩ := box_own (cs := [.int .i64 t]) hb1
    clear hb1
    go_wp2_with fail
    refine (indexFunc_any A n ca ws t _ _ (HA.out _ hb) HZ.out hn ho).mono ?_
    rintro e w2 ⟨rfl, hb2⟩
    go_wp2
    go_ret
    exact ⟨ret_int (sessAt_ok HS.out).symm, below_trans hb hb2⟩
  · refine (as_bool (tf_no hs).symm (implSessOk_any A n ca ws _ (HA.out _ (below_alloc _ _)) HZ.out hn)).mono ?_
    have HS := Lib.hid hs
    clear hs
    rintro e w1 ⟨rfl, hb1⟩
    obtain ⟨ho, hb⟩ := box_own (cs := [.int .i64 t]) hb1
    clear hb1
    go_wp2
    go_ret
    exact ⟨ret_int (sessAt_bad HS.out).symm, hb⟩
end Go.Proofs.Ytdphbfapccnhlaa
