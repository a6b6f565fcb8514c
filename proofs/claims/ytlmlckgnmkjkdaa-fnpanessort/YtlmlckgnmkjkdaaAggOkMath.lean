/-
  Which aggregates are the aggregate of some list: the condition of the program and of the model, and that it holds of every list. Plain mathematics.
-/
import Derived.Test.YtlmlckgnmkjkdaaAggMath
import Derived.Test.YtlmlckgnmkjkdaaWideA
namespace Go.Proofs.Ytlmlckgnmkjkdaa
open Go.RowKit

def lastOf (l : List Int) : Int := iat l (l.length - 1)
/-- the numbers beyond Top -/
def restOk (N z mn : Int) (top : List Int) : Prop :=
  if N = top.length then mn = lastOf top ∧ z = top.sum
  else mn ≤ lastOf top ∧ top.sum + mn + mn * (N - top.length - 1) ≤ z ∧ z ≤ top.sum + mn + lastOf top * (N - top.length - 1)
def aggOk (N z mn mx : Int) (top : List Int) : Prop :=
  if N = 0 then z = 0 ∧ mn = 0 ∧ mx = 0 ∧ top = []
  else 0 < N ∧ N ≤ 1000000 ∧ (top.length : Int) = (if 4 < N then 4 else N) ∧ mx = iat top 0 ∧ Desc top ∧ restOk N z mn top

theorem aggOk_zero {z mn mx : Int} {top : List Int} : aggOk 0 z mn mx top ↔ z = 0 ∧ mn = 0 ∧ mx = 0 ∧ top = [] := by unfold aggOk; rw [if_pos rfl]
theorem aggOk_some {N z mn mx : Int} {top : List Int} (h : N ≠ 0) : aggOk N z mn mx top ↔ 0 < N ∧ N ≤ 1000000 ∧ (top.length : Int) = (if 4 < N then 4 else N) ∧ mx = iat top 0 ∧ Desc top ∧ restOk N z mn top := by
  unfold aggOk; rw [if_neg h]

theorem sum_cons (a : Int) (l : List Int) : (a :: l).sum = a + l.sum := by simp
theorem sum_bound {l : List Int} (h : ∀ x ∈ l, I64 x) : -(9223372036854775808 * (l.length : Int)) ≤ l.sum ∧ l.sum ≤ 9223372036854775808 * (l.length : Int) := by
  induction l with
  | nil => simp
  | cons a l ih =>
    have h1 := h a (by simp)
    have h2 := ih (fun x hx => h x (by simp [hx]))
    unfold I64 at h1
    rw [sum_cons, List.length_cons]
    omega
theorem mul_bound {a f : Int} (h : I64 a) (h0 : 0 ≤ f) (h1 : f ≤ 1000000) : -9223372036854775808000000 ≤ a * f ∧ a * f ≤ 9223372036854775808000000 := by
  unfold I64 at h
  have e1 : a * f ≤ 9223372036854775808 * f := Int.mul_le_mul_of_nonneg_right (by omega) h0
  have e2 : -9223372036854775808 * f ≤ a * f := Int.mul_le_mul_of_nonneg_right (by omega) h0
  omega
theorem iat_mem {ts : List Int} {i : Nat} (h : i < ts.length) : iat ts i ∈ ts := by
  have : iat ts i = ts[i] := by simp [iat, h]
  rw [this]; exact List.getElem_mem h
theorem lastOf_in {l : List Int} (h : ∀ x ∈ l, I64 x) (h0 : 0 < l.length) : I64 (lastOf l) := h _ (iat_mem (by omega))
theorem wr_ends {a f S m : Int} {l : List Int} (hl : ∀ x ∈ l, I64 x) (hlen : l.length ≤ 4) (hS : S = l.sum) (hm : I64 m) (ha : I64 a) (h0 : 0 ≤ f) (h1 : f ≤ 1000000) : Wr (S + m) ∧ Wr (a * f) ∧ Wr (S + m + a * f) ∧ Wr S := by
  have b1 := sum_bound hl
  have b2 := mul_bound ha h0 h1
  unfold I64 at hm
  unfold Wr
  omega
theorem desc_iff {l : List Int} : Desc l ↔ ∀ i, i + 1 < l.length → iat l (i + 1) ≤ iat l i := by
  constructor
  · intro h i hi
    have := List.pairwise_iff_getElem.1 h i (i + 1) (by omega) hi (by omega)
    simpa [iat, hi, show i < l.length by omega] using this
  · intro h
    induction l with
    | nil => exact List.Pairwise.nil
    | cons a l ih =>
      have hl : Desc l := ih (fun i hi => by have := h (i + 1) (by simpa using hi); simpa [iat] using this)
      refine List.pairwise_cons.2 ⟨fun b hb => ?_, hl⟩
      cases l with
      | nil => cases hb
      | cons c l =>
        have h0 := h 0 (by simp)
        simp only [iat, List.getD_cons_succ, List.getD_cons_zero] at h0
        rcases List.mem_cons.1 hb with rfl | hb
        · exact h0
        · have := (List.pairwise_cons.1 hl).1 b hb
          omega
/-- the model's words for the rest -/
theorem rest_model {N z mn : Int} {top : List Int} (hN : N ≠ top.length) (h4 : top.length = 4) : restOk N z mn top ↔ mn ≤ iat top 3 ∧ top.sum + (N - top.length) * mn ≤ z ∧ z ≤ top.sum + mn + (N - top.length - 1) * iat top 3 := by
  unfold restOk lastOf
  rw [if_neg hN, h4]
  have e1 : (N - (4 : Nat)) * mn = mn + mn * (N - (4 : Nat) - 1) := by rw [Int.mul_sub, Int.mul_comm mn (N - (4 : Nat)), Int.mul_one]; omega
  have e2 : (N - (4 : Nat) - 1) * iat top 3 = iat top 3 * (N - (4 : Nat) - 1) := Int.mul_comm _ _
  rw [e1, e2]
  constructor
  · rintro ⟨h1, h2, h3⟩; exact ⟨h1, by omega, h3⟩
  · rintro ⟨h1, h2, h3⟩; exact ⟨h1, by omega, h3⟩

theorem cmp3_ge (x y : Int) : 0 ≤ cmp3 x y ↔ y ≤ x := by unfold cmp3; split; omega; split <;> omega
theorem cmp3_le (x y : Int) : cmp3 x y ≤ 0 ↔ x ≤ y := by unfold cmp3; split; omega; split <;> omega
theorem zero_words {z h lw : Int} (hw : Wr z) (eh : h = hi z) (el : lw = lo z) : z = 0 ↔ h = 0 ∧ lw = 0 := by
  have := eq_words hw (show Wr 0 by unfold Wr; omega)
  rw [show hi 0 = 0 from rfl, show lo 0 = 0 from rfl, ← eh, ← el] at this
  exact this

/-! ### it holds of every list -/

theorem desc_last_le {l : List Int} (h : Desc l) {x : Int} (hx : x ∈ l) : lastOf l ≤ x := by
  obtain ⟨i, hi, rfl⟩ := List.getElem_of_mem hx
  by_cases e : i = l.length - 1
  · subst e
    unfold lastOf; simp [iat, show l.length - 1 < l.length by omega]
  · have := List.pairwise_iff_getElem.1 h i (l.length - 1) hi (by omega) (by omega)
    unfold lastOf
    simpa [iat, show l.length - 1 < l.length by omega] using this
theorem lastOf_mem {l : List Int} (h : l ≠ []) : lastOf l ∈ l := iat_mem (by have := List.length_pos_iff.2 h; omega)
theorem mn_last (l : List Int) (h : l ≠ []) : mnOf l = lastOf (dsort l) := by
  have hne : dsort l ≠ [] := by intro e; have := dsort_length l; rw [e] at this; exact h (List.eq_nil_of_length_eq_zero this.symm)
  rw [← mnOf_perm (dsort_perm l)]
  exact mnOf_unique (lastOf_mem hne) (fun x hx => desc_last_le (dsort_desc l) hx)
theorem sum_le {l : List Int} {b : Int} (h : ∀ x ∈ l, x ≤ b) : l.sum ≤ b * l.length := by
  induction l with
  | nil => simp
  | cons a l ih =>
    have h1 := h a (by simp)
    have h2 := ih (fun x hx => h x (by simp [hx]))
    rw [sum_cons, List.length_cons]
    have : b * ((l.length + 1 : Nat) : Int) = b * l.length + b := by rw [Int.natCast_add, Int.mul_add]; simp
    omega
theorem le_sum {l : List Int} {b : Int} (h : ∀ x ∈ l, b ≤ x) : b * l.length ≤ l.sum := by
  induction l with
  | nil => simp
  | cons a l ih =>
    have h1 := h a (by simp)
    have h2 := ih (fun x hx => h x (by simp [hx]))
    rw [sum_cons, List.length_cons]
    have : b * ((l.length + 1 : Nat) : Int) = b * l.length + b := by rw [Int.natCast_add, Int.mul_add]; simp
    omega
theorem aggOk_list (ts : List Int) (hn : ts.length ≤ 1000000) : aggOk ts.length ts.sum (mnOf ts) (mxOf ts) (topOf ts) := by
  by_cases h0 : ts = []
  · subst h0; exact aggOk_zero.2 ⟨rfl, rfl, rfl, rfl⟩
  have hpos : 0 < ts.length := List.length_pos_iff.2 h0
  refine (aggOk_some (by omega)).2 ⟨by omega, by omega, ?_, rfl, topOf_desc ts, ?_⟩
  · rw [topOf_length]; split <;> omega
  have hsp := sum_perm (dsort_perm ts)
  have hdl := dsort_length ts
  have hdd := dsort_desc ts
  have hmn := mn_last ts h0
  have htop := topOf_take ts
  generalize dsort ts = d at *
  unfold restOk
  split
  · rename_i hN
    have h4 : ts.length ≤ 4 := by have := topOf_length ts; omega
    rw [htop, List.take_of_length_le (by omega)]
    exact ⟨hmn, hsp.symm⟩
  · rename_i hN
    have htl := topOf_length ts
    have h4 : 4 < ts.length := by omega
    have htl4 : (topOf ts).length = 4 := by omega
    -- d = the top four, the others but the least, the least
    have e1 : d = d.take 4 ++ (d.drop 4) := (List.take_append_drop 4 d).symm
    have hr : (d.drop 4).length = ts.length - 4 := by rw [List.length_drop, hdl]
    have hrne : d.drop 4 ≠ [] := by intro e; rw [e] at hr; simp at hr; omega
    have e2 : d.drop 4 = (d.drop 4).dropLast ++ [(d.drop 4).getLast hrne] := (List.dropLast_concat_getLast hrne).symm
    have elast : (d.drop 4).getLast hrne = mnOf ts := by
      rw [hmn]
      unfold lastOf iat
      rw [List.getLast_eq_getElem, List.getElem_drop]
      rw [List.getD_eq_getElem?_getD, List.getElem?_eq_getElem (by omega)]
      simp only [Option.getD_some]
      congr 1
      omega
    have hsum : ts.sum = (topOf ts).sum + ((d.drop 4).dropLast.sum + mnOf ts) := by
      have hs1 : d.sum = (d.take 4).sum + (d.drop 4).sum := by rw [← List.sum_append, List.take_append_drop]
      have hs2 : (d.drop 4).sum = (d.drop 4).dropLast.sum + (d.drop 4).getLast hrne := by
        have := congrArg List.sum e2
        rw [sum_snoc] at this
        exact this
      rw [← hsp, hs1, hs2, htop, elast]
    have hlen : ((d.drop 4).dropLast.length : Int) = (ts.length : Int) - (topOf ts).length - 1 := by
      rw [List.length_dropLast, hr, htl4]; omega
    have hin : ∀ x ∈ (d.drop 4).dropLast, mnOf ts ≤ x ∧ x ≤ lastOf (topOf ts) := by
      intro x hx
      have hxd : x ∈ d.drop 4 := (List.dropLast_sublist _).subset hx
      refine ⟨by rw [hmn]; exact desc_last_le hdd (List.mem_of_mem_drop hxd), ?_⟩
      have hp := List.pairwise_append.1 (e1 ▸ hdd)
      have hm : lastOf (topOf ts) ∈ d.take 4 := by rw [← htop]; exact lastOf_mem (topOf_ne h0)
      exact hp.2.2 _ hm x hxd
    have b1 := sum_le (fun x hx => (hin x hx).2)
    have b2 := le_sum (fun x hx => (hin x hx).1)
    rw [hlen] at b1 b2
    refine ⟨?_, by omega, by omega⟩
    have hp := List.pairwise_append.1 (e1 ▸ hdd)
    have hm : lastOf (topOf ts) ∈ d.take 4 := by rw [← htop]; exact lastOf_mem (topOf_ne h0)
    rw [← elast]
    exact hp.2.2 _ hm _ (List.getLast_mem hrne)
end Go.Proofs.Ytlmlckgnmkjkdaa
