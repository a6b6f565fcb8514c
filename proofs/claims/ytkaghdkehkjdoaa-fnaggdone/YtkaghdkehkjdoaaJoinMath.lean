/-
  What comes of a join, in numbers. Plain mathematics.
-/
import Derived.Test.YtkaghdkehkjdoaaJoinI
namespace Go.Proofs.Ytkaghdkehkjdoaa
open Go.RowKit

theorem mxOf_append {a b : List Int} (ha : a ≠ []) (hb : b ≠ []) : mxOf (a ++ b) = max (mxOf a) (mxOf b) := by
  induction b using snoc_ind with
  | h0 => exact absurd rfl hb
  | h1 b v ih =>
    rw [← List.append_assoc, mxOf_snoc v (by simp [ha])]
    by_cases hb0 : b = []
    · subst hb0; rw [List.append_nil]; rfl
    · rw [ih hb0, mxOf_snoc v hb0]; omega
theorem aggOk_top {N z mn mx : Int} {top : List Int} (h : aggOk N z mn mx top) : topOf top = top ∧ top.length ≤ 4 ∧ mx = iat top 0 := by
  by_cases h0 : N = 0
  · subst h0
    obtain ⟨-, -, h3, rfl⟩ := aggOk_zero.1 h
    exact ⟨rfl, by simp, h3⟩
  · obtain ⟨h1, h2, h3, h4, h5, -⟩ := (aggOk_some h0).1 h
    have : top.length ≤ 4 := by split at h3 <;> omega
    exact ⟨(topOf_iff this).2 h5, this, h4⟩
theorem aggOk_ne {N z mn mx : Int} {top : List Int} (h : aggOk N z mn mx top) (h0 : N ≠ 0) : 0 < N ∧ top ≠ [] := by
  obtain ⟨h1, h2, h3, -⟩ := (aggOk_some h0).1 h
  exact ⟨h1, by rintro rfl; simp at h3; split at h3 <;> omega⟩

theorem join_nums {p q : Part} (hp : p.ok) (hq : q.ok) :
    tally2 p q 2 = ⟨p.N + q.N, p.z + q.z, if q.N = 0 then p.mn else if p.N = 0 then q.mn else (if q.mn < p.mn then q.mn else p.mn), topOf (p.t ++ q.t)⟩ ∧
    iat (topOf (p.t ++ q.t)) 0 = if q.N = 0 then p.mx else if p.N = 0 then q.mx else (if p.mx < q.mx then q.mx else p.mx) := by
  obtain ⟨Na, za, mna, mxa, A, na, ca, ta⟩ := p
  obtain ⟨Nb, zb, mnb, mxb, B, nb, cb, tb⟩ := q
  unfold Part.ok at hp hq
  dsimp only at hp hq ⊢
  obtain ⟨tp1, tp2, tp3⟩ := aggOk_top hp
  obtain ⟨tq1, tq2, tq3⟩ := aggOk_top hq
  show (Ta.zero.with _).with _ = _ ∧ _
  by_cases h0 : Na = 0
  · subst h0
    obtain ⟨rfl, rfl, rfl, rfl⟩ := aggOk_zero.1 hp
    rw [Ta.with_neg (s := Ta.zero) (by simp)]
    by_cases h1 : Nb = 0
    · subst h1
      obtain ⟨rfl, rfl, rfl, rfl⟩ := aggOk_zero.1 hq
      rw [Ta.with_neg (by simp)]
      exact ⟨rfl, rfl⟩
    · obtain ⟨hN, -⟩ := aggOk_ne hq h1
      rw [Ta.with_pos (show 0 < (Part.mk Nb zb mnb mxb B nb cb tb).N from hN)]
      simp only [if_neg h1, if_pos trivial, List.nil_append]
      refine ⟨?_, ?_⟩
      · simp only [Ta.zero, smNew_first, topOf]
      · rw [tq1]; exact tq3.symm
  · obtain ⟨hN, hta⟩ := aggOk_ne hp h0
    rw [Ta.with_pos (show 0 < (Part.mk Na za mna mxa A na ca ta).N from hN)]
    by_cases h1 : Nb = 0
    · subst h1
      obtain ⟨rfl, rfl, rfl, rfl⟩ := aggOk_zero.1 hq
      rw [Ta.with_neg (by simp)]
      simp only [if_pos trivial, List.append_nil]
      refine ⟨?_, ?_⟩
      · simp only [Ta.zero, smNew_first, topOf, Int.zero_add, Int.add_zero]
      · rw [tp1]; exact tp3.symm
    · obtain ⟨hNb, htb⟩ := aggOk_ne hq h1
      rw [Ta.with_pos (show 0 < (Part.mk Nb zb mnb mxb B nb cb tb).N from hNb)]
      simp only [if_neg h1, if_neg h0]
      refine ⟨?_, ?_⟩
      · simp only [Ta.zero, smNew_first, topOf_append, Int.zero_add]
        congr 1
        unfold smNew
        simp only [h0, false_or]
      · have := mxOf_append hta htb
        unfold mxOf at this
        rw [this, tp1, tq1, tp3, tq3]
        omega
end Go.Proofs.Ytkaghdkehkjdoaa
