/-
  ExprRead of the model.
-/
import Derived.Test.YtmkfmohahfaemaaDoorExprCutS
namespace Go.Proofs.YtmkfmohahfaemaaDoor
open Go.RowKit Go.Sort

/-- the token that the model makes of a word, the signs up to j asked -/
def tkTo (wd : List UInt8) : Nat → Int × Int
  | 0 => (0, valOf wd)
  | j + 1 => if wd = sign (j + 1) then (((j + 1 : Nat) : Int), 0) else tkTo wd j
def specTok (wd : List UInt8) : Int × Int := tkTo wd 11
theorem tkTo_in (wd : List UInt8) (j : Nat) (hj : j ≤ 11) : I64 (tkTo wd j).1 ∧ I64 (tkTo wd j).2 := by
  induction j with
  | zero => exact ⟨by unfold I64 tkTo; simp only; omega, valOf_in wd⟩
  | succ j ih =>
    unfold tkTo; split
    · exact ⟨by unfold I64; simp only; omega, by unfold I64; simp only; omega⟩
    · exact ih (by omega)
theorem tkTo_dec {n : Int} (j : Nat) (hj : j ≤ 11) : tkTo (decS n) j = (0, valOf (decS n)) := by
  induction j with
  | zero => rfl
  | succ j ih => unfold tkTo; rw [if_neg (decS_sign n (by omega))]; exact ih (by omega)
theorem tkTo_sign {i : Nat} (h0 : 1 ≤ i) (h1 : i < 12) (j : Nat) (hj : j ≤ 11) : i ≤ j → tkTo (sign i) j = ((i : Int), 0) := by
  induction j with
  | zero => omega
  | succ j ih =>
    intro hij
    unfold tkTo
    by_cases e : sign i = sign (j + 1)
    · have := sign_apart i h1 (j + 1) (by omega) e
      subst this
      rw [if_pos rfl]
    · rw [if_neg e]
      exact ih (by omega) (by rcases Nat.lt_or_ge i (j + 1) with h | h; · omega
                              · exact absurd (by congr 1; omega) e)
theorem specTok_word {t : Int × Int} (hg : tokGood t) (hi : I64 t.2) : specTok (word t) = t := by
  obtain ⟨a, b⟩ := t
  by_cases h : a = 0
  · subst h
    have hw : word (0, b) = decS b := rfl
    rw [hw]
    unfold specTok
    rw [tkTo_dec 11 (by omega), valOf_dec hi.1 hi.2]
  · have hgg : 0 < a ∧ a ≤ 11 ∧ b = 0 := by unfold tokGood at hg; simp only at hg; omega
    obtain ⟨j, rfl⟩ : ∃ j : Nat, a = (j : Int) := ⟨a.toNat, by omega⟩
    obtain rfl : b = 0 := hgg.2.2
    have hw : word ((j : Int), 0) = sign j := by unfold word; simp only; rw [if_neg h, Int.toNat_natCast]
    rw [hw]
    exact tkTo_sign (by omega) (by omega) 11 (by omega) (by omega)
theorem specToks_words {es : List (Int × Int)} (h : Goods es) : (es.map word).map specTok = es := by
  rw [List.map_map]
  conv => rhs; rw [← List.map_id es]
  exact List.map_congr_left fun t ht => specTok_word (h t ht).1 (h t ht).2
theorem specToks_text {l : List UInt8} {es : List (Int × Int)} (h : IsText l es) : (cutW l).map specTok = es := by rw [isText_cut h]; exact specToks_words h.1
theorem specToks_ints (l : List UInt8) : Ints ((cutW l).map specTok) := fun k hk => by
  have hk' : k < (cutW l).length := by simpa using hk
  have e : ((cutW l).map specTok).getD k (0, 0) = specTok ((cutW l)[k]) := by simp [List.getD, hk']
  rw [e]
  exact tkTo_in _ 11 (by omega)
theorem specRead_yes {l : List UInt8} (hd : 0 ≤ depthOf ((cutW l).map specTok)) (ht : textOf ((cutW l).map specTok) = l) : IsText l ((cutW l).map specTok) := by
  refine ⟨fun t hm => ?_, hd, ?_⟩
  · obtain ⟨k, hk, rfl⟩ := List.getElem_of_mem hm
    have hg := ok_good hd hk
    have hi := specToks_ints l k hk
    have e : ((cutW l).map specTok).getD k (0, 0) = ((cutW l).map specTok)[k] := by simp only [List.getD, List.getElem?_eq_getElem hk, Option.getD_some]
    rw [e] at hg hi
    exact ⟨hg, hi.2⟩
  · unfold textOf at ht; rw [if_pos hd] at ht; exact ht
theorem specRead_no {l : List UInt8} (h : ¬ (0 ≤ depthOf ((cutW l).map specTok) ∧ textOf ((cutW l).map specTok) = l)) (es : List (Int × Int)) : ¬ IsText l es := fun ht => by
  refine h ?_
  rw [specToks_text ht]
  refine ⟨ht.2.1, ?_⟩
  unfold textOf; rw [if_pos ht.2.1]; exact ht.2.2
theorem long_no {l : List UInt8} (h : 420 < l.length) (es : List (Int × Int)) : ¬ IsText l es := fun ht => by
  have h1 := textTo_le (goods_ints ht.1) es.length (Nat.le_refl _)
  rw [textTo_all, ht.2.2] at h1
  have := depthOf_len ht.2.1
  omega
end Go.Proofs.YtmkfmohahfaemaaDoor
