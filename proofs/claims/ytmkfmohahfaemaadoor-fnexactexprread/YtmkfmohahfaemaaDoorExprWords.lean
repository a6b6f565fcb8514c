/-
  The text of a postfix expression. Plain mathematics.
-/
import Derived.Test.YtmkfmohahfaemaaDoorExprMath
import Derived.Test.YtmkfmohahfaemaaDoorTextDec
namespace Go.Proofs.YtmkfmohahfaemaaDoor

/-- the words of the operations -/
def signs : List (List UInt8) := [[], [107, 101, 121], [118, 97, 108], [116, 105, 109, 101], [43], [45], [42], [47], [60], [61], [38], [33]]
def sign (k : Nat) : List UInt8 := signs.getD k []
def word (t : Int × Int) : List UInt8 := if t.1 = 0 then decS t.2 else sign t.1.toNat
def joinW (ws : List (List UInt8)) : List UInt8 := [32].intercalate ws
def textOf (es : List (Int × Int)) : List UInt8 := if 0 ≤ depthOf es then joinW (es.map word) else []

theorem joinW_nil : joinW [] = [] := rfl
theorem joinW_one (a : List UInt8) : joinW [a] = a := by simp [joinW, List.intercalate]
theorem joinW_cons (a b : List UInt8) (l : List (List UInt8)) : joinW (a :: b :: l) = a ++ 32 :: joinW (b :: l) := by simp [joinW, List.intercalate, List.intersperse]
theorem joinW_snoc (ws : List (List UInt8)) (a : List UInt8) (h : ws ≠ []) : joinW (ws ++ [a]) = joinW ws ++ 32 :: a := by
  induction ws with
  | nil => exact absurd rfl h
  | cons b l ih =>
    cases l with
    | nil => simp [joinW_cons, joinW_one]
    | cons c l => rw [List.cons_append, List.cons_append, joinW_cons, ← List.cons_append, ih (by simp), joinW_cons]; simp
theorem dec_le {k g : Nat} (h : g < 10 ^ k) (h0 : g ≠ 0) : (dec g).length ≤ k := by
  rw [← (trim_pad k g h).2 h0]
  have := trimZ_le (pad k g)
  rwa [pad_length] at this
theorem decS_le {n : Int} (h0 : -9223372036854775808 ≤ n) (h1 : n ≤ 9223372036854775807) : (decS n).length ≤ 20 := by
  have hd : (dec n.natAbs).length ≤ 19 := by
    by_cases hz : n.natAbs = 0
    · rw [hz, dec_small (by omega)]; simp
    · exact dec_le (by omega) hz
  unfold decS
  split <;> simp <;> omega
theorem sign_le (k : Nat) : (sign k).length ≤ 4 := by
  unfold sign
  by_cases h : k < 12
  · have : ∀ j, j < 12 → (signs.getD j []).length ≤ 4 := by decide
    exact this k h
  · have : signs.getD k [] = [] := by simp only [List.getD]; rw [List.getElem?_eq_none (by simp [signs]; omega)]; rfl
    rw [this]; simp
theorem word_le {t : Int × Int} (h0 : -9223372036854775808 ≤ t.2) (h1 : t.2 ≤ 9223372036854775807) : (word t).length ≤ 20 := by
  unfold word; split
  · exact decS_le h0 h1
  · have := sign_le t.1.toNat; omega
/-- the numbers are ints -/
def Ints (es : List (Int × Int)) : Prop := ∀ k, k < es.length → (-9223372036854775808 ≤ (es.getD k (0, 0)).1 ∧ (es.getD k (0, 0)).1 ≤ 9223372036854775807) ∧ -9223372036854775808 ≤ (es.getD k (0, 0)).2 ∧ (es.getD k (0, 0)).2 ≤ 9223372036854775807
theorem joinW_le (ws : List (List UInt8)) (h : ∀ w ∈ ws, w.length ≤ 20) : (joinW ws).length ≤ 21 * ws.length := by
  induction ws with
  | nil => simp [joinW_nil]
  | cons a l ih =>
    have ha := h a (by simp)
    have := ih (fun w hw => h w (by simp [hw]))
    cases l with
    | nil => rw [joinW_one]; simp; omega
    | cons b l => rw [joinW_cons]; simp only [List.length_append, List.length_cons] at this ⊢; omega
/-- the text of the first k tokens -/
def textTo (es : List (Int × Int)) (k : Nat) : List UInt8 := joinW ((es.take k).map word)
theorem textTo_zero (es : List (Int × Int)) : textTo es 0 = [] := rfl
theorem take_snoc {es : List (Int × Int)} {k : Nat} (h : k < es.length) : (es.take (k + 1)).map word = (es.take k).map word ++ [word (es.getD k (0, 0))] := by
  rw [List.take_succ_eq_append_getElem h, List.map_append]; congr 1; simp [h]
theorem textTo_first {es : List (Int × Int)} (h : 0 < es.length) : textTo es (0 + 1) = word (es.getD 0 (0, 0)) := by
  unfold textTo; rw [take_snoc h]; simp [joinW_one]
theorem textTo_next {es : List (Int × Int)} {k : Nat} (h : k < es.length) (h0 : 0 < k) : textTo es (k + 1) = textTo es k ++ 32 :: word (es.getD k (0, 0)) := by
  unfold textTo
  rw [take_snoc h, joinW_snoc]
  intro e
  have := congrArg List.length e
  rw [List.length_map, List.length_take, Nat.min_eq_left (by omega), List.length_nil] at this; omega
theorem textTo_all (es : List (Int × Int)) : textTo es es.length = joinW (es.map word) := by unfold textTo; rw [List.take_length]
theorem textTo_le {es : List (Int × Int)} (hi : Ints es) (k : Nat) (hk : k ≤ es.length) : (textTo es k).length ≤ 21 * k := by
  unfold textTo
  have := joinW_le ((es.take k).map word) (by
    intro w hw
    obtain ⟨t, ht, rfl⟩ := List.mem_map.1 hw
    obtain ⟨i, hi', rfl⟩ := List.getElem_of_mem ht
    have hlt : i < es.length := by simp at hi'; omega
    have := hi i hlt
    rw [List.getElem_take]
    have e : es.getD i (0, 0) = es[i] := by simp [hlt]
    rw [e] at this
    exact word_le this.2.1 this.2.2)
  simpa [Nat.min_eq_left hk] using this
end Go.Proofs.YtmkfmohahfaemaaDoor
