/-
  Decimal digits.
-/
import Derived.Lib.Strings
namespace Go.Proofs.YtkhboanlccfajaaDoor

/-- the byte of a digit -/
def dby (d : Nat) : UInt8 := UInt8.ofNat (48 + d)
theorem dby_nat {d : Nat} (h : d < 10) : (dby d).toNat = 48 + d := by unfold dby; simp; omega
/-- k digits, zeros ahead -/
def pad (k g : Nat) : List UInt8 := (List.range k).map fun j => dby (g / 10 ^ (k - 1 - j) % 10)
theorem pad_length (k g : Nat) : (pad k g).length = k := by simp [pad]
/-- the decimal text -/
def dec : Nat → List UInt8
  | n => if _h : n < 10 then [dby n] else dec (n / 10) ++ [dby (n % 10)]
  termination_by n => n
  decreasing_by omega
theorem dec_small {n : Nat} (h : n < 10) : dec n = [dby n] := by rw [dec, dif_pos h]
theorem dec_big {n : Nat} (h : ¬ n < 10) : dec n = dec (n / 10) ++ [dby (n % 10)] := by rw [dec, dif_neg h]
theorem pad_succ (k g : Nat) : pad (k + 1) g = pad k (g / 10) ++ [dby (g % 10)] := by
  unfold pad
  rw [List.range_succ, List.map_append]
  congr 1
  · refine List.map_congr_left fun j hj => ?_
    have hj' : j < k := List.mem_range.1 hj
    rw [Nat.div_div_eq_div_mul, ← Nat.pow_succ', show k + 1 - 1 - j = k - 1 - j + 1 by omega]
  · simp
theorem pad_app (a b g : Nat) : pad (a + b) g = pad a (g / 10 ^ b) ++ pad b (g % 10 ^ b) := by
  induction b generalizing g with
  | zero => simp [pad]
  | succ b ih =>
    rw [← Nat.add_assoc, pad_succ, ih, pad_succ, ← List.append_assoc]
    have e1 : g / 10 / 10 ^ b = g / 10 ^ (b + 1) := by rw [Nat.div_div_eq_div_mul, Nat.pow_succ']
    have e2 : g % 10 ^ (b + 1) / 10 = g / 10 % 10 ^ b := by
      rw [Nat.pow_succ', Nat.mod_mul_right_div_self]
    have e3 : g % 10 ^ (b + 1) % 10 = g % 10 := by
      rw [Nat.pow_succ', Nat.mod_mul_right_mod]
    rw [e1, e2, e3]

def trimZ : List UInt8 → List UInt8
  | [] => []
  | x :: l => if x = 48 then trimZ l else x :: l
theorem trimZ_app {l r : List UInt8} (h : trimZ l ≠ []) : trimZ (l ++ r) = trimZ l ++ r := by
  induction l with
  | nil => exact absurd rfl h
  | cons x l ih =>
    simp only [List.cons_append, trimZ] at h ⊢
    split
    · rename_i hx; rw [if_pos hx] at h; exact ih h
    · rfl
theorem trimZ_zero {l r : List UInt8} (h : trimZ l = []) : trimZ (l ++ r) = trimZ r := by
  induction l with
  | nil => rfl
  | cons x l ih =>
    simp only [List.cons_append, trimZ] at h ⊢
    split
    · rename_i hx; rw [if_pos hx] at h; exact ih h
    · rename_i hx; rw [if_neg hx] at h; cases h
theorem dby_zero {d : Nat} (h : d < 10) : dby d = 48 ↔ d = 0 := by
  constructor
  · intro e
    have := congrArg UInt8.toNat e
    rw [dby_nat h] at this
    have h2 : (48 : UInt8).toNat = 48 := rfl
    omega
  · rintro rfl; rfl
theorem dec_ne (n : Nat) : dec n ≠ [] := by
  by_cases h : n < 10
  · rw [dec_small h]; simp
  · rw [dec_big h]; simp
/-- zeros at the left gone: the decimal text -/
theorem trim_pad : ∀ (k g : Nat), g < 10 ^ k → (g = 0 → trimZ (pad k g) = []) ∧ (g ≠ 0 → trimZ (pad k g) = dec g)
  | 0, g, h => by simp at h; subst h; exact ⟨fun _ => rfl, fun e => absurd rfl e⟩
  | k + 1, g, h => by
    have h' : g / 10 < 10 ^ k := by rw [Nat.pow_succ] at h; omega
    obtain ⟨i1, i2⟩ := trim_pad k (g / 10) h'
    rw [pad_succ]
    have hd : g % 10 < 10 := Nat.mod_lt _ (by decide)
    by_cases h0 : g / 10 = 0
    · have hg : g < 10 := by omega
      rw [trimZ_zero (i1 h0)]
      simp only [trimZ]
      constructor
      · rintro rfl; rfl
      · intro hne
        rw [if_neg (by rw [dby_zero hd]; omega), dec_small hg, Nat.mod_eq_of_lt hg]
    · have hg : ¬ g < 10 := by omega
      refine ⟨fun e => by omega, fun _ => ?_⟩
      rw [trimZ_app (by rw [i2 h0]; exact dec_ne _), i2 h0, dec_big hg]

/-! ### the digits' array while it is filled -/
def fill (g m : Nat) : List Nat := (List.range 13).map fun j => if 13 ≤ j + m then g / 10 ^ (12 - j) % 10 else 0
theorem fill_length (g m : Nat) : (fill g m).length = 13 := by simp [fill]
theorem fill_set {g m : Nat} (hm : m < 13) : (fill g m).set (12 - m) (g / 10 ^ m % 10) = fill g (m + 1) := by
  apply List.ext_getElem
  · simp [fill]
  · intro i h1 h2
    rw [List.getElem_set]
    have hi : i < 13 := by simpa [fill] using h2
    simp only [fill, List.getElem_map, List.getElem_range]
    by_cases e : 12 - m = i
    · rw [if_pos e, if_pos (by omega), show 12 - i = m by omega]
    · rw [if_neg e]
      by_cases h3 : 13 ≤ i + m
      · rw [if_pos h3, if_pos (by omega)]
      · rw [if_neg h3, if_neg (by omega)]
theorem fill_done {g m : Nat} (hg : g / 10 ^ m = 0) : fill g m = fill g 13 := by
  unfold fill
  refine List.map_congr_left fun j hj => ?_
  have hj' : j < 13 := List.mem_range.1 hj
  by_cases h3 : 13 ≤ j + m
  · rw [if_pos h3, if_pos (by omega)]
  · rw [if_neg h3, if_pos (by omega)]
    have hlt : g < 10 ^ m := by
      rcases Nat.div_eq_zero_iff.1 hg with h | h
      · simp at h
      · exact h
    rw [Nat.div_eq_of_lt (Nat.lt_of_lt_of_le hlt (Nat.pow_le_pow_right (by decide) (by omega)))]
theorem fill_pad (g : Nat) : (fill g 13).map dby = pad 13 g := by
  unfold fill pad
  rw [List.map_map]
  refine List.map_congr_left fun j _ => ?_
  simp
theorem fill_lt (g m j : Nat) : (fill g m).getD j 0 < 10 := by
  by_cases h : j < 13
  · simp [fill, h]; split <;> omega
  · simp [fill, h]
end Go.Proofs.YtkhboanlccfajaaDoor
