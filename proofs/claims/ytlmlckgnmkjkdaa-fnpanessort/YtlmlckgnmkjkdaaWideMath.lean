/-
  Division of two words by one, digit by digit (digits of 32 bits), as numbers; the length of a number in bits.
-/
import Derived.Lib.BitFns
namespace Go.Proofs.Ytlmlckgnmkjkdaa

theorem bitLen_bounds : ∀ (f x : Nat), x < 2 ^ f → f ≤ 64 → x ≠ 0 → ∃ n, Lib.bitLen x = n + 1 ∧ 2 ^ n ≤ x ∧ x < 2 ^ (n + 1)
  | 0, x, h, _, h0 => by simp at h; omega
  | f + 1, x, h, hf, h0 => by
    have hx : x < 2 ^ 64 := Nat.lt_of_lt_of_le h (Nat.pow_le_pow_right (by decide) hf)
    rw [Lib.bitLen_half x h0 hx]
    by_cases h1 : x / 2 = 0
    · have : x = 1 := by omega
      subst this
      exact ⟨0, by decide, by decide, by decide⟩
    · obtain ⟨n, e, h2, h3⟩ := bitLen_bounds f (x / 2) (by rw [Nat.pow_succ] at h; omega) (by omega) h1
      refine ⟨n + 1, by omega, ?_, ?_⟩
      · rw [Nat.pow_succ]; omega
      · rw [Nat.pow_succ]; omega

/-- how far a divisor is shifted up -/
theorem shift_of {y : Nat} (h0 : y ≠ 0) (hy : y < 18446744073709551616) : ∃ s, s ≤ 63 ∧ Lib.bitLen y + s = 64 ∧ 9223372036854775808 ≤ y * 2 ^ s ∧ y * 2 ^ s < 18446744073709551616 := by
  obtain ⟨n, e, h2, h3⟩ := bitLen_bounds 64 y (by omega) (Nat.le_refl _) h0
  have hn : n ≤ 63 := by
    refine Nat.le_of_not_lt fun h => ?_
    have : 2 ^ 64 ≤ 2 ^ n := Nat.pow_le_pow_right (by decide) (by omega)
    omega
  refine ⟨63 - n, by omega, by omega, ?_, ?_⟩
  · have e1 : 2 ^ n * 2 ^ (63 - n) = 9223372036854775808 := by rw [← Nat.pow_add, show n + (63 - n) = 63 by omega]
    have := Nat.mul_le_mul_right (2 ^ (63 - n)) h2
    omega
  · have e1 : 2 ^ (n + 1) * 2 ^ (63 - n) = 18446744073709551616 := by rw [← Nat.pow_add, show n + 1 + (63 - n) = 64 by omega]
    have := Nat.mul_lt_mul_of_pos_right h3 (show 0 < 2 ^ (63 - n) from Nat.pos_of_ne_zero (by simp))
    omega

/-- One digit: the guess q with the rest r = u - q * y1; Q the digit looked for. -/
structure Digit (y1 y0 u d q r : Nat) : Prop where
  eq : q * y1 + r = u
  le : (u * 4294967296 + d) / (y1 * 4294967296 + y0) ≤ q
  top : q ≤ 4294967297

section
variable {y1 y0 u d q r : Nat}
theorem digit_mul (h : Digit y1 y0 u d q r) : q * (y1 * 4294967296 + y0) + 4294967296 * r = u * 4294967296 + q * y0 := by
  rw [← h.eq, Nat.mul_add, Nat.add_mul, ← Nat.mul_assoc]; omega

theorem digit_start (h1 : 2147483648 ≤ y1) (h0 : y0 < 4294967296) (hu : u < y1 * 4294967296 + y0) (hd : d < 4294967296) : Digit y1 y0 u d (u / y1) (u % y1) := by
  refine ⟨by rw [Nat.mul_comm]; exact Nat.div_add_mod u y1, ?_, ?_⟩
  · have hq := Nat.div_mul_le_self (u * 4294967296 + d) (y1 * 4294967296 + y0)
    generalize (u * 4294967296 + d) / (y1 * 4294967296 + y0) = Q at hq ⊢
    rw [Nat.le_div_iff_mul_le (by omega)]
    rw [Nat.mul_add, ← Nat.mul_assoc] at hq
    generalize Q * y1 = a at hq ⊢
    omega
  · have : u / y1 < 4294967298 := by
      rw [Nat.div_lt_iff_lt_mul (by omega)]
      omega
    omega

/-- The test says just whether the guess is too great. -/
theorem digit_test (hu : u < y1 * 4294967296 + y0) (hd : d < 4294967296) (h : Digit y1 y0 u d q r) (ht : 4294967296 ≤ q ∨ 4294967296 * r + d < q * y0) :
    (u * 4294967296 + d) / (y1 * 4294967296 + y0) < q := by
  rw [Nat.div_lt_iff_lt_mul (by omega)]
  rcases ht with ht | ht
  · have := Nat.mul_le_mul_right (y1 * 4294967296 + y0) ht
    omega
  · have := digit_mul h
    omega
theorem digit_done (h1 : 2147483648 ≤ y1) (h : Digit y1 y0 u d q r) (ht : q * y0 ≤ 4294967296 * r + d) : q = (u * 4294967296 + d) / (y1 * 4294967296 + y0) := by
  refine Nat.le_antisymm ?_ h.le
  rw [Nat.le_div_iff_mul_le (by omega)]
  have := digit_mul h
  omega
theorem digit_next (h : Digit y1 y0 u d q r) (ht : (u * 4294967296 + d) / (y1 * 4294967296 + y0) < q) : Digit y1 y0 u d (q - 1) (r + y1) := by
  obtain ⟨p, rfl⟩ := Nat.exists_eq_succ_of_ne_zero (Nat.ne_of_gt (Nat.lt_of_le_of_lt (Nat.zero_le _) ht))
  refine ⟨?_, Nat.le_of_lt_succ ht, by have := h.top; omega⟩
  have := h.eq
  rw [Nat.succ_eq_add_one, Nat.add_mul] at this
  rw [Nat.succ_eq_add_one, Nat.add_sub_cancel]
  omega
theorem digit_break (h1 : 2147483648 ≤ y1) (h0 : y0 < 4294967296) (h : Digit y1 y0 u d q r) (hq : q ≤ 4294967296) (hr : 4294967296 ≤ r) : q = (u * 4294967296 + d) / (y1 * 4294967296 + y0) := by
  refine digit_done h1 h ?_
  have : q * y0 ≤ 4294967296 * 4294967295 := Nat.mul_le_mul hq (by omega)
  omega
theorem digit_lt (hu : u < y1 * 4294967296 + y0) (hd : d < 4294967296) : (u * 4294967296 + d) / (y1 * 4294967296 + y0) < 4294967296 := by
  rw [Nat.div_lt_iff_lt_mul (by omega)]; omega
end

/-- Two digits make the whole quotient. -/
theorem two_digits (u d1 d0 y q r : Nat) (hy : 0 < y) (e : y * q + r = u * 4294967296 + d1) : q * 4294967296 + (r * 4294967296 + d0) / y = (u * 18446744073709551616 + (d1 * 4294967296 + d0)) / y ∧
    (r * 4294967296 + d0) % y = (u * 18446744073709551616 + (d1 * 4294967296 + d0)) % y := by
  have e2 : u * 18446744073709551616 + (d1 * 4294967296 + d0) = (r * 4294967296 + d0) + y * (q * 4294967296) := by
    rw [← Nat.mul_assoc]
    generalize y * q = z at *
    omega
  rw [e2]
  exact ⟨by rw [Nat.add_mul_div_left (r * 4294967296 + d0) (q * 4294967296) hy, Nat.add_comm], by rw [Nat.add_mul_mod_self_left (r * 4294967296 + d0) y (q * 4294967296)]⟩

theorem two_words {U d1 d0 Y Q1 R1 Q0 R0 : Nat} (e1 : Y * Q1 + R1 = U * 4294967296 + d1) (e0 : Y * Q0 + R0 = R1 * 4294967296 + d0) (hr : R0 < Y) :
    Q1 * 4294967296 + Q0 = (U * 18446744073709551616 + (d1 * 4294967296 + d0)) / Y ∧ R0 = (U * 18446744073709551616 + (d1 * 4294967296 + d0)) % Y := by
  have hp : 0 < Y := by omega
  have h2 := two_digits U d1 d0 Y Q1 R1 hp e1
  rw [← e0, Nat.mul_add_div hp, Nat.mul_add_mod, Nat.div_eq_of_lt hr, Nat.mod_eq_of_lt hr] at h2
  exact h2

/-- The two words, shifted up, and the divisor shifted up. -/
theorem shifted_words {h l s : Nat} (hs : s ≤ 63) : (h * 2 ^ s + l / 2 ^ (64 - s)) * 18446744073709551616 + l * 2 ^ s % 18446744073709551616 = (h * 18446744073709551616 + l) * 2 ^ s := by
  have e1 : 2 ^ (64 - s) * 2 ^ s = 18446744073709551616 := by rw [← Nat.pow_add, show 64 - s + s = 64 by omega]
  have e2 := Nat.div_add_mod l (2 ^ (64 - s))
  have hp : 0 < 2 ^ (64 - s) := Nat.pos_of_ne_zero (by simp)
  have hm := Nat.mod_lt l hp
  have e3 : l * 2 ^ s % 18446744073709551616 = (l % 2 ^ (64 - s)) * 2 ^ s := by
    rw [← e1, Nat.mul_mod_mul_right]
  rw [e3]
  have e4 : l * 2 ^ s = (l / 2 ^ (64 - s)) * 18446744073709551616 + (l % 2 ^ (64 - s)) * 2 ^ s := by
    conv => lhs; rw [← e2]
    rw [Nat.add_mul, Nat.mul_comm (2 ^ (64 - s)) (l / 2 ^ (64 - s)), Nat.mul_assoc, e1]
  rw [Nat.add_mul, Nat.add_mul, e4, Nat.mul_assoc, Nat.mul_assoc, Nat.mul_comm (2 ^ s) 18446744073709551616, Nat.add_assoc]

theorem div_shifted (n y s : Nat) : n * 2 ^ s / (y * 2 ^ s) = n / y ∧ n * 2 ^ s % (y * 2 ^ s) / 2 ^ s = n % y := by
  have hp : 0 < 2 ^ s := Nat.pos_of_ne_zero (by simp)
  refine ⟨Nat.mul_div_mul_right n y hp, ?_⟩
  rw [Nat.mul_mod_mul_right, Nat.mul_div_cancel _ hp]

/-! ### halves divided one after the other -/
theorem halves_sum (h l n : Nat) (hn : 0 < n) : (h * 18446744073709551616 + l) / n = h / n * 18446744073709551616 + (h % n * 18446744073709551616 + l) / n := by
  have e := Nat.div_add_mod h n
  have e2 : h * 18446744073709551616 + l = (h % n * 18446744073709551616 + l) + n * (h / n * 18446744073709551616) := by
    conv => lhs; rw [← e]
    rw [Nat.add_mul, Nat.mul_assoc]; omega
  rw [e2, Nat.add_mul_div_left _ _ hn, Nat.add_comm]
theorem halves_lt {h l n : Nat} (hn : 0 < n) (hl : l < 18446744073709551616) : (h % n * 18446744073709551616 + l) / n < 18446744073709551616 := by
  have hm := Nat.mod_lt h hn
  rw [Nat.div_lt_iff_lt_mul hn]
  generalize h % n = m at *
  omega

theorem halves_mod (h l n : Nat) : (h % n * 18446744073709551616 + l) % n = (h * 18446744073709551616 + l) % n := by
  rw [Nat.add_mod, Nat.mul_mod, Nat.mod_mod, ← Nat.mul_mod, ← Nat.add_mod]
end Go.Proofs.Ytlmlckgnmkjkdaa
