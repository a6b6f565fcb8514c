/-
  Plain mathematics for the lattice chapter: rows of bits, the order that they give, first index, bounds. No program is named here.
-/
import Derived.Laws.BitsAllLaws
namespace Go.Proofs.Ytlmlckgnmkjkdaa

/-! ### The first index that fits -/

def first (p : Nat → Bool) (n : Nat) : Int := match (List.range n).find? p with | some c => (c : Int) | none => -1

theorem first_none {p : Nat → Bool} {n : Nat} (h : ∀ c, c < n → p c = false) : first p n = -1 := by
  unfold first
  rw [List.find?_eq_none.2 (fun c hc => by rw [h c (List.mem_range.1 hc)]; simp)]

theorem first_at {p : Nat → Bool} {n k : Nat} (hk : k < n) (hp : p k = true) (h : ∀ c, c < k → p c = false) : first p n = (k : Int) := by
  unfold first
  have : (List.range n).find? p = some k := by
    rw [List.find?_range_eq_some]
    exact ⟨hp, List.mem_range.2 hk, fun j hj => by simp [h j hj]⟩
  rw [this]

theorem first_congr {p q : Nat → Bool} {n : Nat} (h : ∀ c, c < n → p c = q c) : first p n = first q n := by
  by_cases hx : ∃ k, k < n ∧ p k = true
  · obtain ⟨k, hk, hp⟩ := hx
    -- the least one
    have : ∃ m, m < n ∧ p m = true ∧ ∀ c, c < m → p c = false := by
      induction k using Nat.strongRecOn with
      | _ k ih =>
        by_cases hy : ∃ c, c < k ∧ p c = true
        · obtain ⟨c, hc, hpc⟩ := hy; exact ih c hc (by omega) hpc
        · exact ⟨k, hk, hp, fun c hc => by
            cases hpc : p c with
            | false => rfl
            | true => exact absurd ⟨c, hc, hpc⟩ hy⟩
    obtain ⟨m, hm, hpm, hl⟩ := this
    rw [first_at hm hpm hl, first_at hm (by rw [← h m hm]; exact hpm) (fun c hc => by rw [← h c (by omega)]; exact hl c hc)]
  · have hn : ∀ c, c < n → p c = false := fun c hc => by
      cases hpc : p c with
      | false => rfl
      | true => exact absurd ⟨c, hc, hpc⟩ hx
    rw [first_none hn, first_none (fun c hc => by rw [← h c hc]; exact hn c hc)]

theorem first_cases (p : Nat → Bool) (n : Nat) : (first p n = -1 ∧ ∀ c, c < n → p c = false) ∨ ∃ k, k < n ∧ first p n = (k : Int) ∧ p k = true ∧ ∀ c, c < k → p c = false := by
  by_cases hx : ∃ k, k < n ∧ p k = true
  · right
    obtain ⟨k, hk, hp⟩ := hx
    induction k using Nat.strongRecOn with
    | _ k ih =>
      by_cases hy : ∃ c, c < k ∧ p c = true
      · obtain ⟨c, hc, hpc⟩ := hy; exact ih c hc (by omega) hpc
      · have hl : ∀ c, c < k → p c = false := fun c hc => by
          cases hpc : p c with
          | false => rfl
          | true => exact absurd ⟨c, hc, hpc⟩ hy
        exact ⟨k, hk, first_at hk hp hl, hp, hl⟩
  · left
    have hn : ∀ c, c < n → p c = false := fun c hc => by
      cases hpc : p c with
      | false => rfl
      | true => exact absurd ⟨c, hc, hpc⟩ hx
    exact ⟨first_none hn, hn⟩

theorem first_lo (p : Nat → Bool) (n : Nat) : -1 ≤ first p n := by
  rcases first_cases p n with ⟨h, _⟩ | ⟨k, _, h, _⟩ <;> omega
theorem first_hi (p : Nat → Bool) (n : Nat) : first p n < (n : Int) ∨ first p n = -1 := by
  rcases first_cases p n with ⟨h, _⟩ | ⟨k, _, h, _⟩ <;> omega

/-! ### Rows of bits -/

def row (xs : List Nat) (a : Nat) : Nat := xs.getD a 0
def le (xs : List Nat) (a b : Nat) : Bool := (row xs a).testBit b
/-- a is at or below c (up), or at or above it -/
def side (xs : List Nat) (up : Bool) (a c : Nat) : Bool := if up then le xs a c else le xs c a
def fits (xs : List Nat) (up : Bool) (a b c : Nat) : Bool := side xs up a c && side xs up b c
def holds (xs : List Nat) (up : Bool) (a b c d : Nat) : Bool := !(side xs up a d && side xs up b d && !side xs up c d)
def isB (xs : List Nat) (up : Bool) (a b c : Nat) : Bool := fits xs up a b c && (List.range xs.length).all fun d => holds xs up a b c d
/-- the join (up) or the meet, -1 where there is none -/
def bound (xs : List Nat) (up : Bool) (a b : Nat) : Int := first (isB xs up a b) xs.length

def Fit (N : Int) (xs : List Nat) : Prop := 1 ≤ N ∧ N ≤ 16 ∧ (xs.length : Int) = N
def Small (xs : List Nat) : Prop := ∀ a, a < xs.length → row xs a < 2 ^ xs.length
def OrdAt (xs : List Nat) (a b : Nat) : Prop := (a ≠ b → le xs a b = true → le xs b a = false) ∧ ∀ c, c < xs.length → le xs a b = true → le xs b c = true → le xs a c = true
def Ord (xs : List Nat) : Prop := ∀ a, a < xs.length → le xs a a = true ∧ ∀ b, b < xs.length → OrdAt xs a b
def Bnd (xs : List Nat) (up : Bool) : Prop := ∀ a, a < xs.length → ∀ b, b < a → 0 ≤ bound xs up a b
def LatP (N : Int) (xs : List Nat) : Prop := Fit N xs ∧ Small xs ∧ Ord xs ∧ Bnd xs true ∧ Bnd xs false

/-- every row is a number of 64 bits -/
def U64 (xs : List Nat) : Prop := ∀ a, a < xs.length → row xs a < 18446744073709551616

theorem U64.at {xs : List Nat} (h : U64 xs) (a : Nat) : row xs a < 18446744073709551616 := by
  by_cases ha : a < xs.length
  · exact h a ha
  · simp [row, ha]

theorem bit_lt {x n c : Nat} (hx : x < 2 ^ n) (h : x.testBit c = true) : c < n := by
  rcases Nat.lt_or_ge c n with hc | hc
  · exact hc
  · rw [Nat.testBit_lt_two_pow (Nat.lt_of_lt_of_le hx (Nat.pow_le_pow_right (by omega) hc))] at h; cases h

theorem comp_bit {y i : Nat} (hy : y < 18446744073709551616) : (18446744073709551615 - y).testBit i = (decide (i < 64) && !y.testBit i) := by
  have h := Nat.testBit_two_pow_sub_succ (x := y) (n := 64) hy i
  have e : 2 ^ 64 - (y + 1) = 18446744073709551615 - y := by
    have : (2 : Nat) ^ 64 = 18446744073709551616 := by decide
    omega
  rw [← e]; exact h

/-- 'set &^ row is 0': all of set lies in the row -/
theorem andNot_zero {x y : Nat} (hx : x < 18446744073709551616) (hy : y < 18446744073709551616) : (x &&& (18446744073709551615 - y) = 0) ↔ ∀ i, x.testBit i = true → y.testBit i = true := by
  constructor
  · intro h i hi
    have h1 : (x &&& (18446744073709551615 - y)).testBit i = false := by rw [h]; simp
    rw [Nat.testBit_and, comp_bit hy, hi] at h1
    have : i < 64 := bit_lt (n := 64) (by simpa using hx) hi
    simpa [this] using h1
  · intro h
    apply Nat.eq_of_testBit_eq
    intro i
    rw [Nat.testBit_and, comp_bit hy, Nat.zero_testBit]
    cases hi : x.testBit i with
    | false => rfl
    | true => simp [h i hi]

def least (xs : List Nat) (set : Nat) : Int := first (fun c => set.testBit c && (set &&& (18446744073709551615 - row xs c) == 0)) xs.length

theorem all_range {n : Nat} {p : Nat → Bool} : (List.range n).all p = true ↔ ∀ d, d < n → p d = true := by
  simp [List.all_eq_true]

theorem isB_iff {xs : List Nat} {up : Bool} {a b c : Nat} : isB xs up a b c = true ↔ (side xs up a c = true ∧ side xs up b c = true) ∧ ∀ d, d < xs.length → side xs up a d = true → side xs up b d = true → side xs up c d = true := by
  simp only [isB, fits, holds, Bool.and_eq_true, all_range]
  constructor
  · rintro ⟨h1, h2⟩
    refine ⟨h1, fun d hd ha hb => ?_⟩
    have := h2 d hd
    rw [ha, hb] at this
    simpa using this
  · rintro ⟨h1, h2⟩
    refine ⟨h1, fun d hd => ?_⟩
    cases ha : side xs up a d <;> cases hb : side xs up b d <;> simp
    exact h2 d hd ha hb

/-- the impl's way to a join -/
theorem least_bound {xs : List Nat} (hu : U64 xs) (hs : Small xs) (a b : Nat) (ha : a < xs.length) : least xs (row xs a &&& row xs b) = bound xs true a b := by
  refine first_congr fun c hc => ?_
  rw [Bool.eq_iff_iff, isB_iff, Bool.and_eq_true, beq_iff_eq, andNot_zero (Nat.lt_of_le_of_lt Nat.and_le_left (hu.at a)) (hu.at c)]
  simp only [Nat.testBit_and, Bool.and_eq_true, side, if_true, le]
  constructor
  · rintro ⟨h1, h2⟩
    exact ⟨h1, fun d _ x y => h2 d ⟨x, y⟩⟩
  · rintro ⟨h1, h2⟩
    exact ⟨h1, fun i hi => h2 i (bit_lt (hs a ha) hi.1) hi.1 hi.2⟩

/-- the impl's order test is the document's -/
theorem ord_iff {xs : List Nat} (hu : U64 xs) (hs : Small xs) {a b : Nat} (hb : b < xs.length) :
    OrdAt xs a b ↔ (a ≠ b → le xs a b = true → le xs b a = false ∧ row xs b &&& (18446744073709551615 - row xs a) = 0) := by
  constructor
  · rintro ⟨h1, h2⟩ hne hab
    refine ⟨h1 hne hab, (andNot_zero (hu.at b) (hu.at a)).2 fun i hi => ?_⟩
    exact h2 i (bit_lt (hs b hb) hi) hab hi
  · intro h
    refine ⟨fun hne hab => (h hne hab).1, fun c hc hab hbc => ?_⟩
    by_cases hne : a = b
    · subst hne; exact hbc
    · exact (andNot_zero (hu.at b) (hu.at a)).1 (h hne hab).2 c hbc

/-! ### The rows of the reverse relation -/

/-- what the rounds up to (a, b) have set in row r -/
def flipBits (xs : List Nat) (r : Nat) : Nat → Nat
  | 0 => 0
  | a + 1 => if le xs a r then flipBits xs r a ||| 2 ^ a else flipBits xs r a
def flip (xs : List Nat) : List Nat := (List.range xs.length).map fun r => flipBits xs r xs.length

theorem flipBits_bit (xs : List Nat) (r k i : Nat) : (flipBits xs r k).testBit i = (decide (i < k) && le xs i r) := by
  induction k with
  | zero => simp [flipBits]
  | succ k ih =>
    unfold flipBits
    by_cases hik : i = k
    · subst hik
      by_cases h : le xs i r = true
      · rw [if_pos h, Nat.testBit_or, Nat.testBit_two_pow_self]; simp [h]
      · rw [if_neg h, ih]; simp [h]
    · have e : decide (i < k + 1) = decide (i < k) := by
        rw [decide_eq_decide]; omega
      by_cases h : le xs k r = true
      · rw [if_pos h, Nat.testBit_or, ih, Nat.testBit_two_pow_of_ne (fun h => hik h.symm)]; simp [e]
      · rw [if_neg h, ih, e]

theorem flipBits_lt (xs : List Nat) (r k : Nat) : flipBits xs r k < 2 ^ k := by
  apply Nat.lt_pow_two_of_testBit
  intro i hi
  rw [flipBits_bit]
  simp; omega

theorem flip_length (xs : List Nat) : (flip xs).length = xs.length := by simp [flip]
theorem flip_row {xs : List Nat} {r : Nat} (h : r < xs.length) : row (flip xs) r = flipBits xs r xs.length := by
  simp [row, flip, h]
theorem flip_small (xs : List Nat) : Small (flip xs) := fun a ha => by
  rw [flip_length] at *
  rw [flip_row ha]; exact flipBits_lt _ _ _
theorem flip_u64 {xs : List Nat} (hn : xs.length ≤ 64) : U64 (flip xs) := fun a ha => by
  rw [flip_length] at ha
  rw [flip_row ha]
  exact Nat.lt_of_lt_of_le (flipBits_lt _ _ _) (show 2 ^ xs.length ≤ 2 ^ 64 from Nat.pow_le_pow_right (by omega) hn)
theorem flip_le {xs : List Nat} {a b : Nat} (ha : a < xs.length) (hb : b < xs.length) : le (flip xs) a b = le xs b a := by
  unfold le
  rw [flip_row ha, flipBits_bit]
  simp [hb, le]
theorem flip_bound {xs : List Nat} {a b : Nat} (ha : a < xs.length) (hb : b < xs.length) : bound (flip xs) true a b = bound xs false a b := by
  unfold bound
  rw [flip_length]
  refine first_congr fun c hc => ?_
  rw [Bool.eq_iff_iff, isB_iff, isB_iff, flip_length]
  simp only [side, if_true, Bool.false_eq_true, if_false]
  rw [flip_le ha hc, flip_le hb hc]
  constructor
  · rintro ⟨h1, h2⟩
    refine ⟨h1, fun d hd x y => ?_⟩
    have := h2 d hd (by rw [flip_le ha hd]; exact x) (by rw [flip_le hb hd]; exact y)
    rwa [flip_le hc hd] at this
  · rintro ⟨h1, h2⟩
    refine ⟨h1, fun d hd x y => ?_⟩
    rw [flip_le ha hd] at x
    rw [flip_le hb hd] at y
    rw [flip_le hc hd]
    exact h2 d hd x y
theorem flip_bnd (xs : List Nat) : Bnd (flip xs) true ↔ Bnd xs false := by
  unfold Bnd
  rw [flip_length]
  constructor
  · intro h a ha b hb
    have := h a ha b hb
    rwa [flip_bound ha (by omega)] at this
  · intro h a ha b hb
    rw [flip_bound ha (by omega)]
    exact h a ha b hb

end Go.Proofs.Ytlmlckgnmkjkdaa
