/-
  The closure of a relation that is given by edges: rows of bits on one side, a table of truth values on the other.
-/
import Derived.Test.YtipcjofmplpffaaMathC
namespace Go.Proofs.Ytipcjofmplpffaa

/-- the bits below n for which g holds -/
def pack (g : Nat → Bool) : Nat → Nat
  | 0 => 0
  | n + 1 => if g n then pack g n + 2 ^ n else pack g n
theorem pack_lt (g : Nat → Bool) (n : Nat) : pack g n < 2 ^ n := by
  induction n with
  | zero => simp [pack]
  | succ n ih =>
    unfold pack
    rw [Nat.pow_succ]
    split <;> omega
theorem pack_bit (g : Nat → Bool) (n i : Nat) : (pack g n).testBit i = (decide (i < n) && g i) := by
  induction n with
  | zero => simp [pack]
  | succ n ih =>
    unfold pack
    by_cases hin : i = n
    · subst hin
      by_cases h : g i = true
      · rw [if_pos h, Nat.add_comm, Nat.testBit_two_pow_add_eq, ih]; simp [h]
      · rw [if_neg h, ih]; simp [h]
    · have e : decide (i < n + 1) = decide (i < n) := by rw [decide_eq_decide]; omega
      by_cases h : g n = true
      · rw [if_pos h, e, ← ih]
        rcases Nat.lt_or_ge i n with hi | hi
        · rw [Nat.add_comm, Nat.testBit_two_pow_add_gt hi]
        · have h1 : pack g n + 2 ^ n < 2 ^ i := by
            have := pack_lt g n
            have h2 : 2 ^ (n + 1) ≤ 2 ^ i := Nat.pow_le_pow_right (by omega) (by omega)
            rw [Nat.pow_succ] at h2
            omega
          rw [Nat.testBit_lt_two_pow h1, Nat.testBit_lt_two_pow (Nat.lt_of_lt_of_le (pack_lt g n) (Nat.pow_le_pow_right (by omega) hi))]
      · rw [if_neg h, e, ih]
theorem pack_congr {g h : Nat → Bool} {n : Nat} (e : ∀ i, i < n → g i = h i) : pack g n = pack h n := by
  apply Nat.eq_of_testBit_eq
  intro i
  rw [pack_bit, pack_bit]
  by_cases hi : i < n
  · simp [hi, e i hi]
  · simp [hi]

def rowsOf (R : Nat → Nat → Bool) (n : Nat) : List Nat := (List.range n).map fun a => pack (R a) n
theorem rowsOf_length (R : Nat → Nat → Bool) (n : Nat) : (rowsOf R n).length = n := by simp [rowsOf]
theorem rowsOf_row {R : Nat → Nat → Bool} {n a : Nat} (h : a < n) : row (rowsOf R n) a = pack (R a) n := by simp [row, rowsOf, h]
theorem rowsOf_le {R : Nat → Nat → Bool} {n a b : Nat} (ha : a < n) (hb : b < n) : le (rowsOf R n) a b = R a b := by
  unfold le; rw [rowsOf_row ha, pack_bit]; simp [hb]
theorem rowsOf_u64 {R : Nat → Nat → Bool} {n : Nat} (hn : n ≤ 16) : U64 (rowsOf R n) := fun a ha => by
  rw [rowsOf_length] at ha
  rw [rowsOf_row ha]
  exact Nat.lt_of_lt_of_le (pack_lt _ _) (show 2 ^ n ≤ 2 ^ 64 from Nat.pow_le_pow_right (by omega) (by omega))
theorem rowsOf_congr {R S : Nat → Nat → Bool} {n : Nat} (h : ∀ a b, a < n → b < n → R a b = S a b) : rowsOf R n = rowsOf S n := by
  unfold rowsOf
  apply List.map_congr_left
  intro a ha
  exact pack_congr fun i hi => h a i (List.mem_range.1 ha) hi

/-! ### the start, and an edge -/
def idR : Nat → Nat → Bool := fun a b => a == b
def addE (R : Nat → Nat → Bool) (e : Int × Int) : Nat → Nat → Bool := fun a b => R a b || (a == e.1.toNat && b == e.2.toNat)
def relTo (es : List (Int × Int)) (k : Nat) : Nat → Nat → Bool := (es.take k).foldl addE idR
theorem relTo_zero (es : List (Int × Int)) : relTo es 0 = idR := by simp [relTo]
theorem relTo_succ {es : List (Int × Int)} {k : Nat} (h : k < es.length) : relTo es (k + 1) = addE (relTo es k) es[k] := by
  unfold relTo
  rw [List.take_succ_eq_append_getElem h, List.foldl_append]; rfl
theorem pack_id {n a : Nat} (h : a < n) : pack (idR a) n = 2 ^ a := by
  apply Nat.eq_of_testBit_eq
  intro i
  rw [pack_bit, Nat.testBit_two_pow]
  by_cases hi : a = i
  · subst hi; simp [idR, h]
  · simp [idR, hi]
theorem pack_add {g : Nat → Bool} {n b : Nat} (hb : b < n) : pack g n ||| 2 ^ b = pack (fun i => g i || (i == b)) n := by
  apply Nat.eq_of_testBit_eq
  intro i
  rw [Nat.testBit_or, pack_bit, pack_bit, Nat.testBit_two_pow]
  by_cases hi : b = i
  · subst hi; simp [hb]
  · have : (i == b) = false := by rw [beq_eq_false_iff_ne]; omega
    simp [hi, this]
/-- rows that start with the identity up to k -/
def idTo (n k : Nat) : List Nat := (List.range n).map fun a => if a < k then 2 ^ a else 0
theorem idTo_zero (n : Nat) : idTo n 0 = List.replicate n 0 := by
  apply List.ext_getElem
  · simp [idTo]
  · intro i h1 h2; simp [idTo]
theorem idTo_length (n k : Nat) : (idTo n k).length = n := by simp [idTo]
theorem idTo_all (n : Nat) : idTo n n = rowsOf idR n := by
  apply List.ext_getElem
  · simp [idTo, rowsOf]
  · intro i h1 h2
    have hi : i < n := by simpa [idTo] using h1
    simp [idTo, rowsOf, hi, pack_id hi]
theorem idTo_set {n k : Nat} : (idTo n k).set k (2 ^ k) = idTo n (k + 1) := by
  apply List.ext_getElem
  · simp [idTo]
  · intro i h1 h2
    rw [List.getElem_set]
    by_cases e : k = i
    · subst e; simp [idTo]
    · have e' : (i < k) = (i < k + 1) := by rw [eq_iff_iff]; omega
      simp [idTo, e, e']
theorem rowsOf_add {R : Nat → Nat → Bool} {e : Int × Int} {n a b : Nat} (hb : b < n) (h1 : e.1 = (a : Int)) (h2 : e.2 = (b : Int)) : (rowsOf R n).set a (row (rowsOf R n) a ||| 2 ^ b) = rowsOf (addE R e) n := by
  apply List.ext_getElem
  · simp [rowsOf]
  · intro i hi1 hi2
    have hi : i < n := by simpa [rowsOf] using hi2
    rw [List.getElem_set]
    by_cases ea : a = i
    · subst ea
      rw [if_pos rfl, rowsOf_row hi, pack_add hb]
      simp only [rowsOf, List.getElem_map, List.getElem_range]
      exact pack_congr fun i _ => by simp [addE, h1, h2]
    · rw [if_neg ea]
      simp only [rowsOf, List.getElem_map, List.getElem_range]
      refine pack_congr fun j _ => ?_
      have : (i == a) = false := by rw [beq_eq_false_iff_ne]; omega
      simp [addE, h1, this]

/-! ### a step of the closure -/
def stepR (R : Nat → Nat → Bool) (k : Nat) : Nat → Nat → Bool := fun a b => R a b || (R a k && R k b)
def closTo (R : Nat → Nat → Bool) : Nat → Nat → Nat → Bool
  | 0 => R
  | k + 1 => stepR (closTo R k) k
theorem stepR_col (R : Nat → Nat → Bool) (k a : Nat) : stepR R k a k = R a k := by unfold stepR; cases R a k <;> simp
theorem stepR_row (R : Nat → Nat → Bool) (k b : Nat) : stepR R k k b = R k b := by unfold stepR; cases R k b <;> simp
/-- rows before a have taken the step -/
def rowStep (R : Nat → Nat → Bool) (k a : Nat) : Nat → Nat → Bool := fun i j => if i < a then stepR R k i j else R i j
/-- .. and of row a the columns before b -/
def cellStep (R : Nat → Nat → Bool) (k a b : Nat) : Nat → Nat → Bool := fun i j => if i < a ∨ (i = a ∧ j < b) then stepR R k i j else R i j
theorem cellStep_zero (R : Nat → Nat → Bool) (k : Nat) : cellStep R k 0 0 = R := by funext i j; simp [cellStep]
theorem cellStep_col (R : Nat → Nat → Bool) (k a b i : Nat) : cellStep R k a b i k = R i k := by
  unfold cellStep; split
  · exact stepR_col R k i
  · rfl
theorem cellStep_row (R : Nat → Nat → Bool) (k a b j : Nat) : cellStep R k a b k j = R k j := by
  unfold cellStep; split
  · exact stepR_row R k j
  · rfl
theorem cellStep_at (R : Nat → Nat → Bool) (k a b : Nat) : cellStep R k a b a b = R a b := by simp [cellStep]

theorem rowsOf_step {R : Nat → Nat → Bool} {n k a : Nat} (h : R a k = true) : (rowsOf (rowStep R k a) n).set a (pack (R a) n ||| pack (R k) n) = rowsOf (rowStep R k (a + 1)) n := by
  apply List.ext_getElem
  · simp [rowsOf]
  · intro i hi1 hi2
    rw [List.getElem_set]
    by_cases ea : a = i
    · subst ea
      rw [if_pos rfl]
      simp only [rowsOf, List.getElem_map, List.getElem_range]
      apply Nat.eq_of_testBit_eq
      intro j
      rw [Nat.testBit_or, pack_bit, pack_bit, pack_bit]
      by_cases hj : j < n <;> simp [hj, rowStep, stepR, h]
    · rw [if_neg ea]
      simp only [rowsOf, List.getElem_map, List.getElem_range]
      refine pack_congr fun j _ => ?_
      have e' : (i < a) = (i < a + 1) := by rw [eq_iff_iff]; omega
      simp [rowStep, e']
theorem rowsOf_pass {R : Nat → Nat → Bool} {n k a : Nat} (h : R a k = false) : rowsOf (rowStep R k a) n = rowsOf (rowStep R k (a + 1)) n := by
  refine rowsOf_congr fun i j _ _ => ?_
  unfold rowStep
  by_cases ea : i = a
  · subst ea; simp [stepR, h]
  · have e' : (i < a) = (i < a + 1) := by rw [eq_iff_iff]; omega
    simp [e']
theorem rowsOf_stepAll (R : Nat → Nat → Bool) (n k : Nat) : rowsOf (rowStep R k n) n = rowsOf (stepR R k) n := rowsOf_congr fun i j hi _ => by simp [rowStep, hi]
theorem rowStep_zero (R : Nat → Nat → Bool) (k : Nat) : rowStep R k 0 = R := by funext i j; simp [rowStep]

end Go.Proofs.Ytipcjofmplpffaa
