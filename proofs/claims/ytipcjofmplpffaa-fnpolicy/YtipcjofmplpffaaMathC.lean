/-
  The edges of the Hasse diagram.
-/
import Derived.Test.YtipcjofmplpffaaMathB
namespace Go.Proofs.Ytipcjofmplpffaa

/-- c lies between a and b -/
def midB (xs : List Nat) (a b c : Nat) : Bool := decide (c ≠ a) && decide (c ≠ b) && le xs a c && le xs c b
def freeTo (xs : List Nat) (a b k : Nat) : Bool := decide (a ≠ b) && le xs a b && (List.range k).all fun c => !midB xs a b c
def isEdge (xs : List Nat) (a b : Nat) : Bool := freeTo xs a b xs.length
theorem freeTo_succ (xs : List Nat) (a b k : Nat) : freeTo xs a b (k + 1) = (freeTo xs a b k && !midB xs a b k) := by simp [freeTo, List.range_succ, Bool.and_assoc]

theorem isEdge_iff {xs : List Nat} {a b : Nat} : isEdge xs a b = true ↔ (a ≠ b ∧ le xs a b = true) ∧ ∀ c, c < xs.length → c ≠ a → c ≠ b → le xs a c = true → le xs c b = false := by
  simp only [isEdge, freeTo, midB, Bool.and_eq_true, all_range, decide_eq_true_eq]
  constructor
  · rintro ⟨h1, h2⟩
    refine ⟨h1, fun c hc na nb hac => ?_⟩
    have := h2 c hc
    simpa [na, nb, hac] using this
  · rintro ⟨h1, h2⟩
    refine ⟨h1, fun c hc => ?_⟩
    by_cases na : c = a
    · simp [na]
    · by_cases nb : c = b
      · simp [nb]
      · cases hac : le xs a c with
        | false => simp
        | true => simp [h2 c hc na nb hac]

/-- the program's test -/
theorem edge_bits {N : Int} {xs : List Nat} (h : LatP N xs) {a b : Nat} (ha : a < xs.length) (hb : b < xs.length) (hne : a ≠ b) :
    (row xs a &&& row (flip xs) b = 2 ^ a ||| 2 ^ b) ↔ isEdge xs a b = true := by
  have hs := h.2.1
  have key : ∀ c, c < xs.length → (row xs a &&& row (flip xs) b).testBit c = (le xs a c && le xs c b) := fun c hc => by
    rw [Nat.testBit_and]
    have := flip_le hb hc
    unfold le at this ⊢
    rw [this]
  have out : ∀ c, xs.length ≤ c → (row xs a &&& row (flip xs) b).testBit c = false := fun c hc => by
    rw [Nat.testBit_and, Nat.testBit_lt_two_pow (Nat.lt_of_lt_of_le (hs a ha) (Nat.pow_le_pow_right (by omega) hc))]; rfl
  have two : ∀ c, (2 ^ a ||| 2 ^ b).testBit c = (decide (c = a) || decide (c = b)) := fun c => by
    rw [Nat.testBit_or, Nat.testBit_two_pow, Nat.testBit_two_pow]
    congr 1 <;> rw [decide_eq_decide] <;> omega
  rw [isEdge_iff]
  constructor
  · intro he
    refine ⟨⟨hne, ?_⟩, fun c hc na nb hac => ?_⟩
    · have h1 := key b hb
      rw [he, two, h.refl_ hb] at h1
      simpa using h1.symm
    · have h1 := key c hc
      rw [he, two, hac] at h1
      simpa [na, nb] using h1
  · rintro ⟨⟨_, hab⟩, hmid⟩
    apply Nat.eq_of_testBit_eq
    intro c
    by_cases hc : c < xs.length
    · rw [key c hc, two]
      by_cases na : c = a
      · subst na; simp [h.refl_ ha, hab]
      · by_cases nb : c = b
        · subst nb; simp [h.refl_ hb, hab]
        · cases hac : le xs a c with
          | false => simp [na, nb]
          | true => simp [na, nb, hmid c hc na nb hac]
    · rw [out c (by omega), two]
      have : c ≠ a := by omega
      have : c ≠ b := by omega
      simp [*]

def edgeRow (xs : List Nat) (a k : Nat) : List (Int × Int) := ((List.range k).filter fun b => isEdge xs a b).map fun b : Nat => ((a : Int), (b : Int))
def edgesTo (xs : List Nat) (k : Nat) : List (Int × Int) := (List.range k).flatMap fun a => edgeRow xs a xs.length
theorem edgeRow_yes {xs : List Nat} {a k : Nat} (h : isEdge xs a k = true) : edgeRow xs a (k + 1) = edgeRow xs a k ++ [((a : Int), (k : Int))] := by simp [edgeRow, List.range_succ, h]
theorem edgeRow_no {xs : List Nat} {a k : Nat} (h : isEdge xs a k = false) : edgeRow xs a (k + 1) = edgeRow xs a k := by simp [edgeRow, List.range_succ, h]
theorem edgesTo_succ (xs : List Nat) (k : Nat) : edgesTo xs (k + 1) = edgesTo xs k ++ edgeRow xs k xs.length := by simp [edgesTo, List.range_succ]
theorem edgeRow_le (xs : List Nat) (a k : Nat) : (edgeRow xs a k).length ≤ k := by
  have := List.length_filter_le (fun b => isEdge xs a b) (List.range k)
  simpa [edgeRow] using this
theorem edgesTo_le (xs : List Nat) (k : Nat) : (edgesTo xs k).length ≤ k * xs.length := by
  induction k with
  | zero => simp [edgesTo]
  | succ k ih =>
    rw [edgesTo_succ, List.length_append, Nat.succ_mul]
    have := edgeRow_le xs k xs.length
    omega

end Go.Proofs.Ytipcjofmplpffaa
