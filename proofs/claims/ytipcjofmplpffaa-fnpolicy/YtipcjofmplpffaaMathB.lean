/-
  Lattices: every two labels have bounds; the least and the greatest label.
-/
import Derived.Test.YtipcjofmplpffaaMath
namespace Go.Proofs.Ytipcjofmplpffaa

theorem isB_comm (xs : List Nat) (up : Bool) (a b c : Nat) : isB xs up a b c = isB xs up b a c := by
  rw [Bool.eq_iff_iff, isB_iff, isB_iff]
  constructor
  · rintro ⟨⟨h1, h2⟩, h3⟩; exact ⟨⟨h2, h1⟩, fun d hd x y => h3 d hd y x⟩
  · rintro ⟨⟨h1, h2⟩, h3⟩; exact ⟨⟨h2, h1⟩, fun d hd x y => h3 d hd y x⟩
theorem bound_comm (xs : List Nat) (up : Bool) (a b : Nat) : bound xs up a b = bound xs up b a := by
  unfold bound; exact first_congr fun c _ => isB_comm xs up a b c

theorem bound_spec {xs : List Nat} {up : Bool} {a b : Nat} (h : 0 ≤ bound xs up a b) : ∃ c, c < xs.length ∧ bound xs up a b = (c : Int) ∧ isB xs up a b c = true := by
  unfold bound at h ⊢
  rcases first_cases (isB xs up a b) xs.length with ⟨h1, _⟩ | ⟨k, hk, h1, h2, _⟩
  · rw [h1] at h; omega
  · exact ⟨k, hk, h1, h2⟩

section
variable {N : Int} {xs : List Nat}
theorem LatP.refl_ (h : LatP N xs) {a : Nat} (ha : a < xs.length) : le xs a a = true := (h.2.2.1 a ha).1
theorem LatP.anti (h : LatP N xs) {a b : Nat} (ha : a < xs.length) (hb : b < xs.length) (h1 : le xs a b = true) (h2 : le xs b a = true) : a = b := by
  by_cases e : a = b
  · exact e
  · have := ((h.2.2.1 a ha).2 b hb).1 e h1; rw [h2] at this; cases this
theorem LatP.trans_ (h : LatP N xs) {a b c : Nat} (ha : a < xs.length) (hb : b < xs.length) (hc : c < xs.length) (h1 : le xs a b = true) (h2 : le xs b c = true) : le xs a c = true :=
  ((h.2.2.1 a ha).2 b hb).2 c hc h1 h2
theorem LatP.bnd (h : LatP N xs) (up : Bool) : Bnd xs up := by
  cases up
  · exact h.2.2.2.2
  · exact h.2.2.2.1
theorem LatP.side_refl (h : LatP N xs) (up : Bool) {a : Nat} (ha : a < xs.length) : side xs up a a = true := by cases up <;> exact h.refl_ ha
/-- any two labels have a bound -/
theorem LatP.bound_ok (h : LatP N xs) (up : Bool) {a b : Nat} (ha : a < xs.length) (hb : b < xs.length) : ∃ c, c < xs.length ∧ bound xs up a b = (c : Int) ∧ isB xs up a b c = true := by
  apply bound_spec
  rcases Nat.lt_trichotomy a b with e | e | e
  · rw [bound_comm]; exact h.bnd up b hb a e
  · subst e
    have hs := h.side_refl up ha
    have hB : isB xs up a a a = true := isB_iff.2 ⟨⟨hs, hs⟩, fun d _ x _ => x⟩
    unfold bound
    rcases first_cases (isB xs up a a) xs.length with ⟨_, h2⟩ | ⟨k, _, h1, _⟩
    · rw [h2 a ha] at hB; cases hB
    · omega
  · exact h.bnd up a ha b e

/-- the label that is at or below (down) or at or above all others -/
def isEnd (xs : List Nat) (up : Bool) (c : Nat) : Bool := (List.range xs.length).all fun d => side xs up d c
def endOf (xs : List Nat) (up : Bool) : Int := first (isEnd xs up) xs.length
theorem isEnd_iff {up : Bool} {c : Nat} : isEnd xs up c = true ↔ ∀ d, d < xs.length → side xs up d c = true := all_range
theorem LatP.side_anti (h : LatP N xs) {up : Bool} {a b : Nat} (ha : a < xs.length) (hb : b < xs.length) (h1 : side xs up a b = true) (h2 : side xs up b a = true) : a = b := by
  cases up
  · exact h.anti ha hb h2 h1
  · exact h.anti ha hb h1 h2
theorem LatP.side_trans (h : LatP N xs) {up : Bool} {a b c : Nat} (ha : a < xs.length) (hb : b < xs.length) (hc : c < xs.length) (h1 : side xs up a b = true) (h2 : side xs up b c = true) : side xs up a c = true := by
  cases up
  · exact h.trans_ hc hb ha h2 h1
  · exact h.trans_ ha hb hc h1 h2
theorem LatP.end_is (h : LatP N xs) {up : Bool} {c : Nat} (hc : c < xs.length) (he : isEnd xs up c = true) : endOf xs up = (c : Int) := by
  unfold endOf
  rcases first_cases (isEnd xs up) xs.length with ⟨_, h2⟩ | ⟨k, hk, h1, h2, _⟩
  · rw [h2 c hc] at he; cases he
  · rw [h1]
    have := h.side_anti (up := up) hk hc (isEnd_iff.1 he k hk) (isEnd_iff.1 h2 c hc)
    rw [this]

/-- there is a least, and a greatest label -/
theorem LatP.end_ok (h : LatP N xs) (up : Bool) (h0 : 0 < xs.length) : ∃ c, c < xs.length ∧ endOf xs up = (c : Int) := by
  have key : ∀ k, 1 ≤ k → k ≤ xs.length → ∃ c, c < xs.length ∧ ∀ i, i < k → side xs up i c = true := by
    intro k
    induction k with
    | zero => intro h1; omega
    | succ k ih =>
      intro _ hk
      by_cases hk0 : k = 0
      · subst hk0
        refine ⟨0, h0, fun i hi => ?_⟩
        obtain rfl : i = 0 := by omega
        exact h.side_refl up h0
      · obtain ⟨c, hc, hall⟩ := ih (by omega) (by omega)
        obtain ⟨d, hd, _, hB⟩ := h.bound_ok up hc (show k < xs.length by omega)
        refine ⟨d, hd, fun i hi => ?_⟩
        rcases Nat.lt_succ_iff_lt_or_eq.1 hi with e | e
        · exact h.side_trans (by omega) hc hd (hall i e) (isB_iff.1 hB).1.1
        · subst e; exact (isB_iff.1 hB).1.2
  obtain ⟨c, hc, hall⟩ := key xs.length (by omega) (Nat.le_refl _)
  exact ⟨c, hc, h.end_is hc (isEnd_iff.2 hall)⟩

/-- the program's way: the least label of all labels -/
theorem least_all (hu : U64 xs) (hn : xs.length ≤ 16) : least xs (2 ^ xs.length - 1) = endOf xs false := by
  unfold least endOf
  have hp : 2 ^ xs.length - 1 < 18446744073709551616 := by
    have : 2 ^ xs.length ≤ 2 ^ 16 := Nat.pow_le_pow_right (by omega) hn
    omega
  refine first_congr fun c hc => ?_
  rw [Bool.eq_iff_iff, isEnd_iff, Bool.and_eq_true, beq_iff_eq, andNot_zero hp (hu.at c)]
  simp only [Nat.testBit_two_pow_sub_one, decide_eq_true_eq, side, Bool.false_eq_true, if_false, le]
  exact ⟨fun h => h.2, fun h => ⟨hc, h⟩⟩
theorem flip_end : endOf (flip xs) false = endOf xs true := by
  unfold endOf
  rw [flip_length]
  refine first_congr fun c hc => ?_
  rw [Bool.eq_iff_iff, isEnd_iff, isEnd_iff, flip_length]
  simp only [side, if_true, Bool.false_eq_true, if_false]
  exact ⟨fun h d hd => by rw [← flip_le hc hd]; exact h d hd, fun h d hd => by rw [flip_le hc hd]; exact h d hd⟩
end

end Go.Proofs.Ytipcjofmplpffaa
