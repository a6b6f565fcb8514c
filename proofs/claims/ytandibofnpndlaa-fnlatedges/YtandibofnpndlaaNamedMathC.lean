/-
  The closure of a lattice's Hasse diagram is its order.
-/
import Derived.Test.YtandibofnpndlaaNamedMath
import Derived.Test.YtandibofnpndlaaLatEdges
import Derived.Test.YtandibofnpndlaaLatOfB
namespace Go.Proofs.Ytandibofnpndlaa
open Go.RowKit

theorem fold_add (es : List (Int × Int)) : ∀ (R : Nat → Nat → Bool) (a b : Nat), es.foldl addE R a b = (R a b || es.any fun e => a == e.1.toNat && b == e.2.toNat) := by
  induction es with
  | nil => intro R a b; simp
  | cons e es ih => intro R a b; rw [List.foldl_cons, ih]; simp [addE, Bool.or_assoc]

theorem rel_all (es : List (Int × Int)) (a b : Nat) : relTo es es.length a b = true ↔ a = b ∨ ∃ e ∈ es, a = e.1.toNat ∧ b = e.2.toNat := by
  unfold relTo
  rw [List.take_length, fold_add]
  simp [idR]

theorem edgesTo_mem {xs : List Nat} {k : Nat} {e : Int × Int} : e ∈ edgesTo xs k ↔ ∃ a b, a < k ∧ b < xs.length ∧ isEdge xs a b = true ∧ e = ((a : Int), (b : Int)) := by
  simp only [edgesTo, edgeRow, List.mem_flatMap, List.mem_map, List.mem_filter, List.mem_range]
  constructor
  · rintro ⟨a, ha, b, ⟨hb, he⟩, rfl⟩; exact ⟨a, b, ha, hb, he, rfl⟩
  · rintro ⟨a, b, ha, hb, he, rfl⟩; exact ⟨a, ha, b, ⟨hb, he⟩, rfl⟩

theorem rel_edges {xs : List Nat} {a b : Nat} : relTo (edgesTo xs xs.length) (edgesTo xs xs.length).length a b = true ↔ a = b ∨ (a < xs.length ∧ b < xs.length ∧ isEdge xs a b = true) := by
  rw [rel_all]
  constructor
  · rintro (h | ⟨e, he, h1, h2⟩)
    · exact .inl h
    · obtain ⟨a', b', ha, hb, hE, rfl⟩ := edgesTo_mem.1 he
      simp at h1 h2
      subst h1; subst h2
      exact .inr ⟨ha, hb, hE⟩
  · rintro (h | ⟨ha, hb, hE⟩)
    · exact .inl h
    · exact .inr ⟨_, edgesTo_mem.2 ⟨a, b, ha, hb, hE, rfl⟩, by simp, by simp⟩

section
variable {R : Nat → Nat → Bool}
theorem step_iff (S : Nat → Nat → Bool) (k a b : Nat) : stepR S k a b = true ↔ S a b = true ∨ (S a k = true ∧ S k b = true) := by simp [stepR]
theorem clos_sub (k : Nat) {a b : Nat} (h : R a b = true) : closTo R k a b = true := by
  induction k with
  | zero => exact h
  | succ k ih => exact (step_iff _ _ _ _).2 (.inl ih)
theorem clos_trans : ∀ (k a b c : Nat), c < k → closTo R k a c = true → closTo R k c b = true → closTo R k a b = true
  | 0, _, _, _, h, _, _ => by omega
  | k + 1, a, b, c, hc, h1, h2 => by
    have ih := clos_trans k
    show stepR (closTo R k) k a b = true
    rw [step_iff]
    by_cases e : c = k
    · subst e
      have e1 : closTo R c a c = true := by rw [← stepR_col (closTo R c) c a]; exact h1
      have e2 : closTo R c c b = true := by rw [← stepR_row (closTo R c) c b]; exact h2
      exact .inr ⟨e1, e2⟩
    · have hck : c < k := by omega
      rcases (step_iff _ _ _ _).1 h1 with p | ⟨p1, p2⟩ <;> rcases (step_iff _ _ _ _).1 h2 with q | ⟨q1, q2⟩
      · exact .inl (ih a b c hck p q)
      · exact .inr ⟨ih a k c hck p q1, q2⟩
      · exact .inr ⟨p1, ih k b c hck p2 q⟩
      · exact .inr ⟨p1, q2⟩
end

section
variable {N : Int} {xs : List Nat}
theorem clos_sound (h : LatP N xs) (k : Nat) : ∀ (a b : Nat), k ≤ xs.length → a < xs.length → b < xs.length → closTo (relTo (edgesTo xs xs.length) (edgesTo xs xs.length).length) k a b = true → le xs a b = true := by
  induction k with
  | zero =>
    intro a b _ ha hb hr
    rcases rel_edges.1 hr with rfl | ⟨_, _, hE⟩
    · exact h.refl_ ha
    · exact (isEdge_iff.1 hE).1.2
  | succ k ih =>
    intro a b hk ha hb hr
    rcases (step_iff _ _ _ _).1 hr with p | ⟨p, q⟩
    · exact ih a b (by omega) ha hb p
    · exact h.trans_ ha (by omega) hb (ih a k (by omega) ha (by omega) p) (ih k b (by omega) (by omega) hb q)

/-- how many labels lie between -/
def gap (xs : List Nat) (a b : Nat) : Nat := ((List.range xs.length).filter fun d => le xs a d && le xs d b).length
theorem gap_lt {a b a' b' : Nat} (hsub : ∀ d, d < xs.length → le xs a' d = true → le xs d b' = true → le xs a d = true ∧ le xs d b = true) (d : Nat) (hd : d < xs.length) (h1 : le xs a d = true ∧ le xs d b = true) (h2 : ¬ (le xs a' d = true ∧ le xs d b' = true)) : gap xs a' b' < gap xs a b := by
  unfold gap
  rw [← List.countP_eq_length_filter, ← List.countP_eq_length_filter]
  obtain ⟨l1, l2, e⟩ := List.append_of_mem (List.mem_range.2 hd)
  have hm : ∀ l : List Nat, (∀ x ∈ l, x < xs.length) → l.countP (fun d => le xs a' d && le xs d b') ≤ l.countP (fun d => le xs a d && le xs d b) := fun l hl =>
    List.countP_mono_left fun x hx hp => by
      rw [Bool.and_eq_true] at hp ⊢
      exact hsub x (hl x hx) hp.1 hp.2
  have hall : ∀ x ∈ l1 ++ d :: l2, x < xs.length := fun x hx => by rw [← e] at hx; exact List.mem_range.1 hx
  rw [e, List.countP_append, List.countP_append, List.countP_cons_of_neg (by rw [Bool.and_eq_true]; exact h2), List.countP_cons_of_pos (by rw [Bool.and_eq_true]; exact h1)]
  have i1 := hm l1 (fun x hx => hall x (by simp [hx]))
  have i2 := hm l2 (fun x hx => hall x (by simp [hx]))
  omega

theorem clos_complete (h : LatP N xs) : ∀ (m a b : Nat), gap xs a b ≤ m → a < xs.length → b < xs.length → le xs a b = true → closTo (relTo (edgesTo xs xs.length) (edgesTo xs xs.length).length) xs.length a b = true := by
  intro m
  induction m with
  | zero =>
    intro a b hg ha hb hl
    exfalso
    have : gap xs a b ≠ 0 := by
      unfold gap
      intro h0
      have := List.length_eq_zero_iff.1 h0
      have hm : a ∈ (List.range xs.length).filter fun d => le xs a d && le xs d b := List.mem_filter.2 ⟨List.mem_range.2 ha, by rw [h.refl_ ha, hl]; rfl⟩
      rw [this] at hm; cases hm
    omega
  | succ m ih =>
    intro a b hg ha hb hl
    by_cases e : a = b
    · exact clos_sub _ (rel_edges.2 (.inl e))
    cases hE : isEdge xs a b with
    | true => exact clos_sub _ (rel_edges.2 (.inr ⟨ha, hb, hE⟩))
    | false =>
      have hmid : ∃ c, c < xs.length ∧ c ≠ a ∧ c ≠ b ∧ le xs a c = true ∧ le xs c b = true := by
        refine Classical.byContradiction fun hno => ?_
        have : isEdge xs a b = true := isEdge_iff.2 ⟨⟨e, hl⟩, fun c hc h1 h2 h3 => by
          cases h4 : le xs c b with
          | false => rfl
          | true => exact absurd ⟨c, hc, h1, h2, h3, h4⟩ hno⟩
        rw [hE] at this; cases this
      obtain ⟨c, hc, n1, n2, l1, l2⟩ := hmid
      refine clos_trans xs.length a b c hc (ih a c ?_ ha hc l1) (ih c b ?_ hc hb l2)
      · have := gap_lt (xs := xs) (a := a) (b := b) (a' := a) (b' := c) (fun d hd p q => ⟨p, h.trans_ hd hc hb q l2⟩) b hb ⟨hl, h.refl_ hb⟩ (fun p => n2 (h.anti hc hb l2 p.2))
        omega
      · have := gap_lt (xs := xs) (a := a) (b := b) (a' := c) (b' := b) (fun d hd p q => ⟨h.trans_ ha hc hd l1 p, q⟩) a ha ⟨h.refl_ ha, hl⟩ (fun p => n1 (h.anti hc ha p.1 l1))
        omega

theorem rows_back (h : LatP N xs) : ofRows xs.length (edgesTo xs xs.length) = xs := by
  unfold ofRows
  apply List.ext_getElem
  · rw [rowsOf_length]
  · intro a h1 h2
    rw [show (rowsOf (closTo (relTo (edgesTo xs xs.length) (edgesTo xs xs.length).length) xs.length) xs.length)[a] = row (rowsOf (closTo (relTo (edgesTo xs xs.length) (edgesTo xs xs.length).length) xs.length) xs.length) a by simp [row, h1], rowsOf_row h2]
    rw [show xs[a] = row xs a by simp [row, h2]]
    apply Nat.eq_of_testBit_eq
    intro i
    rw [pack_bit]
    by_cases hi : i < xs.length
    · rw [decide_eq_true hi, Bool.true_and]
      show _ = le xs a i
      rw [Bool.eq_iff_iff]
      exact ⟨clos_sound h xs.length a i (Nat.le_refl _) h2 hi, clos_complete h _ a i (Nat.le_refl _) h2 hi⟩
    · rw [decide_eq_false hi, Bool.false_and]
      exact (Nat.testBit_lt_two_pow (Nat.lt_of_lt_of_le (h.2.1 a h2) (Nat.pow_le_pow_right (by decide) (by omega)))).symm

theorem edges_back (h : LatP N xs) (hn : xs.length ≤ 9) : OfOk N (edgesV N xs) ∧ ofN N (edgesV N xs) = N ∧ ofXs N (edgesV N xs) = xs := by
  have hl := h.len
  rw [edgesV_yes h]
  have hN : N.toNat = xs.length := by have := h.1; unfold Fit at this; omega
  have hok : OfOk N (edgesTo xs xs.length) := by
    refine ⟨⟨h.1.1, h.1.2.1, ?_⟩, fun i hi => ?_, ?_⟩
    · have h1 := edgesTo_le xs xs.length
      have h2 : xs.length * xs.length ≤ 9 * 9 := Nat.mul_le_mul hn hn
      omega
    · obtain ⟨a, b, ha, hb, _, e⟩ := edgesTo_mem.1 (List.getElem_mem hi)
      unfold LabN elo ehi
      rw [hN, List.getD_eq_getElem?_getD, List.getElem?_eq_getElem hi, Option.getD_some, e]
      exact ⟨⟨by simp, by simp; omega⟩, by simp, by simp; omega⟩
    · rw [hN, rows_back h]; exact h
  exact ⟨hok, ofN_yes hok, by rw [ofXs_yes hok, hN, rows_back h]⟩
end
end Go.Proofs.Ytandibofnpndlaa
