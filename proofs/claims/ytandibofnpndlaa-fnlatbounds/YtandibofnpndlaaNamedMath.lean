/-
  What the named laws of lattices say: the join of all labels at or below c is c.
-/
import Derived.Test.YtandibofnpndlaaLatAll
import Derived.Test.YtandibofnpndlaaLatDown
namespace Go.Proofs.Ytandibofnpndlaa
open Go.RowKit

section
variable {N : Int} {xs : List Nat}
theorem LatP.end_all (h : LatP N xs) (up : Bool) (h0 : 0 < xs.length) : ∃ c, c < xs.length ∧ endOf xs up = (c : Int) ∧ ∀ d, d < xs.length → side xs up d c = true := by
  obtain ⟨c, hc, he⟩ := h.end_ok up h0
  refine ⟨c, hc, he, ?_⟩
  unfold endOf at he
  rcases first_cases (isEnd xs up) xs.length with ⟨h1, _⟩ | ⟨k, hk, h1, h2, _⟩
  · rw [h1] at he; omega
  · have : k = c := by rw [h1] at he; omega
    subst this
    exact isEnd_iff.1 h2

theorem jall_list (h : LatP N xs) {c : Nat} (hc : c < xs.length) : ∀ (zs : List Nat) (j : Nat), j < xs.length → le xs j c = true → (∀ a ∈ zs, a < xs.length ∧ le xs a c = true) →
    ∃ j' : Nat, jall xs j (zs.map fun a : Nat => (a : Int)) = (j' : Int) ∧ j' < xs.length ∧ le xs j' c = true ∧ le xs j j' = true ∧ ∀ a ∈ zs, le xs a j' = true := by
  intro zs
  induction zs with
  | nil => intro j hj hjc _; exact ⟨j, rfl, hj, hjc, h.refl_ hj, fun a ha => by cases ha⟩
  | cons a zs ih =>
    intro j hj hjc hall
    obtain ⟨ha, hac⟩ := hall a (List.mem_cons_self ..)
    obtain ⟨d, hd, hbd, hB⟩ := h.bound_ok true hj ha
    obtain ⟨⟨h1, h2⟩, h3⟩ := isB_iff.1 hB
    simp only [side, if_true] at h1 h2 h3
    obtain ⟨j', e, hj', hjc', hdj, hr⟩ := ih d hd (h3 c hc hjc hac) (fun b hb => hall b (List.mem_cons_of_mem _ hb))
    refine ⟨j', ?_, hj', hjc', h.trans_ hj hd hj' h1 hdj, fun b hb => ?_⟩
    · rw [List.map_cons, jall, ← tf_yes (show Lab xs (a : Int) from ⟨by omega, by omega⟩)]
      simp only [if_true, Int.toNat_natCast, hbd]
      exact e
    · rcases List.mem_cons.1 hb with rfl | hb
      · exact h.trans_ ha hd hj' h2 hdj
      · exact hr b hb
theorem down_mem {c k a : Nat} : a ∈ ((List.range k).filter fun a => le xs a c) ↔ a < k ∧ le xs a c = true := by
  rw [List.mem_filter, List.mem_range]
/-- the join of all labels at or below c is c -/
theorem down_join (h : LatP N xs) {c : Nat} (hc : c < xs.length) : allV N xs (downTo xs c xs.length) = (c : Int) := by
  rw [allV_yes h]
  obtain ⟨b, hb, eb, hall⟩ := h.end_all false (by omega)
  have hbc := hall c hc
  simp only [side, Bool.false_eq_true, if_false] at hbc
  rw [eb]
  obtain ⟨j', e, hj', hjc, _, hr⟩ := jall_list h hc ((List.range xs.length).filter fun a => le xs a c) b hb hbc (fun a ha => down_mem.1 ha)
  have := hr c (down_mem.2 ⟨hc, h.refl_ hc⟩)
  have e' := h.anti hj' hc hjc this
  subst e'
  exact e
/-- each entry is a label at or below c, and they ascend -/
theorem down_at {c k i : Nat} (hi : i < (downTo xs c k).length) : ∃ a : Nat, iat (downTo xs c k) i = (a : Int) ∧ a < k ∧ le xs a c = true := by
  have hm : iat (downTo xs c k) i ∈ downTo xs c k := by
    have : iat (downTo xs c k) i = (downTo xs c k)[i] := by simp [iat, hi]
    rw [this]; exact List.getElem_mem _
  unfold downTo at hm
  obtain ⟨a, ha, e⟩ := List.mem_map.1 hm
  obtain ⟨h1, h2⟩ := down_mem.1 ha
  exact ⟨a, e.symm, h1, h2⟩
theorem down_asc {c k : Nat} : ∀ i j, i < j → j < (downTo xs c k).length → iat (downTo xs c k) i < iat (downTo xs c k) j := by
  have hp : List.Pairwise (fun a b : Int => a < b) (downTo xs c k) := by
    unfold downTo
    rw [List.pairwise_map]
    refine List.Pairwise.filter _ ?_
    exact List.pairwise_lt_range.imp fun h => by omega
  intro i j hij hj
  have := List.pairwise_iff_getElem.1 hp i j (by omega) hj hij
  simpa [iat, hj, show i < (downTo xs c k).length by omega] using this
end

end Go.Proofs.Ytandibofnpndlaa
