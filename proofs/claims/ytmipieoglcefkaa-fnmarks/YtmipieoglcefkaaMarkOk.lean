/-
  Watermarks: what is set stays valid.
-/
import Derived.Test.YtmipieoglcefkaaMarkMath
namespace Go.Proofs.Ytmipieoglcefkaa

theorem most_nonneg {ms : List Mk} : ∀ {k : Nat}, k ≤ ms.length → 0 ≤ mostTo ms k
  | 0, _ => by rw [mostTo_zero]; omega
  | k + 1, h => by rw [mostTo_succ (by omega)]; have := most_nonneg (ms := ms) (k := k) (by omega); omega
theorem most_ge {ms : List Mk} : ∀ {k : Nat}, k ≤ ms.length → ∀ {j : Nat}, j < k → (mat ms j).1 ≤ mostTo ms k
  | 0, _, _, hj => by omega
  | k + 1, h, j, hj => by
    rw [mostTo_succ (by omega)]
    by_cases e : j = k
    · subst e; omega
    · have := most_ge (ms := ms) (k := k) (by omega) (j := j) (by omega); omega
theorem most_le {ms : List Mk} {B : Int} (hB : 0 ≤ B) : ∀ {k : Nat}, k ≤ ms.length → (∀ j, j < k → (mat ms j).1 ≤ B) → mostTo ms k ≤ B
  | 0, _, _ => by rw [mostTo_zero]; exact hB
  | k + 1, h, ha => by
    rw [mostTo_succ (by omega)]
    have h1 := most_le hB (k := k) (by omega) (fun j hj => ha j (by omega))
    have h2 := ha k (by omega)
    omega
theorem least_cases {ms : List Mk} : ∀ {k : Nat}, k ≤ ms.length → (leastTo ms k).1 = -1 ∨ ∃ j, j < k ∧ (leastTo ms k).1 = (mat ms j).1
  | 0, _ => .inl (by rw [leastTo_zero])
  | k + 1, h => by
    rw [leastTo_succ (by omega)]
    unfold lst
    split
    · exact .inr ⟨k, by omega, rfl⟩
    · rcases least_cases (ms := ms) (k := k) (by omega) with h1 | ⟨j, hj, h1⟩
      · exact .inl h1
      · exact .inr ⟨j, by omega, h1⟩
theorem mat_set {ms : List Mk} {k j : Nat} {m : Mk} (h : j < ms.length) : mat (ms.set k m) j = if k = j then m else mat ms j := by
  unfold mat
  rw [List.getD_eq_getElem?_getD, List.getD_eq_getElem?_getD, List.getElem?_set]
  by_cases e : k = j
  · subst e; simp [h]
  · simp [e]
theorem withM_ok {G : Int} {ms : List Mk} {k : Nat} {x : Int} {d : Bool} (h : marksOk G ms) (hx : isT x) (hge : (mat ms k).1 ≤ x) : marksOk (withM G ms k (x, d)).1 (withM G ms k (x, d)).2 := by
  obtain ⟨h1, h2, hG, ht, hl, hm⟩ := h
  have hlen : (ms.set k (x, d)).length = ms.length := List.length_set ..
  have hat : ∀ j, j < ms.length → (mat ms j).1 ≤ (mat (ms.set k (x, d)) j).1 ∧ isT (mat (ms.set k (x, d)) j).1 := fun j hj => by
    rw [mat_set hj]
    split
    · rename_i e; subst e; exact ⟨hge, hx⟩
    · exact ⟨Int.le_refl _, ht j hj⟩
  have hmost : mostOf ms ≤ mostOf (ms.set k (x, d)) := by
    refine most_le (most_nonneg (Nat.le_refl _)) (Nat.le_refl _) (fun j hj => ?_)
    have a := (hat j hj).1
    have b := most_ge (ms := ms.set k (x, d)) (Nat.le_refl _) (j := j) (by rw [hlen]; exact hj)
    exact Int.le_trans a b
  have hleast : leastOf (ms.set k (x, d)) ≤ mostOf (ms.set k (x, d)) ∧ leastOf (ms.set k (x, d)) ≤ 1000 := by
    unfold leastOf mostOf
    have hn := most_nonneg (ms := ms.set k (x, d)) (Nat.le_refl _)
    rcases least_cases (ms := ms.set k (x, d)) (Nat.le_refl _) with e | ⟨j, hj, e⟩
    · rw [e]; omega
    · rw [e]
      exact ⟨most_ge (Nat.le_refl _) hj, (hat j (by rw [← hlen]; exact hj)).2.2⟩
  refine ⟨?_, ?_, ?_, ?_, ?_, ?_⟩
  · show 1 ≤ (ms.set k (x, d)).length; omega
  · show (ms.set k (x, d)).length ≤ 4; omega
  · show isT (max G (leastOf (ms.set k (x, d))))
    unfold isT at hG ⊢; omega
  · show timesTo (ms.set k (x, d)) (ms.set k (x, d)).length
    exact fun j hj => (hat j (by omega)).2
  · show leastOf (ms.set k (x, d)) ≤ max G (leastOf (ms.set k (x, d))); omega
  · show max G (leastOf (ms.set k (x, d))) ≤ mostOf (ms.set k (x, d)); omega
theorem newM_ok {n : Nat} (h1 : 1 ≤ n) (h4 : n ≤ 4) : marksOk 0 (List.replicate n (0, false)) := by
  have hm : ∀ j, j < n → mat (List.replicate n ((0 : Int), false)) j = (0, false) := fun j hj => by simp [mat, hj]
  have hn := most_nonneg (ms := List.replicate n ((0 : Int), false)) (Nat.le_refl _)
  refine ⟨by simpa using h1, by simpa using h4, ⟨by omega, by omega⟩, fun j hj => ?_, ?_, hn⟩
  · rw [List.length_replicate] at hj
    rw [hm j hj]
    exact ⟨by omega, by omega⟩
  · unfold leastOf
    rcases least_cases (ms := List.replicate n ((0 : Int), false)) (Nat.le_refl _) with e | ⟨j, hj, e⟩
    · rw [e]; omega
    · rw [List.length_replicate] at hj
      rw [e, hm j hj]
      exact Int.le_refl _
end Go.Proofs.Ytmipieoglcefkaa
