/-
  Windows: a list of pairs (from, to); what is valid, what meets, what an addition makes.
-/
import Derived.Test.YtlmlckgnmkjkdaaPairs
namespace Go.Proofs.Ytlmlckgnmkjkdaa

abbrev Wn := Int × Int
/-- a valid definition -/
def defOk (k s t : Int) : Prop := 1 ≤ k ∧ k ≤ 3 ∧ 1 ≤ s ∧ s ≤ 100 ∧ (k ≠ 2 → t = 0) ∧ (k = 2 → 1 ≤ t ∧ t ≤ s ∧ s ≤ 8 * t)
/-- a valid window -/
def winOk (x : Wn) : Prop := 0 ≤ x.1 ∧ x.1 < x.2 ∧ x.2 ≤ 1100
def wat (ws : List Wn) (k : Nat) : Wn := ws.getD k (0, 0)
theorem wat_elo (ws : List Wn) (k : Nat) : elo ws k = (wat ws k).1 := rfl
theorem wat_ehi (ws : List Wn) (k : Nat) : ehi ws k = (wat ws k).2 := rfl
/-- the first k are valid and in order -/
def sessTo (ws : List Wn) (k : Nat) : Prop := ∀ i, i < k → winOk (wat ws i) ∧ (0 < i → (wat ws (i - 1)).2 ≤ (wat ws i).1)
def sessOk (ws : List Wn) : Prop := ws.length ≤ 300 ∧ sessTo ws ws.length
theorem sessTo_succ {ws : List Wn} {k : Nat} (h : sessTo ws k) (h1 : winOk (wat ws k)) (h2 : 0 < k → (wat ws (k - 1)).2 ≤ (wat ws k).1) : sessTo ws (k + 1) := fun i hi => by
  by_cases e : i = k
  · subst e; exact ⟨h1, h2⟩
  · exact h i (by omega)
theorem sess_no1 {ws : List Wn} (h : ¬ ws.length ≤ 300) : ¬ sessOk ws := fun q => h q.1
theorem sess_no2 {ws : List Wn} {k : Nat} (hk : k < ws.length) (h : ¬ winOk (wat ws k)) : ¬ sessOk ws := fun q => h (q.2 k hk).1
theorem sess_no3 {ws : List Wn} {k : Nat} (hk : k < ws.length) (h0 : 0 < k) (h : ¬ (wat ws (k - 1)).2 ≤ (wat ws k).1) : ¬ sessOk ws := fun q => h ((q.2 k hk).2 h0)
/-- two windows overlap -/
def meets (a b : Wn) : Prop := a.1 < b.2 ∧ b.1 < a.2
instance (a b : Wn) : Decidable (meets a b) := inferInstanceAs (Decidable (_ ∧ _))
def merge2 (a b : Wn) : Wn := (min a.1 b.1, max a.2 b.2)
/-- one session more is looked at: (before, the window, behind) -/
def addStep (q : List Wn × Wn × List Wn) (s : Wn) : List Wn × Wn × List Wn :=
  if meets s q.2.1 then (q.1, merge2 s q.2.1, q.2.2) else if s.2 ≤ q.2.1.1 then (q.1 ++ [s], q.2.1, q.2.2) else (q.1, q.2.1, q.2.2 ++ [s])
def addTo (ws : List Wn) (x : Wn) (k : Nat) : List Wn × Wn × List Wn := (ws.take k).foldl addStep ([], x, [])
def addAll (ws : List Wn) (x : Wn) : List Wn := (addTo ws x ws.length).1 ++ (addTo ws x ws.length).2.1 :: (addTo ws x ws.length).2.2
def addOk (ws : List Wn) (x : Wn) : Prop := sessOk ws ∧ winOk x ∧ (addAll ws x).length ≤ 300
theorem addTo_zero (ws : List Wn) (x : Wn) : addTo ws x 0 = ([], x, []) := by simp [addTo]
theorem addTo_succ {ws : List Wn} {x : Wn} {k : Nat} (h : k < ws.length) : addTo ws x (k + 1) = addStep (addTo ws x k) (wat ws k) := by
  unfold addTo
  rw [List.take_succ_eq_append_getElem h, List.foldl_append]
  simp [wat, h]
theorem addTo_len {ws : List Wn} {x : Wn} : ∀ {k : Nat}, k ≤ ws.length → (addTo ws x k).1.length + (addTo ws x k).2.2.length ≤ k
  | 0, _ => by rw [addTo_zero]; simp
  | k + 1, h => by
    have ih := addTo_len (ws := ws) (x := x) (k := k) (by omega)
    rw [addTo_succ (by omega)]
    unfold addStep
    split
    · show (addTo ws x k).1.length + (addTo ws x k).2.2.length ≤ _; omega
    · split
      · show (_ ++ [_]).length + _ ≤ _; simp; omega
      · show _ + (_ ++ [_]).length ≤ _; simp; omega
/-- the first window that contains t, from k on: none before it -/
def inWin (t : Int) (x : Wn) : Prop := x.1 ≤ t ∧ t < x.2
end Go.Proofs.Ytlmlckgnmkjkdaa
