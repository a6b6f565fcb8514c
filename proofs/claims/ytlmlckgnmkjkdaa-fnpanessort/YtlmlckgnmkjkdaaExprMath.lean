/-
  Postfix expressions as lists of pairs (operation, number): their depth. Plain mathematics.
-/
import Derived.Lib.Hide
namespace Go.Proofs.Ytlmlckgnmkjkdaa

/-- how many numbers an operation pops -/
def pops (op : Int) : Int := if op ≤ 3 then 0 else if op = 11 then 1 else 2
/-- an operation that there is; only a constant bears a number -/
def tokGood (t : Int × Int) : Prop := t.1 = 0 ∨ 0 < t.1 ∧ t.1 ≤ 11 ∧ t.2 = 0
instance (t : Int × Int) : Decidable (tokGood t) := by unfold tokGood; infer_instance
theorem pops_range (op : Int) : 0 ≤ pops op ∧ pops op ≤ 2 := by unfold pops; split <;> (try split) <;> omega

/-- the greatest depth of what is left, from depth n on, m the greatest so far; -1: not valid -/
def dep : List (Int × Int) → Int → Int → Int
  | [], n, m => if n = 1 then m else -1
  | t :: ts, n, m => if tokGood t ∧ pops t.1 ≤ n then dep ts (n - pops t.1 + 1) (max m (n - pops t.1 + 1)) else -1
def depthOf (es : List (Int × Int)) : Int := if es.length ≤ 20 then dep es 0 0 else -1

theorem dep_nil (n m : Int) : dep [] n m = if n = 1 then m else -1 := rfl
theorem dep_cons (t : Int × Int) (ts : List (Int × Int)) (n m : Int) : dep (t :: ts) n m = if tokGood t ∧ pops t.1 ≤ n then dep ts (n - pops t.1 + 1) (max m (n - pops t.1 + 1)) else -1 := rfl
theorem dep_step {es : List (Int × Int)} {k : Nat} {n m : Int} (h : k < es.length) (hg : tokGood (es.getD k (0, 0))) (hp : pops (es.getD k (0, 0)).1 ≤ n) :
    dep (es.drop k) n m = dep (es.drop (k + 1)) (n - pops (es.getD k (0, 0)).1 + 1) (max m (n - pops (es.getD k (0, 0)).1 + 1)) := by
  rw [List.drop_eq_getElem_cons h, dep_cons]
  have e : es.getD k (0, 0) = es[k] := by simp [h]
  rw [e] at hg hp ⊢
  rw [if_pos ⟨hg, hp⟩]
theorem dep_stop {es : List (Int × Int)} {k : Nat} {n m : Int} (h : k < es.length) (hg : ¬ (tokGood (es.getD k (0, 0)) ∧ pops (es.getD k (0, 0)).1 ≤ n)) : dep (es.drop k) n m = -1 := by
  rw [List.drop_eq_getElem_cons h, dep_cons]
  have e : es.getD k (0, 0) = es[k] := by simp [h]
  rw [e] at hg
  rw [if_neg hg]
theorem dep_le : ∀ (es : List (Int × Int)) (n m : Int), -1 ≤ m → dep es n m = -1 ∨ (m ≤ dep es n m ∧ dep es n m ≤ max m (n + es.length))
  | [], n, m, hm => by
    rw [dep_nil]; split
    · right; omega
    · left; rfl
  | t :: ts, n, m, hm => by
    rw [dep_cons]; split
    · rcases dep_le ts (n - pops t.1 + 1) (max m (n - pops t.1 + 1)) (by omega) with h | h
      · left; exact h
      · right; have := pops_range t.1; simp only [List.length_cons]; omega
    · left; rfl
theorem depthOf_range (es : List (Int × Int)) : -1 ≤ depthOf es ∧ depthOf es ≤ 20 := by
  unfold depthOf; split
  · rcases dep_le es 0 0 (by omega) with h | h <;> omega
  · omega
theorem depthOf_nil : depthOf [] = -1 := by simp [depthOf, dep]
end Go.Proofs.Ytlmlckgnmkjkdaa
