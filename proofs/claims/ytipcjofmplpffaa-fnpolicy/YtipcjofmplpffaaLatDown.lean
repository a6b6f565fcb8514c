/-
  The program's and the model's LatDown.
-/
import Derived.Test.YtipcjofmplpffaaLatSpecD
import Derived.Test.YtipcjofmplpffaaIntAt
namespace Go.Proofs.Ytipcjofmplpffaa
open Go.RowKit

def downTo (xs : List Nat) (c k : Nat) : List Int := ((List.range k).filter fun a => le xs a c).map fun a : Nat => (a : Int)
theorem downTo_yes {xs : List Nat} {c k : Nat} (h : le xs k c = true) : downTo xs c (k + 1) = downTo xs c k ++ [(k : Int)] := by simp [downTo, List.range_succ, h]
theorem downTo_no {xs : List Nat} {c k : Nat} (h : le xs k c = false) : downTo xs c (k + 1) = downTo xs c k := by simp [downTo, List.range_succ, h]
theorem downTo_le (xs : List Nat) (c k : Nat) : (downTo xs c k).length ≤ k := by
  have := List.length_filter_le (fun a => le xs a c) (List.range k)
  simpa [downTo] using this
/-- the labels at or below c, none where the lattice or the label is not valid -/
noncomputable def downV (N : Int) (xs : List Nat) (c : Int) : List Int := if tf (LatP N xs ∧ Lab xs c) = true then downTo xs c.toNat xs.length else []
theorem downV_no {N : Int} {xs : List Nat} {c : Int} (h : ¬ (LatP N xs ∧ Lab xs c)) : downV N xs c = [] := by unfold downV; rw [← tf_no h]; rfl
theorem downV_yes {N : Int} {xs : List Nat} {c : Nat} (h : LatP N xs ∧ Lab xs c) : downV N xs c = downTo xs c xs.length := by unfold downV; rw [← tf_yes h]; rfl
theorem downV_le (N : Int) (xs : List Nat) (c : Int) : (downV N xs c).length ≤ xs.length := by
  unfold downV
  split
  · exact downTo_le _ _ _
  · simp

end Go.Proofs.Ytipcjofmplpffaa
