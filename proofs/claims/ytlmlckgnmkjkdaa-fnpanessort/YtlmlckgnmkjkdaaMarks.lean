/-
  Numbers in a row, as marks.
-/
import Derived.Test.YtlmlckgnmkjkdaaBase
namespace Go.Proofs.Ytlmlckgnmkjkdaa
open Go.RowKit

/-- the numbers from k on, n of them -/
def marks (k : Int) : Nat → List Int
  | 0 => []
  | n + 1 => k :: marks (k + 1) n
theorem marks_length (k : Int) (n : Nat) : (marks k n).length = n := by
  induction n generalizing k with
  | zero => rfl
  | succ n ih => simp [marks, ih]
theorem marks_at {k : Int} {n i : Nat} (h : i < n) : (marks k n).getD i 0 = k + i := by
  induction n generalizing k i with
  | zero => omega
  | succ n ih =>
    cases i with
    | zero => simp [marks]
    | succ i => simp only [marks, List.getD_cons_succ]; rw [ih (by omega)]; omega
theorem marks_snoc (k : Int) (n : Nat) : marks k (n + 1) = marks k n ++ [k + n] := by
  induction n generalizing k with
  | zero => simp [marks]
  | succ n ih => rw [marks, ih (k + 1)]; simp [marks]; omega

/-- a row whose first i numbers have been marked -/
def markTo (zs : List Int) (k : Int) (i : Nat) : List Int := marks k i ++ zs.drop i
theorem markTo_length {zs : List Int} {k : Int} {i : Nat} (h : i ≤ zs.length) : (markTo zs k i).length = zs.length := by simp [markTo, marks_length]; omega
theorem markTo_zero (zs : List Int) (k : Int) : markTo zs k 0 = zs := by simp [markTo, marks]
theorem markTo_all (zs : List Int) (k : Int) : markTo zs k zs.length = marks k zs.length := by simp [markTo]
theorem markTo_set {zs : List Int} {k : Int} {i : Nat} (h : i < zs.length) : (markTo zs k i).set i (k + i) = markTo zs k (i + 1) := by
  unfold markTo
  rw [List.set_append, if_neg (by rw [marks_length]; omega), marks_length, Nat.sub_self, List.drop_eq_getElem_cons h, List.set_cons_zero, marks_snoc]
  simp
end Go.Proofs.Ytlmlckgnmkjkdaa
