/-
  The program's LatOf.
-/
import Derived.Test.YtipcjofmplpffaaLatOfA
import Derived.Test.YtipcjofmplpffaaEdgeKitB
namespace Go.Proofs.Ytipcjofmplpffaa
open Go.RowKit

def LabN (n : Nat) (a : Int) : Prop := 0 ≤ a ∧ a < (n : Int)
theorem isLabel_n (n : Nat) (a : Int) (b : Bool) (w : World) (h : tf (LabN n a) = b) :
    Calls Try.prog 87 #[.int .i64 (n : Int), .int .i64 a] w fun e w' => e = .returned (.bool b) ∧ w = w' := by
  refine as_bool (R := fun w' => w = w') ?_ (isLabel_any n a w)
  rw [← h, Bool.eq_iff_iff, tf_true]
  simp [LabN]

def ofRows (n : Nat) (es : List (Int × Int)) : List Nat := rowsOf (closTo (relTo es es.length) n) n
def OfOk (n : Int) (es : List (Int × Int)) : Prop := (1 ≤ n ∧ n ≤ 16 ∧ es.length ≤ 100) ∧ (∀ i, i < es.length → LabN n.toNat (elo es i) ∧ LabN n.toNat (ehi es i)) ∧ LatP n (ofRows n.toNat es)
noncomputable def ofN (n : Int) (es : List (Int × Int)) : Int := if tf (OfOk n es) = true then n else 0
noncomputable def ofXs (n : Int) (es : List (Int × Int)) : List Nat := if tf (OfOk n es) = true then ofRows n.toNat es else []
theorem ofN_no {n : Int} {es : List (Int × Int)} (h : ¬ OfOk n es) : ofN n es = 0 := by unfold ofN; rw [← tf_no h]; rfl
theorem ofN_yes {n : Int} {es : List (Int × Int)} (h : OfOk n es) : ofN n es = n := by unfold ofN; rw [← tf_yes h]; rfl
theorem ofXs_no {n : Int} {es : List (Int × Int)} (h : ¬ OfOk n es) : ofXs n es = [] := by unfold ofXs; rw [← tf_no h]; rfl
theorem ofXs_yes {n : Int} {es : List (Int × Int)} (h : OfOk n es) : ofXs n es = ofRows n.toNat es := by unfold ofXs; rw [← tf_yes h]; rfl
theorem ofXs_le (n : Int) (es : List (Int × Int)) : (ofXs n es).length ≤ 16 := by
  by_cases h : OfOk n es
  · rw [ofXs_yes h, ofRows, rowsOf_length]; have := h.1; omega
  · rw [ofXs_no h]; simp
theorem ofXs_u64 (n : Int) (es : List (Int × Int)) : U64 (ofXs n es) := by
  by_cases h : OfOk n es
  · rw [ofXs_yes h]; exact rowsOf_u64 (by have := h.1; omega)
  · rw [ofXs_no h]; intro a ha; simp at ha

theorem implLatOk_n (N : Int) (A : Option Addr) (n ca : Nat) (xs : List Nat) (w : World) (hx : xs.length = n) (hA : Rd w A (us xs)) (hu : U64 xs) (hn : n ≤ 1048576) :
    Calls Try.prog 63 #[.agg #[.int .i64 N, .slice A n ca]] w fun e w' => e = .returned (.bool (tf (LatP N xs))) ∧ Below w.heap.size w w' := by
  subst hx; exact implLatOk_any N A ca xs w hA hu hn

/-- The call hands back a lattice whose rows are memory of its own, and a truth value. -/
def LatRes (w : World) (N : Int) (xs : List Nat) (ok : Bool) (e : Ending) (w' : World) : Prop :=
  ∃ v, e = .returned (.tuple #[.agg #[.int .i64 N, v], .bool ok]) ∧ w'.ownsRow w.heap.size 81 1 v xs.length (us xs) ∧ Below w.heap.size w w'

theorem relTo_next {es : List (Int × Int)} {k n a b : Nat} (hk : k < es.length) (hb : b < n) (h1 : elo es k = (a : Int)) (h2 : ehi es k = (b : Int)) :
    (rowsOf (relTo es k) n).set a (row (rowsOf (relTo es k) n) a ||| 2 ^ b) = rowsOf (relTo es (k + 1)) n := by
  rw [relTo_succ hk]
  refine rowsOf_add hb ?_ ?_
  · rw [← h1]; simp [elo, hk]
  · rw [← h2]; simp [ehi, hk]

end Go.Proofs.Ytipcjofmplpffaa
