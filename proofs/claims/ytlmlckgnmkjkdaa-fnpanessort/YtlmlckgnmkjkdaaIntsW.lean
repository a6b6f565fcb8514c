/-
  The laws' helpers on rows of integers, as the walks of the exact laws use them; a result of so many integers.
-/
import Derived.Test.YtlmlckgnmkjkdaaIntsKit
import Derived.Test.YtlmlckgnmkjkdaaTopI
namespace Go.Proofs.Ytlmlckgnmkjkdaa
open Go.RowKit

theorem toIntS_w (A : Option Addr) (n ca : Nat) (xs : List Int) (w : World) (hA : Rd w A (iz xs)) (hz : xs.length = n) (hn : n ≤ 1048576) :
    Calls Try.prog 73 #[.slice A n ca] w fun e w' => ∃ g, e = .returned (.slice (some ⟨g, 0, none⟩) n n) ∧
      RowAt w.heap.size w'.heap.size w' 3 1 (.slice (some ⟨g, 0, none⟩) n n) n (iz xs) ∧ Below w.heap.size w w' := by
  subst hz; exact toIntS_at A ca xs w hA hn
theorem sfit_nn (g n : Nat) : SFit (some ⟨g, 0, none⟩) n n := ⟨Nat.le_refl _, fun h => by cases h⟩
/-- so many integers in a row of its own -/
def IntsAt (m : Nat) (zs : List Int) (w : World) (e : Ending) (w' : World) : Prop :=
  ∃ A c, e = .returned (.slice A m c) ∧ RowAt w.heap.size w'.heap.size w' 3 1 (.slice A m c) m (iz zs) ∧ Below w.heap.size w w'
theorem ints_at {zs : List Int} {w w' : World} {e : Ending} {m : Nat} (h : IntsRes zs w e w') (hm : zs.length = m) : IntsAt m zs w e w' := by subst hm; exact h
end Go.Proofs.Ytlmlckgnmkjkdaa
