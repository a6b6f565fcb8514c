/-
  Small words for marks: boxes, rows that are far from a block, results.
-/
import Derived.Test.YtmipieoglcefkaaMarkNew
import Derived.Test.YtmipieoglcefkaaOnly
namespace Go.Proofs.Ytmipieoglcefkaa
open Go.RowKit

theorem types_farS {w : World} {d B n s : Nat} {t e : TypeId} {ds cs : List Value} {v : Value} (hd : Own w d t ds) (ht : t ≠ e) (h : w.ownsRow B e s v n cs) : v.ownBlock ≠ some d := by
  rcases h.2 with ⟨rfl, _⟩ | ⟨g, cap, cur, rfl, _, hg, _⟩
  · simp [Value.ownBlock]
  · intro e'
    simp [Value.ownBlock] at e'
    subst e'
    unfold Own at hd
    rw [hg] at hd
    simp at hd
    exact ht hd.2.symm
/-- three boxes -/
theorem box_three {w : World} {c1 c2 c3 : List Value} {t1 t2 t3 : TypeId} :
    Own (((w.alloc (.cells c1.toArray t1)).alloc (.cells c2.toArray t2)).alloc (.cells c3.toArray t3)) w.heap.size t1 c1 ∧
    Own (((w.alloc (.cells c1.toArray t1)).alloc (.cells c2.toArray t2)).alloc (.cells c3.toArray t3)) (w.heap.size + 1) t2 c2 ∧
    Own (((w.alloc (.cells c1.toArray t1)).alloc (.cells c2.toArray t2)).alloc (.cells c3.toArray t3)) (w.heap.size + 1 + 1) t3 c3 ∧
    Below w.heap.size w (((w.alloc (.cells c1.toArray t1)).alloc (.cells c2.toArray t2)).alloc (.cells c3.toArray t3)) ∧
    (((w.alloc (.cells c1.toArray t1)).alloc (.cells c2.toArray t2)).alloc (.cells c3.toArray t3)).heap.size = w.heap.size + 3 := by
  refine ⟨((Own.new w t1 c1).alloc _).alloc _, (new_second w _ t2 c2).alloc _, ?_, below_trans (below_trans (below_alloc _ _) (below_alloc _ _)) (below_alloc _ _), by simp⟩
  have := Own.new ((w.alloc (.cells c1.toArray t1)).alloc (.cells c2.toArray t2)) t3 c3
  simpa using this

theorem rd_news {w : World} {ad : Addr} {cs : List Value} (h : Rd w (some ad) cs) : ∀ j u, cs[j]? = some u → w.cell? (ad.add j) = some u := fun j u hj => by
  obtain ⟨a', e, _, hc⟩ := h j u hj
  cases e
  exact hc
theorem own_kept {w w' : World} {g : Nat} {t : TypeId} {cs : List Value} {r : Option Nat} (h : Own w g t cs) (hg : w.grownBy w' r) (hne : some g ≠ r) : Own w' g t cs := (hg.block g h.lt hne).trans h

/-- The call hands back marks in memory of its own, and a code. -/
def MkRes (R : Int × List Mk × Int) (w : World) (e : Ending) (w' : World) : Prop :=
  ∃ A c, e = .returned (.tuple #[msv R.1 (.slice A R.2.1.length c), .int .i64 R.2.2]) ∧ RowAt w.heap.size w'.heap.size w' 36 2 (.slice A R.2.1.length c) R.2.1.length (mz R.2.1) ∧ Below w.heap.size w w'
theorem setG_form {G : Int} {ms : List Mk} {src at' : Int} (h : ¬ (hasSrc G ms src ∧ isT at')) : setG G ms src at' = (0, [], 1) := by unfold setG; rw [if_neg h]
theorem setG_back {G : Int} {ms : List Mk} {src at' : Int} (h : hasSrc G ms src ∧ isT at') (h2 : at' < (mat ms src.toNat).1) : setG G ms src at' = (0, [], 2) := by unfold setG; rw [if_pos h, if_pos h2]
theorem setG_fine {G : Int} {ms : List Mk} {src at' : Int} (h : hasSrc G ms src ∧ isT at') (h2 : ¬ at' < (mat ms src.toNat).1) : setG G ms src at' = ((withM G ms src.toNat (at', false)).1, (withM G ms src.toNat (at', false)).2, 0) := by unfold setG; rw [if_pos h, if_neg h2]
theorem idleG_form {G : Int} {ms : List Mk} {src : Int} {i : Bool} (h : ¬ hasSrc G ms src) : idleG G ms src i = (0, [], 1) := by unfold idleG; rw [if_neg h]
theorem idleG_fine {G : Int} {ms : List Mk} {src : Int} {i : Bool} (h : hasSrc G ms src) : idleG G ms src i = ((withM G ms src.toNat ((mat ms src.toNat).1, i)).1, (withM G ms src.toNat ((mat ms src.toNat).1, i)).2, 0) := by unfold idleG; rw [if_pos h]
end Go.Proofs.Ytmipieoglcefkaa
