/-
  Small words on memory: rows of structs, boxes, what is far from a block.
-/
import Derived.Test.YtlmlckgnmkjkdaaAppStep
import Derived.Test.YtlmlckgnmkjkdaaOnly
namespace Go.Proofs.Ytlmlckgnmkjkdaa
open Go.RowKit

theorem Own.ownsS {w : World} {g base n s : Nat} {t : TypeId} {cs : List Value} (h : Own w g t cs) (hb : base ≤ g) (hn : cs.length = n * s) (hm : n ≤ 1048576) : w.ownsRow base t s (.slice (some ⟨g, 0, none⟩) n n) n cs := by
  refine ⟨hn, .inr ⟨g, n, cs.toArray, rfl, hb, h, Nat.le_refl _, by unfold maxLen; omega, by simp [hn], ?_⟩⟩
  simp [← hn]
theorem types_farS {w : World} {d B n s : Nat} {t e : TypeId} {ds cs : List Value} {v : Value} (hd : Own w d t ds) (ht : t ≠ e) (h : w.ownsRow B e s v n cs) : v.ownBlock ≠ some d := by
  rcases h.2 with ⟨rfl, _⟩ | ⟨g, cap, cur, rfl, _, hg, _⟩
  · simp [Value.ownBlock]
  · intro e'
    simp [Value.ownBlock] at e'
    subst e'
    unfold Own at hd
    rw [hg] at hd
    simp at hd
    exact ht hd.2.symm
/-- three boxes -/
theorem box_three {w : World} {c1 c2 c3 : List Value} {t1 t2 t3 : TypeId} :
    Own (((w.alloc (.cells c1.toArray t1)).alloc (.cells c2.toArray t2)).alloc (.cells c3.toArray t3)) w.heap.size t1 c1 ∧
    Own (((w.alloc (.cells c1.toArray t1)).alloc (.cells c2.toArray t2)).alloc (.cells c3.toArray t3)) (w.heap.size + 1) t2 c2 ∧
    Own (((w.alloc (.cells c1.toArray t1)).alloc (.cells c2.toArray t2)).alloc (.cells c3.toArray t3)) (w.heap.size + 1 + 1) t3 c3 ∧
    Below w.heap.size w (((w.alloc (.cells c1.toArray t1)).alloc (.cells c2.toArray t2)).alloc (.cells c3.toArray t3)) ∧
    (((w.alloc (.cells c1.toArray t1)).alloc (.cells c2.toArray t2)).alloc (.cells c3.toArray t3)).heap.size = w.heap.size + 3 := by
  refine ⟨((Own.new w t1 c1).alloc _).alloc _, (new_second w _ t2 c2).alloc _, ?_, below_trans (below_trans (below_alloc _ _) (below_alloc _ _)) (below_alloc _ _), by simp⟩
  have := Own.new ((w.alloc (.cells c1.toArray t1)).alloc (.cells c2.toArray t2)) t3 c3
  simpa using this
theorem rd_news {w : World} {ad : Addr} {cs : List Value} (h : Rd w (some ad) cs) : ∀ j u, cs[j]? = some u → w.cell? (ad.add j) = some u := fun j u hj => by
  obtain ⟨a', e, _, hc⟩ := h j u hj
  cases e
  exact hc
theorem own_kept {w w' : World} {g : Nat} {t : TypeId} {cs : List Value} {r : Option Nat} (h : Own w g t cs) (hg : w.grownBy w' r) (hne : some g ≠ r) : Own w' g t cs := (hg.block g h.lt hne).trans h
end Go.Proofs.Ytlmlckgnmkjkdaa
