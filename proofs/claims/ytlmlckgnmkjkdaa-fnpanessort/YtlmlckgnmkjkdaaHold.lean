/-
  Memory that a law's call holds: a range of blocks of its own. What is written into one range leaves the others alone.
-/
import Derived.Test.YtlmlckgnmkjkdaaBase
namespace Go.Proofs.Ytlmlckgnmkjkdaa
open Go.RowKit

theorem World.size_alloc (w : World) (o : Obj) : (w.alloc o).heap.size = w.heap.size + 1 := by simp

/-- Of the blocks that were there only those from lo up to hi may have turned. -/
structure Only (lo hi : Nat) (w w' : World) : Prop where
  os : w'.os = w.os
  tape : w'.tape = w.tape
  output : w'.output = w.output
  size : w.heap.size ≤ w'.heap.size
  block : ∀ k, k < w.heap.size → (k < lo ∨ hi ≤ k) → w'.heap[k]? = w.heap[k]?

/-- The blocks from lo up to hi are as they were. -/
def Same (lo hi : Nat) (w w' : World) : Prop := ∀ k, lo ≤ k → k < hi → w'.heap[k]? = w.heap[k]?

theorem Only.of_below {w w' : World} (h : Below w.heap.size w w') (lo hi : Nat) : Only lo hi w w' := ⟨h.os, h.tape, h.output, h.size, fun k hk _ => h.block k hk⟩
theorem Only.trans {lo hi : Nat} {a b c : World} (h : Only lo hi a b) (k : Only lo hi b c) : Only lo hi a c :=
  ⟨k.os.trans h.os, k.tape.trans h.tape, k.output.trans h.output, Nat.le_trans h.size k.size, fun i hi' hr => (k.block i (Nat.lt_of_lt_of_le hi' h.size) hr).trans (h.block i hi' hr)⟩
theorem Only.below {lo hi B : Nat} {w w' : World} (h : Only lo hi w w') (hB : B ≤ lo) (hw : B ≤ w.heap.size) : Below B w w' := ⟨h.os, h.tape, h.output, h.size, fun k hk => h.block k (by omega) (.inl (by omega))⟩
/-- what held below B still does -/
theorem below_only {B lo hi : Nat} {w w1 w2 : World} (h : Below B w w1) (k : Only lo hi w1 w2) (hB : B ≤ lo) (hw : B ≤ w1.heap.size) : Below B w w2 := h.trans (k.below hB hw)
theorem Only.same {lo hi lo' hi' : Nat} {w w' : World} (h : Only lo hi w w') (hd : hi' ≤ lo ∨ hi ≤ lo') (hs : hi' ≤ w.heap.size) : Same lo' hi' w w' := fun k h1 h2 => h.block k (by omega) (by omega)
theorem same_of_below {lo hi : Nat} {w w' : World} (h : Below w.heap.size w w') (hs : hi ≤ w.heap.size) : Same lo hi w w' := fun k _ h2 => h.block k (by omega)
theorem Same.trans {lo hi : Nat} {a b c : World} (h : Same lo hi a b) (k : Same lo hi b c) : Same lo hi a c := fun i h1 h2 => (k i h1 h2).trans (h i h1 h2)
theorem Own.move {lo hi : Nat} {w w' : World} {g : Nat} {t : TypeId} {cs : List Value} (h : Own w g t cs) (hs : Same lo hi w w') (h1 : lo ≤ g) (h2 : g < hi) : Own w' g t cs := (hs g h1 h2).trans h

theorem Own.only {lo hi : Nat} {w w' : World} {g : Nat} {t : TypeId} {cs : List Value} (h : Own w g t cs) (hO : Only lo hi w w') (hd : g < lo ∨ hi ≤ g) : Own w' g t cs := (hO.block g h.lt hd).trans h

/-- A row (nil, or at the head of a block of its own) within the blocks from lo up to hi. -/
def RowAt (lo hi : Nat) (w : World) (t : TypeId) (s : Nat) (v : Value) (n : Nat) (cs : List Value) : Prop := w.ownsRow lo t s v n cs ∧ ∀ k, v.ownBlock = some k → k < hi

section
variable {lo hi s n : Nat} {w w' : World} {t : TypeId} {v : Value} {cs : List Value}
theorem RowAt.move (h : RowAt lo hi w t s v n cs) (hs : Same lo hi w w') : RowAt lo hi w' t s v n cs := by
  obtain ⟨⟨h1, h2⟩, h3⟩ := h
  refine ⟨⟨h1, ?_⟩, h3⟩
  rcases h2 with h2 | ⟨g, cap, cur, hv, hg, hb, r⟩
  · exact .inl h2
  · exact .inr ⟨g, cap, cur, hv, hg, (hs g hg (h3 g (by rw [hv]; rfl))).trans hb, r⟩
theorem RowAt.grow (h : RowAt lo hi w t s v n cs) (hb : Below w.heap.size w w') : RowAt lo hi w' t s v n cs := ⟨owns_grow h.1 hb, h.2⟩
theorem RowAt.rd (h : RowAt lo hi w t s v n cs) : ∃ A c, v = .slice A n c ∧ Rd w A cs := owns_rd h.1
theorem RowAt.reads {A : Option Addr} {c : Nat} (h : RowAt lo hi w t s (.slice A n c) n cs) : Rd w A cs := by
  obtain ⟨A', c', e, hr⟩ := h.rd
  injection e with e
  subst e
  exact hr
theorem RowAt.of (h : w.ownsRow lo t s v n cs) : RowAt lo w.heap.size w t s v n cs := ⟨h, fun k hk => (h.lt k hk).2⟩
theorem Only.of_row (hr : RowAt lo hi w t s v n cs) (h : w.grownBy w' v.ownBlock) : Only lo hi w w' :=
  ⟨h.os, h.tape, h.output, h.size, fun k hk hd => h.block k hk (fun e => by
    have h1 := (hr.1.lt k e.symm).1
    have h2 := hr.2 k e.symm
    omega)⟩
end
theorem Own.rowAt {w : World} {g n lo : Nat} {t : TypeId} {cs : List Value} (h : Own w g t cs) (hl : lo ≤ g) (hn : cs.length = n) (hm : n ≤ 1048576) : RowAt lo w.heap.size w t 1 (.slice (some ⟨g, 0, none⟩) n n) n cs :=
  RowAt.of (h.owns hl hn hm)

end Go.Proofs.Ytlmlckgnmkjkdaa
