/-
  The cursor's marks: what it returns.
-/
import Derived.Test.YtmipieoglcefkaaMarkSetT
import Derived.Test.YtmipieoglcefkaaMarkOk
import Derived.Deep.RegionWith
import Derived.Test.YtmipieoglcefkaaCurS
import Derived.Test.YtmipieoglcefkaaCurB
namespace Go.Proofs.Ytmipieoglcefkaa
open Go.RowKit

/-- the memory of marks: its result, the marks so far (in block B), the cursor -/
structure MS (w W : World) (g : Nat) (A : Option Addr) (n c M B : Nat) (G : Int) (v : Value) (ms : List Mk) : Prop where
  b0 : Own W w.heap.size 26 [.int .i64 0, .slice none 0 0]
  bB : Own W B 26 [.int .i64 G, v]
  row : W.ownsRow w.heap.size 36 2 v ms.length (mz ms)
  cur : Cur W g A n c M
  gr : w.grownBy W (some g)
  hg : g < w.heap.size
  hB : w.heap.size < B
section
variable {w W W' : World} {g : Nat} {A : Option Addr} {n c M M' B : Nat} {G : Int} {v : Value} {ms : List Mk}
theorem MS.far (p : MS w W g A n c M B G v ms) (hG : W.grownBy W' (some g)) (hC : Cur W' g A n c M') : MS w W' g A n c M' B G v ms :=
  ⟨own_far p.b0 hG (by have := p.hg; omega), own_far p.bB hG (by have := p.hg; have := p.hB; omega), owns_far p.row hG (owns_lt p.row p.hg), hC, grownBy_trans p.gr hG, p.hg, p.hB⟩
theorem MS.grow (p : MS w W g A n c M B G v ms) (hb : Below W.heap.size W W') : MS w W' g A n c M B G v ms := p.far (grownBy_of hb _) (p.cur.grow hb)
theorem MS.drew (p : MS w W g A n c M B G v ms) : MS w W.drew g A n c M B G v ms := p.grow (Below.refl _ _).drew
theorem MS.more (p : MS w W g A n c M B G v ms) (hM : M ≤ M') : MS w W g A n c M' B G v ms := ⟨p.b0, p.bB, p.row, p.cur.more hM, p.gr, p.hg, p.hB⟩
/-- a store into another variable of the call's own -/
theorem MS.other (p : MS w W g A n c M B G v ms) {D j : Nat} {cs : List Value} (hD : Own W D 26 cs) (hw : w.heap.size < D) (hne : D ≠ B) (u : Value) : MS w (W.setCell ⟨D, j, none⟩ u) g A n c M B G v ms := by
  have hg := p.hg
  have hO : W.grownBy (W.setCell ⟨D, j, none⟩ u) (some D) := only_set (World.grownBy.refl _ _)
  refine ⟨own_kept p.b0 hO (by simp; omega), own_kept p.bB hO (by simp; omega), owns_far p.row hO (types_farS hD (by decide) p.row), ?_, ?_, p.hg, p.hB⟩
  · obtain ⟨i, s, ho, hi, hs⟩ := p.cur.ex
    exact ⟨⟨i, s, own_kept ho hO (by simp; omega), hi, hs⟩, p.cur.byt.below ((Below.refl g W).setCell (by simp; omega) _)⟩
  · have h := p.gr
    exact ⟨h.os, h.tape, h.output, by simpa using h.size, fun k hk hne' => (Below.heap_setCell W ⟨D, j, none⟩ u k (by show k ≠ D; omega)).trans (h.block k hk hne')⟩
/-- the marks are replaced -/
theorem MS.put (p : MS w W g A n c M B G v ms) {G' : Int} {v' : Value} {rs : List Mk} (hr : W.ownsRow w.heap.size 36 2 v' rs.length (mz rs)) : MS w ((W.setCell ⟨B, 0, none⟩ (.int .i64 G')).setCell ⟨B, 1, none⟩ v') g A n c M B G' v' rs := by
  have hg := p.hg
  have hB := p.hB
  have hO : W.grownBy ((W.setCell ⟨B, 0, none⟩ (.int .i64 G')).setCell ⟨B, 1, none⟩ v') (some B) := only_set (only_set (World.grownBy.refl _ _))
  refine ⟨own_kept p.b0 hO (by simp; omega), (p.bB.set 0 _).set 1 _, owns_far hr hO (types_farS p.bB (by decide) hr), ?_, ?_, p.hg, p.hB⟩
  · obtain ⟨i, s, ho, hi, hs⟩ := p.cur.ex
    exact ⟨⟨i, s, own_kept ho hO (by simp; omega), hi, hs⟩, p.cur.byt.below (((Below.refl g W).setCell (by simp; omega) _).setCell (by simp; omega) _)⟩
  · have h := p.gr
    exact ⟨h.os, h.tape, h.output, by simpa using h.size, fun k hk hne' => (hO.block k (Nat.lt_of_lt_of_le hk h.size) (by simp; omega)).trans (h.block k hk hne')⟩
end
theorem rd_of {w : World} {base n c s : Nat} {e : TypeId} {A : Option Addr} {cs : List Value} (h : w.ownsRow base e s (.slice A n c) n cs) : Rd w A cs := by
  obtain ⟨A', c', e', h'⟩ := owns_rd h
  cases e'
  exact h'
theorem setG_ok {G : Int} {ms : List Mk} {src x : Int} (h : (setG G ms src x).2.2 = 0) : marksOk (setG G ms src x).1 (setG G ms src x).2.1 := by
  by_cases h1 : hasSrc G ms src ∧ isT x
  · by_cases h2 : x < (mat ms src.toNat).1
    · rw [setG_back h1 h2] at h; cases h
    · rw [setG_fine h1 h2]
      exact withM_ok h1.1.1 h1.2 (by omega)
  · rw [setG_form h1] at h; cases h
theorem idleG_ok {G : Int} {ms : List Mk} {src : Int} {i : Bool} (h : (idleG G ms src i).2.2 = 0) : marksOk (idleG G ms src i).1 (idleG G ms src i).2.1 := by
  by_cases h1 : hasSrc G ms src
  · rw [idleG_fine h1]
    have h2 := h1.2.1
    have h3 := h1.2.2
    exact withM_ok h1.1 (h1.1.2.2.2.1 src.toNat (by omega)) (Int.le_refl _)
  · rw [idleG_form h1] at h; cases h
/-- the next marks: in block D -/
structure NX (w W : World) (D B : Nat) (G : Int) (v : Value) (rs : List Mk) (code : Int) : Prop where
  hD : w.heap.size < D
  hDB : D ≠ B
  own : Own W D 26 [.int .i64 G, v]
  row : W.ownsRow w.heap.size 36 2 v rs.length (mz rs)
  ok : code = 0 → marksOk G rs
theorem NX.far {w W W' : World} {D B g : Nat} {G : Int} {v : Value} {rs : List Mk} {code : Int} (h : NX w W D B G v rs code) (hg : g < w.heap.size) (hG : W.grownBy W' (some g)) : NX w W' D B G v rs code :=
  ⟨h.hD, h.hDB, own_far h.own hG (by have := h.hD; omega), owns_far h.row hG (owns_lt h.row hg), h.ok⟩
theorem NX.put {w W : World} {D B : Nat} {G G' : Int} {v v' : Value} {rs rs' : List Mk} {code code' : Int} (h : NX w W D B G v rs code) (hr : W.ownsRow w.heap.size 36 2 v' rs'.length (mz rs')) (hok : code' = 0 → marksOk G' rs') : NX w ((W.setCell ⟨D, 0, none⟩ (.int .i64 G')).setCell ⟨D, 1, none⟩ v') D B G' v' rs' code' :=
  ⟨h.hD, h.hDB, (h.own.set 0 _).set 1 _, owns_far hr (only_set (only_set (World.grownBy.refl _ _))) (types_farS h.own (by decide) hr), hok⟩
section
variable {w W : World} {g : Nat} {A : Option Addr} {n c M B L : Nat} {G G' : Int} {v v' : Value} {ms rs : List Mk} {code : Int}
theorem nx_new (p : MS w W g A n c M B G v ms) (hL : w.heap.size ≤ L) (r : W.ownsRow L 36 2 v' rs.length (mz rs)) (hok : code = 0 → marksOk G' rs) :
    NX w (W.alloc (.cells #[.int .i64 G', v'] 26)) W.heap.size B G' v' rs code ∧ MS w (W.alloc (.cells #[.int .i64 G', v'] 26)) g A n c M B G v ms :=
  ⟨⟨p.b0.lt, by have := p.bB.lt; omega, Own.new W _ [_, _], owns_grow (owns_base r hL) (below_alloc _ _), hok⟩, p.grow (below_alloc _ _)⟩
theorem nx_set {D : Nat} {u0 u1 : Value} (p : MS w W g A n c M B G v ms) (q : Own W D 26 [u0, u1]) (hD : w.heap.size < D) (hDB : D ≠ B) (hL : w.heap.size ≤ L) (r : W.ownsRow L 36 2 v' rs.length (mz rs)) (hok : code = 0 → marksOk G' rs) :
    NX w ((W.setCell ⟨D, 0, none⟩ (.int .i64 G')).setCell ⟨D, 1, none⟩ v') D B G' v' rs code ∧ MS w ((W.setCell ⟨D, 0, none⟩ (.int .i64 G')).setCell ⟨D, 1, none⟩ v') g A n c M B G v ms :=
  ⟨⟨hD, hDB, (q.set 0 _).set 1 _, owns_far (owns_base r hL) (only_set (only_set (World.grownBy.refl _ _))) (types_farS q (by decide) r), hok⟩, (p.other q hD hDB _).other (q.set 0 _) hD hDB _⟩
end
end Go.Proofs.Ytmipieoglcefkaa
