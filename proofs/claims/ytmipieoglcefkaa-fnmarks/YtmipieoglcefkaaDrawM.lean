/-
  What is drawn for the law of watermarks.
-/
import Derived.Test.YtmipieoglcefkaaRegInv
import Derived.Test.YtmipieoglcefkaaCurM
namespace Go.Proofs.Ytmipieoglcefkaa
open Go.RowKit

/-- the memory of a draw: its result, the marks that were drawn (in block Bx), the cursor -/
structure DM (w W : World) (g : Nat) (A : Option Addr) (n c M Bx : Nat) (G : Int) (v : Value) (ms : List Mk) (cs : List Value) : Prop where
  o : Own W w.heap.size 26 cs
  l : Own W Bx 26 [.int .i64 G, v]
  row : W.ownsRow w.heap.size 36 2 v ms.length (mz ms)
  cur : Cur W g A n c M
  B : Below w.heap.size w W
  hg : w.heap.size < g
  hl : w.heap.size < Bx
  hne : Bx ≠ g
  hv : v.ownBlock ≠ some g
  byt : Byt W A n w.heap.size
section
variable {w W W' : World} {g : Nat} {A : Option Addr} {n c M M' Bx : Nat} {G : Int} {v : Value} {ms : List Mk} {cs : List Value}
theorem DM.far (p : DM w W g A n c M Bx G v ms cs) (hG : W.grownBy W' (some g)) (hC : Cur W' g A n c M') : DM w W' g A n c M' Bx G v ms cs :=
  ⟨own_far p.o hG (by have := p.hg; omega), own_far p.l hG p.hne, owns_far p.row hG p.hv, hC, p.B.grown hG p.B.size (fun k e => by cases e; exact Nat.le_of_lt p.hg), p.hg, p.hl, p.hne, p.hv, p.byt.below ((Below.refl w.heap.size W).grown hG p.B.size (fun k e => by cases e; exact Nat.le_of_lt p.hg))⟩
theorem DM.grow (p : DM w W g A n c M Bx G v ms cs) (hb : Below W.heap.size W W') : DM w W' g A n c M Bx G v ms cs := p.far (grownBy_of hb _) (p.cur.grow hb)
theorem DM.more (p : DM w W g A n c M Bx G v ms cs) (hM : M ≤ M') : DM w W g A n c M' Bx G v ms cs := ⟨p.o, p.l, p.row, p.cur.more hM, p.B, p.hg, p.hl, p.hne, p.hv, p.byt⟩
theorem DM.put {u0 u1 : Value} (p : DM w W g A n c M Bx G v ms [u0, u1]) : DM w ((W.setCell ⟨w.heap.size, 0, none⟩ (.int .i64 G)).setCell ⟨w.heap.size, 1, none⟩ v) g A n c M Bx G v ms [.int .i64 G, v] := by
  have hg := p.hg
  have hl := p.hl
  have hO : W.grownBy ((W.setCell ⟨w.heap.size, 0, none⟩ (.int .i64 G)).setCell ⟨w.heap.size, 1, none⟩ v) (some w.heap.size) := only_set (only_set (World.grownBy.refl _ _))
  have hby : Byt ((W.setCell ⟨w.heap.size, 0, none⟩ (.int .i64 G)).setCell ⟨w.heap.size, 1, none⟩ v) A n w.heap.size := p.byt.below (((Below.refl w.heap.size W).setCell (by simp) _).setCell (by simp) _)
  refine ⟨(p.o.set 0 _).set 1 _, own_kept p.l hO (by simp; omega), owns_far p.row hO (types_farS p.o (by decide) p.row), ?_, (p.B.setCell (by simp) _).setCell (by simp) _, p.hg, p.hl, p.hne, p.hv, hby⟩
  obtain ⟨i, s, ho, hi, hs⟩ := p.cur.ex
  refine ⟨⟨i, s, own_kept ho hO (by simp; omega), hi, hs⟩, fun k hk => ?_⟩
  obtain ⟨ad, b, e, hlt, hb', hc⟩ := hby k hk
  exact ⟨ad, b, e, by omega, hb', hc⟩
end
end Go.Proofs.Ytmipieoglcefkaa
