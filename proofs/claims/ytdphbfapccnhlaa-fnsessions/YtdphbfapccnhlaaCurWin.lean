/-
  The cursor's definitions of windows and times: what they return.
-/
import Derived.Test.YtdphbfapccnhlaaOwnsS
import Derived.Test.YtdphbfapccnhlaaCurB
import Derived.Test.YtdphbfapccnhlaaCurS
import Derived.Test.YtdphbfapccnhlaaIntAt
import Derived.Deep.RegionWith
namespace Go.Proofs.Ytdphbfapccnhlaa
open Go.RowKit

/-- the memory of a draw: its result (block R), its variable (block B), the cursor (block g) -/
structure VS (w W : World) (g : Nat) (A : Option Addr) (n c M R B : Nat) (tR : TypeId) (rs : List Value) (tB : TypeId) (ds : List Value) : Prop where
  r : Own W R tR rs
  b : Own W B tB ds
  cur : Cur W g A n c M
  gr : w.grownBy W (some g)
  hg : g < w.heap.size
  hR : w.heap.size ≤ R
  hB : R < B
section
variable {w W W' : World} {g : Nat} {A : Option Addr} {n c M M' R B : Nat} {tR tB : TypeId} {rs ds : List Value}
theorem VS.far (p : VS w W g A n c M R B tR rs tB ds) (hG : W.grownBy W' (some g)) (hC : Cur W' g A n c M') : VS w W' g A n c M' R B tR rs tB ds :=
  ⟨own_far p.r hG (by have := p.hg; have := p.hR; omega), own_far p.b hG (by have := p.hg; have := p.hR; have := p.hB; omega), hC, grownBy_trans p.gr hG, p.hg, p.hR, p.hB⟩
theorem VS.grow (p : VS w W g A n c M R B tR rs tB ds) (hb : Below W.heap.size W W') : VS w W' g A n c M R B tR rs tB ds := p.far (grownBy_of hb _) (p.cur.grow hb)
theorem VS.more (p : VS w W g A n c M R B tR rs tB ds) (hM : M ≤ M') : VS w W g A n c M' R B tR rs tB ds := ⟨p.r, p.b, p.cur.more hM, p.gr, p.hg, p.hR, p.hB⟩
theorem cur_store {D j : Nat} (h : Cur W g A n c M) (hD : g < D) (u : Value) : Cur (W.setCell ⟨D, j, none⟩ u) g A n c M := by
  obtain ⟨i, s, ho, hi, hs⟩ := h.ex
  exact ⟨⟨i, s, ho.far (p := ⟨D, j, none⟩) (by simp only; omega) u, hi, hs⟩, h.byt.below ((Below.refl g W).setCell (by simp only; omega) _)⟩
theorem grown_store {D j : Nat} (h : w.grownBy W (some g)) (hD : w.heap.size ≤ D) (u : Value) : w.grownBy (W.setCell ⟨D, j, none⟩ u) (some g) :=
  ⟨h.os, h.tape, h.output, by simpa using h.size, fun k hk hne => (Below.heap_setCell W ⟨D, j, none⟩ u k (by show k ≠ D; omega)).trans (h.block k hk hne)⟩
theorem VS.set (p : VS w W g A n c M R B tR rs tB ds) (j : Nat) (u : Value) : VS w (W.setCell ⟨B, j, none⟩ u) g A n c M R B tR rs tB (ds.set j u) := by
  have hg := p.hg
  have hR := p.hR
  have hB := p.hB
  exact ⟨p.r.far (p := ⟨B, j, none⟩) (by simp only; omega) u, p.b.set j u, cur_store p.cur (by omega) u, grown_store p.gr (by omega) u, p.hg, p.hR, p.hB⟩
theorem VS.setR (p : VS w W g A n c M R B tR rs tB ds) (j : Nat) (u : Value) : VS w (W.setCell ⟨R, j, none⟩ u) g A n c M R B tR (rs.set j u) tB ds := by
  have hg := p.hg
  have hR := p.hR
  have hB := p.hB
  exact ⟨p.r.set j u, p.b.far (p := ⟨R, j, none⟩) (by simp only; omega) u, cur_store p.cur (by omega) u, grown_store p.gr (by omega) u, p.hg, p.hR, p.hB⟩
end
/-- a literal of integers: whatever is taken of it is an integer -/
theorem iz_take {zs : List Int} {r : Nat} (h : r < zs.length) : ∃ v, (iz zs)[r]? = some (.int .i64 v) ∧ v ∈ zs := by
  refine ⟨zs[r], ?_, List.getElem_mem h⟩
  simp [iz, h]

set_option maxRecDepth 100000 in
set_option maxHeartbeats 2000000 in
theorem time_any (g : Nat) (A : Option Addr) (n c m : Nat) (w : World) (h : Cur w g A n c m) (hn : n ≤ 1048576) (hm : m ≤ 1000000) :
    Calls Try.prog 45 #[.pointer (some ⟨g, 0, none⟩)] w fun e w' => ∃ t : Int, e = .returned (.int .i64 t) ∧ Cur w' g A n c (m + 10) ∧ w.grownBy w' (some g) := by
  have hgl := h.lt
  go_enter Try.func45, Try.ntmps45
  go_wp2_with fail
  refine (pick_any g A n c m 60 _ h hn (by omega) (by omega) (by omega)).mono ?_
  rintro e w1 ⟨r1, rfl, hr1, hC1, hG1⟩
  go_wp2_with fail
  refine (pick_any g A n c (m + 1) 60 _ hC1 hn (by omega) (by omega) (by omega)).mono ?_
  rintro e w2 ⟨r2, rfl, hr2, hC2, hG2⟩
  go_wp2_with fail
  refine (raw_any g A n c (m + 1 + 1) _ hC2 hn (by omega)).mono ?_
  rintro e w3 ⟨z, rfl, hz1, hz2, hC3, hG3⟩
  have hG := grown_trans (grown_trans hG1 hG2) hG3
  have hC3l := hC3.lt
  clear hC1 hC2 hG1 hG2 hG3 h
  go_wp2_with fail
  refine (pick_any g A n c (m + 1 + 1 + 2) 5 _ (hC3.grow (below_alloc _ _)) hn (by omega) (by omega) (by omega)).mono ?_
  rintro e w4 ⟨r4, rfl, hr4, hC4, hG4⟩
  have hL := own_far (Own.new w3 3 (iz [(r1 : Int), (r2 : Int), z, 1000, 1001])) hG4 (by omega)
  obtain ⟨v, hv, _⟩ := iz_take (zs := [(r1 : Int), (r2 : Int), z, 1000, 1001]) (r := r4) (by simp only [List.length_cons, List.length_nil]; omega)
  have hcell : w4.cell? ⟨w3.heap.size, r4, none⟩ = some (.int .i64 v) := (hL.cell r4).trans hv
  have hG5 := grown_trans hG (grown_trans (World.grownBy_alloc _ _ _) hG4)
  clear hL hv hG hG4
  go_wp2
  go_ret
  exact ⟨v, rfl, hC4.more (by omega), hG5⟩

end Go.Proofs.Ytdphbfapccnhlaa
