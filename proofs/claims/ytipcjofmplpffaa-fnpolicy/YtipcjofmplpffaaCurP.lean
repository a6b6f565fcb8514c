/-
  The cursor's punct: what it returns.
-/
import Derived.Test.YtipcjofmplpffaaCurS
import Derived.Test.YtipcjofmplpffaaPunctOk
import Derived.Test.YtipcjofmplpffaaCurC
import Derived.Deep.DeepCutAuto
import Derived.Deep.CutBlock
namespace Go.Proofs.Ytipcjofmplpffaa
open Go.RowKit

abbrev zeroP : List Value := [.int .i64 0, .int .i64 0, .int .i64 0, .int .i64 0]
/-- punct's own memory: the lattice's box, the result's, the cursor -/
structure PB (w W : World) (g : Nat) (A : Option Addr) (n c M : Nat) (N : Int) (u : Value) : Prop where
  b0 : Own W w.heap.size 26 [.int .i64 N, u]
  r0 : Own W (w.heap.size + 1) 29 zeroP
  cur : Cur W g A n c M
  gr : w.grownBy W (some g)
  hg : g < w.heap.size
/-- .. and the punct that is made, in block h -/
structure PQ (w W : World) (g : Nat) (A : Option Addr) (n c M : Nat) (N : Int) (u : Value) (h : Nat) (cs : List Value) : Prop where
  pb : PB w W g A n c M N u
  own : Own W h 29 cs
  hh : w.heap.size + 1 < h
section
variable {w W W' : World} {g : Nat} {A : Option Addr} {n c M M' : Nat} {N : Int} {u : Value} {h : Nat} {cs : List Value}
theorem PB.far (p : PB w W g A n c M N u) (hG : W.grownBy W' (some g)) (hC : Cur W' g A n c M') : PB w W' g A n c M' N u :=
  ⟨own_far p.b0 hG (by have := p.hg; omega), own_far p.r0 hG (by have := p.hg; omega), hC, grownBy_trans p.gr hG, p.hg⟩
theorem PB.grow (p : PB w W g A n c M N u) (hb : Below W.heap.size W W') : PB w W' g A n c M N u := p.far (grownBy_of hb _) (p.cur.grow hb)
theorem PB.drew (p : PB w W g A n c M N u) : PB w W.drew g A n c M N u := p.grow (Below.refl _ _).drew
theorem PB.more (p : PB w W g A n c M N u) (hM : M ≤ M') : PB w W g A n c M' N u := ⟨p.b0, p.r0, p.cur.more hM, p.gr, p.hg⟩
theorem PQ.far (p : PQ w W g A n c M N u h cs) (hG : W.grownBy W' (some g)) (hC : Cur W' g A n c M') : PQ w W' g A n c M' N u h cs :=
  ⟨p.pb.far hG hC, own_far p.own hG (by have := p.pb.hg; have := p.hh; omega), p.hh⟩
theorem PQ.grow (p : PQ w W g A n c M N u h cs) (hb : Below W.heap.size W W') : PQ w W' g A n c M N u h cs := p.far (grownBy_of hb _) (p.pb.cur.grow hb)
theorem PQ.drew (p : PQ w W g A n c M N u h cs) : PQ w W.drew g A n c M N u h cs := p.grow (Below.refl _ _).drew
theorem PQ.more (p : PQ w W g A n c M N u h cs) (hM : M ≤ M') : PQ w W g A n c M' N u h cs := ⟨p.pb.more hM, p.own, p.hh⟩
theorem PB.new (p : PB w W g A n c M N u) : PQ w (W.alloc (.cells #[.int .i64 0, .int .i64 0, .int .i64 0, .int .i64 0] 29)) g A n c M N u W.heap.size zeroP :=
  ⟨p.grow (below_alloc _ _), Own.new W _ zeroP, p.r0.lt⟩
theorem PB.newOf (p : PB w W g A n c M N u) (a b c' d : Int) : PQ w (W.alloc (.cells #[.int .i64 a, .int .i64 b, .int .i64 c', .int .i64 d] 29)) g A n c M N u W.heap.size [.int .i64 a, .int .i64 b, .int .i64 c', .int .i64 d] :=
  ⟨p.grow (below_alloc _ _), Own.new W _ [.int .i64 a, .int .i64 b, .int .i64 c', .int .i64 d], p.r0.lt⟩
theorem PQ.set (p : PQ w W g A n c M N u h cs) (j : Nat) (x : Value) : PQ w (W.setCell ⟨h, j, none⟩ x) g A n c M N u h (cs.set j x) := by
  have h1 := p.hh
  have h2 := p.pb.hg
  exact ⟨⟨p.pb.b0.far (by show w.heap.size ≠ h; omega) _, p.pb.r0.far (by show w.heap.size + 1 ≠ h; omega) _, p.pb.cur.set (by show g < h; omega) _, grown_set p.pb.gr (by show w.heap.size ≤ h; omega) _, p.pb.hg⟩, p.own.set j x, h1⟩

theorem PB.s (p : PB w W g A n c M N u) : W.cell? ⟨w.heap.size, 0, none⟩ = some (.int .i64 N) := p.b0.two.1
theorem PQ.s (p : PQ w W g A n c M N u h cs) : W.cell? ⟨w.heap.size, 0, none⟩ = some (.int .i64 N) := p.pb.b0.two.1
theorem PQ.set4 (p : PQ w W g A n c M N u h cs) (x0 x1 x2 x3 : Value) : PQ w ((((W.setCell ⟨h, 0, none⟩ x0).setCell ⟨h, 1, none⟩ x1).setCell ⟨h, 2, none⟩ x2).setCell ⟨h, 3, none⟩ x3) g A n c M N u h ((((cs.set 0 x0).set 1 x1).set 2 x2).set 3 x3) :=
  (((p.set 0 x0).set 1 x1).set 2 x2).set 3 x3
theorem pick_pb {K : Int} (p : PB w W g A n c M N u) (hn : n ≤ 1048576) (hM : M ≤ 1099511627776) (hK : 1 ≤ K) (hK2 : K ≤ 4611686018427387904) :
    Calls Try.prog 61 #[.pointer (some ⟨g, 0, none⟩), .int .i64 K] W fun e w' => ∃ r : Nat, e = .returned (.int .i64 r) ∧ (r : Int) < K ∧ PB w w' g A n c (M + 1) N u :=
  (pick_any g A n c M K W p.cur hn hM hK hK2).mono fun _ _ ⟨r, he, hr, hC, hG⟩ => ⟨r, he, hr, p.far hG hC⟩
theorem pick_pq {K : Int} (p : PQ w W g A n c M N u h cs) (hn : n ≤ 1048576) (hM : M ≤ 1099511627776) (hK : 1 ≤ K) (hK2 : K ≤ 4611686018427387904) :
    Calls Try.prog 61 #[.pointer (some ⟨g, 0, none⟩), .int .i64 K] W fun e w' => ∃ r : Nat, e = .returned (.int .i64 r) ∧ (r : Int) < K ∧ PQ w w' g A n c (M + 1) N u h cs :=
  (pick_any g A n c M K W p.pb.cur hn hM hK hK2).mono fun _ _ ⟨r, he, hr, hC, hG⟩ => ⟨r, he, hr, p.far hG hC⟩
theorem pick_pqG {K : Int} (p : PQ w W g A n c M N u h cs) (hn : n ≤ 1048576) (hM : M ≤ 1099511627776) (hK : 1 ≤ K) (hK2 : K ≤ 4611686018427387904) :
    Calls Try.prog 61 #[.pointer (some ⟨g, 0, none⟩), .int .i64 K] W fun e w' => ∃ r : Nat, e = .returned (.int .i64 r) ∧ (r : Int) < K ∧ PQ w w' g A n c (M + 1) N u h cs ∧ W.grownBy w' (some g) :=
  (pick_any g A n c M K W p.pb.cur hn hM hK hK2).mono fun _ _ ⟨r, he, hr, hC, hG⟩ => ⟨r, he, hr, p.far hG hC, hG⟩
theorem raw_pq (p : PQ w W g A n c M N u h cs) (hn : n ≤ 1048576) (hM : M ≤ 1099511627000) :
    Calls Try.prog 60 #[.pointer (some ⟨g, 0, none⟩)] W fun e w' => ∃ r : Int, e = .returned (.int .i64 r) ∧ PQ w w' g A n c (M + 2) N u h cs :=
  (raw_any g A n c M W p.pb.cur hn hM).mono fun _ _ ⟨r, he, _, _, hC, hG⟩ => ⟨r, he, p.far hG hC⟩

/-- one of the numbers of a literal that was made, behind the cursor's next answer -/
theorem lit_at {w1 w2 : World} {g : Nat} {t : TypeId} {xs : List Int} (hg : g < w1.heap.size) (hG : (w1.alloc (.cells (iz xs).toArray t)).grownBy w2 (some g)) {r : Nat} (hr : r < xs.length) :
    w2.cell? ⟨w1.heap.size, r, none⟩ = some (.int .i64 (xs.getD r 0)) :=
  ((own_far (Own.new w1 t (iz xs)) hG (by omega)).cell r).trans (iz_at hr)
theorem PQ.ret {a b c' d : Int} (p : PQ w W g A n c M N u h [.int .i64 a, .int .i64 b, .int .i64 c', .int .i64 d]) (hM : M ≤ M') :
    let W2 := (((W.setCell ⟨w.heap.size + 1, 0, none⟩ (.int .i64 a)).setCell ⟨w.heap.size + 1, 1, none⟩ (.int .i64 b)).setCell ⟨w.heap.size + 1, 2, none⟩ (.int .i64 c')).setCell ⟨w.heap.size + 1, 3, none⟩ (.int .i64 d)
    (W2.cell? ⟨w.heap.size + 1, 0, none⟩ = some (.int .i64 a) ∧ W2.cell? ⟨w.heap.size + 1, 1, none⟩ = some (.int .i64 b) ∧ W2.cell? ⟨w.heap.size + 1, 2, none⟩ = some (.int .i64 c') ∧ W2.cell? ⟨w.heap.size + 1, 3, none⟩ = some (.int .i64 d)) ∧
      Cur W2 g A n c M' ∧ w.grownBy W2 (some g) := by
  intro W2
  have hg := p.pb.hg
  have h1 := (((p.pb.r0.set 0 (.int .i64 a)).set 1 (.int .i64 b)).set 2 (.int .i64 c')).set 3 (.int .i64 d)
  refine ⟨⟨h1.cell 0, h1.cell 1, h1.cell 2, h1.cell 3⟩, ?_, ?_⟩
  · exact ((((p.pb.cur.more hM).set (by show g < w.heap.size + 1; omega) _).set (by show g < w.heap.size + 1; omega) _).set (by show g < w.heap.size + 1; omega) _).set (by show g < w.heap.size + 1; omega) _
  · exact grown_set (grown_set (grown_set (grown_set p.pb.gr (by show w.heap.size ≤ w.heap.size + 1; omega) _) (by show w.heap.size ≤ w.heap.size + 1; omega) _) (by show w.heap.size ≤ w.heap.size + 1; omega) _) (by show w.heap.size ≤ w.heap.size + 1; omega) _
end
end Go.Proofs.Ytipcjofmplpffaa
