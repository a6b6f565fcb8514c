/-
  What AggJoin of the model returns.
-/
import Derived.Test.YtkaghdkehkjdoaaJoinMath
import Derived.Test.YtkaghdkehkjdoaaAggOkS
import Derived.Deep.CutRange
import Derived.Deep.RegionHeld3
namespace Go.Proofs.Ytkaghdkehkjdoaa
open Go.RowKit

theorem RowAt.setX {lo hi s n : Nat} {w : World} {t : TypeId} {v : Value} {cs : List Value} (h : RowAt lo hi w t s v n cs) (p : Addr) (u : Value) (hp : p.block < lo ∨ hi ≤ p.block) : RowAt lo hi (w.setCell p u) t s v n cs :=
  h.move (fun k h1 h2 => Below.heap_setCell w p u k (by omega))
/-- a join under way: the arguments, the result and the aggregate that is made -/
structure SJ (w wx : World) (X : Nat) (ca cb : List Value) (N h lw mn mx : Int) (A : Option Addr) (m c : Nat) (rs : List Int) : Prop where
  oA : Own wx w.heap.size 31 ca
  oB : Own wx (w.heap.size + 1) 31 cb
  oR : Own wx (w.heap.size + 1 + 1) 31 (agc 0 0 0 0 0 (.slice none 0 0))
  oX : Own wx X 31 (agc N h lw mn mx (.slice A m c))
  hX : w.heap.size + 3 ≤ X
  row : ∃ lo hi, RowAt lo hi wx 3 1 (.slice A m c) m (iz rs) ∧ w.heap.size + 3 ≤ lo ∧ hi ≤ wx.heap.size ∧ (X < lo ∨ hi ≤ X)
  hb : Below w.heap.size w wx
section
variable {w wx : World} {X : Nat} {ca cb : List Value} {N h lw mn mx : Int} {A : Option Addr} {m c : Nat} {rs : List Int}
theorem SJ.min (s : SJ w wx X ca cb N h lw mn mx A m c rs) (mn' : Int) : SJ w (wx.setCell ⟨X, 3, none⟩ (.int .i64 mn')) X ca cb N h lw mn' mx A m c rs := by
  have hX := s.hX
  obtain ⟨lo, hi, h1, h2, h3, h4⟩ := s.row
  exact ⟨s.oA.far (show w.heap.size ≠ X by omega) _, s.oB.far (show w.heap.size + 1 ≠ X by omega) _, s.oR.far (show w.heap.size + 1 + 1 ≠ X by omega) _, s.oX.set 3 _, hX,
    ⟨lo, hi, h1.setX _ _ h4, h2, by rwa [size_set], h4⟩, s.hb.setCell (by dsimp only; omega) _⟩
theorem SJ.max (s : SJ w wx X ca cb N h lw mn mx A m c rs) (mx' : Int) : SJ w (wx.setCell ⟨X, 4, none⟩ (.int .i64 mx')) X ca cb N h lw mn mx' A m c rs := by
  have hX := s.hX
  obtain ⟨lo, hi, h1, h2, h3, h4⟩ := s.row
  exact ⟨s.oA.far (show w.heap.size ≠ X by omega) _, s.oB.far (show w.heap.size + 1 ≠ X by omega) _, s.oR.far (show w.heap.size + 1 + 1 ≠ X by omega) _, s.oX.set 4 _, hX,
    ⟨lo, hi, h1.setX _ _ h4, h2, by rwa [size_set], h4⟩, s.hb.setCell (by dsimp only; omega) _⟩
end
theorem below_set6 {b X : Nat} {v W : World} {c0 c1 c2 c3 c4 c5 : Value} (hb : Below b v W) (hX : b ≤ X) :
    Below b v ((((((W.setCell ⟨X, 0, none⟩ c0).setCell ⟨X, 1, none⟩ c1).setCell ⟨X, 2, none⟩ c2).setCell ⟨X, 3, none⟩ c3).setCell ⟨X, 4, none⟩ c4).setCell ⟨X, 5, none⟩ c5) :=
  (((((hb.setCell hX _).setCell hX _).setCell hX _).setCell hX _).setCell hX _).setCell hX _

theorem set6_size (W : World) (X : Nat) (c0 c1 c2 c3 c4 c5 : Value) : ((((((W.setCell ⟨X, 0, none⟩ c0).setCell ⟨X, 1, none⟩ c1).setCell ⟨X, 2, none⟩ c2).setCell ⟨X, 3, none⟩ c3).setCell ⟨X, 4, none⟩ c4).setCell ⟨X, 5, none⟩ c5).heap.size = W.heap.size := by
  simp only [size_set]
theorem sj_of {w W : World} {X : Nat} {ca cb : List Value} {N h lw mn mx : Int} {A : Option Addr} {m c : Nat} {rs : List Int} (oA : Own W w.heap.size 31 ca) (oB : Own W (w.heap.size + 1) 31 cb)
    (oR : Own W (w.heap.size + 1 + 1) 31 (agc 0 0 0 0 0 (.slice none 0 0))) (oX : Own W X 31 (agc 0 0 0 0 0 (.slice none 0 0))) (hX : w.heap.size + 3 ≤ X)
    {lo hi : Nat} (row : RowAt lo hi W 3 1 (.slice A m c) m (iz rs)) (hlo : w.heap.size + 3 ≤ lo) (hhi : hi ≤ W.heap.size) (hne : X < lo ∨ hi ≤ X) (hb : Below w.heap.size w W) :
    SJ w ((((((W.setCell ⟨X, 0, none⟩ (.int .i64 N)).setCell ⟨X, 1, none⟩ (.int .i64 h)).setCell ⟨X, 2, none⟩ (.int .u64 lw)).setCell ⟨X, 3, none⟩ (.int .i64 mn)).setCell ⟨X, 4, none⟩ (.int .i64 mx)).setCell ⟨X, 5, none⟩ (.slice A m c)) X ca cb N h lw mn mx A m c rs := by
  have n0 : w.heap.size ≠ X := by omega
  have n1 : w.heap.size + 1 ≠ X := by omega
  have n2 : w.heap.size + 1 + 1 ≠ X := by omega
  exact ⟨(((((oA.far n0 _).far n0 _).far n0 _).far n0 _).far n0 _).far n0 _, (((((oB.far n1 _).far n1 _).far n1 _).far n1 _).far n1 _).far n1 _, (((((oR.far n2 _).far n2 _).far n2 _).far n2 _).far n2 _).far n2 _,
    (((((oX.set 0 _).set 1 _).set 2 _).set 3 _).set 4 _).set 5 _, hX, ⟨lo, hi, (((((row.setX _ _ hne).setX _ _ hne).setX _ _ hne).setX _ _ hne).setX _ _ hne).setX _ _ hne, hlo, by rwa [set6_size], hne⟩, below_set6 hb (by omega)⟩

theorem rowAt_up {lo lo' hi hi' s n : Nat} {w : World} {t : TypeId} {v : Value} {cs : List Value} (h : RowAt lo hi w t s v n cs) (hl : lo' ≤ lo) (hh : hi ≤ hi') : RowAt lo' hi' w t s v n cs :=
  ⟨owns_base h.1 hl, fun k hk => Nat.lt_of_lt_of_le (h.2 k hk) hh⟩

theorem Part.okS (p : Part) (w : World) (h : p.In w) (hf : SFit p.A p.n p.c) : Calls Try.prog 29 #[agv p.N (hi p.z) (lo p.z) p.mn p.mx (.slice p.A p.n p.c)] w fun e w' => e = .returned (.bool (tf p.ok)) ∧ Below w.heap.size w w' :=
  specAggOk_any p.N p.z p.mn p.mx _ _ p.A p.n p.c p.t w h.rd h.hz h.hn hf h.h64 h.hm h.hw rfl rfl

set_option maxRecDepth 100000 in
set_option maxHeartbeats 4000000 in
theorem specAggJoin_any (p q : Part) (w : World) (hp : p.In w) (hq : q.In w) (fp : SFit p.A p.n p.c) (fq : SFit q.A q.n q.c) : Calls Try.prog 31 #[p.val, q.val] w (JoinTo p q w) := by
  have HP := Lib.hid (fun W (hb : Below w.heap.size w W) => p.okS W (hp.below hb) fp)
  have HQ := Lib.hid (fun W (hb : Below w.heap.size w W) => q.okS W (hq.below hb) fq)
  have HNO := Lib.hid (show ¬ joinOk p q → JoinTo p q w = JoinRes 0 0 0 0 0 0 [] false w from fun h => by unfold JoinTo; rw [joinTo_neg h, ← tf_no h]; rfl)
  obtain ⟨o1, o2, o3, hb, hbw⟩ := box_three (w := w) (c1 := p.cells) (c2 := q.cells) (c3 := agc 0 0 0 0 0 (.slice none 0 0)) (t1 := 31) (t2 := 31) (t3 := 31)
  by_cases hop : p.ok
  · have hnp := aggOk_num hop
    replace HP := Lib.hid (fun W hb => as_bool (tf_yes hop).symm (HP.out W hb))
    by_cases hoq : q.ok
    · have hnq := aggOk_num hoq
      replace HQ := Lib.hid (fun W hb => as_bool (tf_yes hoq).symm (HQ.out W hb))
      by_cases hs : p.N + q.N ≤ 1000000
      · obtain ⟨MN, HMN⟩ : ∃ M : Int, Hid ((if q.N = 0 then p.mn else if p.N = 0 then q.mn else (if q.mn < p.mn then q.mn else p.mn)) = M) := ⟨_, Lib.hid rfl⟩
        obtain ⟨MX, HMX⟩ : ∃ M : Int, Hid ((if q.N = 0 then p.mx else if p.N = 0 then q.mx else (if p.mx < q.mx then q.mx else p.mx)) = M) := ⟨_, Lib.hid rfl⟩
        have HR := Lib.hid (show JoinTo p q w = JoinRes (topOf (p.t ++ q.t)).length (p.N + q.N) (hi (p.z + q.z)) (lo (p.z + q.z)) MN MX (topOf (p.t ++ q.t)) true w by
          have h : joinOk p q := ⟨hop, hoq, hs⟩
          obtain ⟨e1, e2⟩ := join_nums hop hoq
          unfold JoinTo; rw [joinTo_pos h, ← tf_yes h, e1]
          dsimp only
          rw [e2, HMN.out, HMX.out])
        have HT := Lib.hid (fun W (hb : Below w.heap.size w W) => specTopOf_any p.A p.n p.c p.t q.A q.n q.c q.t W (hp.below hb).rd hp.hz hp.hn fp (hq.below hb).rd hq.hz hq.hn fq)
        have HTL := Lib.hid (show (topOf (p.t ++ q.t)).length ≤ 1048576 by rw [topOf_length]; omega)
        rw [HR.out]
        generalize topOf (p.t ++ q.t) = rs at *
        clear HR HNO hp hq hop hoq fp fq
        have hs' : decide (1000000 < p.N + q.N) = false := by simp; omega
        unfold Part.val
        unfold Part.cells at o1 o2 hb hbw
        obtain ⟨Na, za, mna, mxa, A, na, ca, ta⟩ := p
        obtain ⟨Nb, zb, mnb, mxb, B, nb, cb, tb⟩ := q
        dsimp only at HP HQ HT HMN HMX hs hs' hnp hnq o1 o2 hb hbw ⊢
        go_enter Try.func31, Try.ntmps31
        go_wp2_with fail
        refine (HP.out _ hb).mono ?_
        rintro e w2 ⟨rfl, hb2⟩
        replace o1 := o1.grow hb2
        replace o2 := o2.grow hb2
        replace o3 := o3.grow hb2
        replace hb := below_trans hb hb2
        clear hb2
        obtain ⟨b0, b1, b2, b3, b4, b5⟩ := o2.six
        go_wp2_with fail
        clear b0 b1 b2 b3 b4 b5
        refine (HQ.out _ hb).mono ?_
        rintro e v ⟨rfl, hb3⟩
        have HO1 := Lib.hid (o1.grow hb3)
        have HO2 := Lib.hid (o2.grow hb3)
        have HO3 := Lib.hid (o3.grow hb3)
        have HB := Lib.hid (below_trans hb hb3)
        obtain ⟨a0, a1, a2, a3, a4, a5⟩ := HO1.out.six
        obtain ⟨b0, b1, b2, b3, b4, b5⟩ := HO2.out.six
        clear hb3 o1 o2 o3 hb hbw HP HQ w2
        go_upto_region 3 with (fail)
        clear a0 a1 a2 a3 a4 a5 b0 b1 b2 b3 b4 b5
        have hwr : IntKind.i64.wrap (Na + Nb) = Na + Nb := by rw [IntKind.wrap_i64]; omega
        have hzv : w.heap.size + 3 ≤ v.heap.size := by have := HO3.out.lt; omega
        obtain ⟨G, HG⟩ : ∃ G : Int, (if mnb < mna then mnb else mna) = G := ⟨_, rfl⟩
        obtain ⟨L, HL⟩ : ∃ L : Int, (if mxa < mxb then mxb else mxa) = L := ⟨_, rfl⟩
        go_cut [6] from 24 to 69 (fun s6 wx => ∃ (X : Nat) (T : Option Addr) (ct : Nat), s6 = .pointer (some ⟨X, 0, none⟩) ∧ SJ w wx X (agc Na (hi za) (lo za) mna mxa (.slice A na ca)) (agc Nb (hi zb) (lo zb) mnb mxb (.slice B nb cb)) (Na + Nb) (hi (za + zb)) (lo (za + zb)) G L T rs.length ct rs)
        case first =>
          have k0 := fun W (h : Below v.heap.size v W) => (HO1.out.grow h).six.1
          have k1 := fun W (h : Below v.heap.size v W) => (HO1.out.grow h).six.2.1
          have k2 := fun W (h : Below v.heap.size v W) => (HO1.out.grow h).six.2.2.1
          have k3 := fun W (h : Below v.heap.size v W) => (HO1.out.grow h).six.2.2.2.1
          have k4 := fun W (h : Below v.heap.size v W) => (HO1.out.grow h).six.2.2.2.2.1
          have k5 := fun W (h : Below v.heap.size v W) => (HO1.out.grow h).six.2.2.2.2.2
          have l0 := fun W (h : Below v.heap.size v W) => (HO2.out.grow h).six.1
          have l1 := fun W (h : Below v.heap.size v W) => (HO2.out.grow h).six.2.1
          have l2 := fun W (h : Below v.heap.size v W) => (HO2.out.grow h).six.2.2.1
          have l3 := fun W (h : Below v.heap.size v W) => (HO2.out.grow h).six.2.2.2.1
          have l4 := fun W (h : Below v.heap.size v W) => (HO2.out.grow h).six.2.2.2.2.1
          have l5 := fun W (h : Below v.heap.size v W) => (HO2.out.grow h).six.2.2.2.2.2
          have HTB := Lib.hid (fun W (h : Below v.heap.size v W) => HT.out W (below_trans HB.out h))
          refine wp_region_held_drew (S := fun W => Below v.heap.size v W) (by kernel_rfl) (Below.refl _ _).drew (fun hHeld => ?_)
          refine wpAnyH_take (i := 0) (v := ?v0x1) rfl (by kernel_rfl) (by kernel_rfl) (by kernel_rfl) (fun _ _ _ h => h) (Or.inl ⟨by rfl, ?y0x1⟩) (by with_reducible assumption) ?_
          case y0x1 =>
            intro w0 hSw
            (try dsimp only at hSw)
            go_simp
            (try with_reducible rfl)
          (try simp only [Act.put, List.setIfInBounds_toArray])
          refine wpAnyH_take (i := 1) (v := ?v1x2) rfl (by kernel_rfl) (by kernel_rfl) (by kernel_rfl) (fun _ _ _ h => h) (Or.inl ⟨by rfl, ?y1x2⟩) (by with_reducible assumption) ?_
          case y1x2 =>
            intro w0 hSw
            (try dsimp only at hSw)
            go_simp
            (try with_reducible rfl)
          (try simp only [Act.put])
          refine wpAnyH_take (i := 2) (v := ?v2x3) rfl (by kernel_rfl) (by kernel_rfl) (by kernel_rfl) (fun _ _ _ h => h) (Or.inl ⟨by rfl, ?y2x3⟩) (by with_reducible assumption) ?_
          case y2x3 =>
            intro w0 hSw
            (try dsimp only at hSw)
            go_simp
            (try with_reducible rfl)
          (try simp only [Act.put])
          refine wpAnyH_take (i := 3) (v := ?v3x4) rfl (by kernel_rfl) (by kernel_rfl) (by kernel_rfl) (fun _ _ _ h => h) (Or.inl ⟨by rfl, ?y3x4⟩) (by with_reducible assumption) ?_
          case y3x4 =>
            intro w0 hSw
            (try dsimp only at hSw)
            go_simp
            (try with_reducible rfl)
          (try simp only [Act.put])
          refine wpAnyH_take (i := 4) (v := ?v4x5) rfl (by kernel_rfl) (by kernel_rfl) (by kernel_rfl) (fun _ _ _ h => h) (Or.inl ⟨by rfl, ?y4x5⟩) (by with_reducible assumption) ?_
          case y4x5 =>
            intro w0 hSw
            (try dsimp only at hSw)
            go_simp
            (try with_reducible rfl)
          (try simp only [Act.put])
          refine wpAnyH_take (i := 5) (v := ?v5x6) rfl (by kernel_rfl) (by kernel_rfl) (by kernel_rfl) (fun _ _ _ h => h) (Or.inl ⟨by rfl, ?y5x6⟩) (by with_reducible assumption) ?_
          case y5x6 =>
            intro w0 hSw
            (try dsimp only at hSw)
            go_simp
            (try with_reducible rfl)
          (try simp only [Act.put])
          refine wpAnyH_take (i := 6) (v := ?v6x7) rfl (by kernel_rfl) (by kernel_rfl) (by kernel_rfl) (fun _ _ _ h => h) (Or.inl ⟨by rfl, ?y6x7⟩) (by with_reducible assumption) ?_
          case y6x7 =>
            intro w0 hSw
            (try dsimp only at hSw)
            go_simp
            (try with_reducible rfl)
          (try simp only [Act.put])
          refine wpAnyH_take (i := 7) (v := ?v7x8) rfl (by kernel_rfl) (by kernel_rfl) (by kernel_rfl) (fun _ _ _ h => h) (Or.inl ⟨by rfl, ?y7x8⟩) (by with_reducible assumption) ?_
          case y7x8 =>
            intro w0 hSw
            (try dsimp only at hSw)
            go_simp
            (try with_reducible rfl)
          (try simp only [Act.put])
          refine wpAnyH_take (i := 8) (v := ?v8x9) rfl (by kernel_rfl) (by kernel_rfl) (by kernel_rfl) (fun _ _ _ h => h) (Or.inl ⟨by rfl, ?y8x9⟩) (by with_reducible assumption) ?_
          case y8x9 =>
            intro w0 hSw
            (try dsimp only at hSw)
            go_simp
            (try with_reducible rfl)
          (try simp only [Act.put])
          refine wpAnyH_take (i := 10) (v := ?v10x10) rfl (by kernel_rfl) (by kernel_rfl) (by kernel_rfl) (fun _ _ _ h => h) (Or.inl ⟨by rfl, ?y10x10⟩) (by with_reducible assumption) ?_
          case y10x10 =>
            intro w0 hSw
            (try dsimp only at hSw)
            go_simp
            (try with_reducible rfl)
          (try simp only [Act.put])
          refine wpAnyH_take (i := 11) (v := ?v11x11) rfl (by kernel_rfl) (by kernel_rfl) (by kernel_rfl) (fun _ _ _ h => h) (Or.inl ⟨by rfl, ?y11x11⟩) (by with_reducible assumption) ?_
          case y11x11 =>
            intro w0 hSw
            (try dsimp only at hSw)
            go_simp
            (try with_reducible rfl)
          (try simp only [Act.put])
          refine wpAnyH_take (i := 12) (v := ?v12x12) rfl (by kernel_rfl) (by kernel_rfl) (by kernel_rfl) (fun _ _ _ h => h) (Or.inl ⟨by rfl, ?y12x12⟩) (by with_reducible assumption) ?_
          case y12x12 =>
            intro w0 hSw
            (try dsimp only at hSw)
            go_simp
            (try with_reducible rfl)
          (try simp only [Act.put])
          refine wpAnyH_take (i := 13) (v := ?v13x13) rfl (by kernel_rfl) (by kernel_rfl) (by kernel_rfl) (fun _ _ _ h => h) (Or.inl ⟨by rfl, ?y13x13⟩) (by with_reducible assumption) ?_
          case y13x13 =>
            intro w0 hSw
            (try dsimp only at hSw)
            go_simp
            (try with_reducible rfl)
          (try simp only [Act.put])
          refine wpAnyH_take (i := 14) (v := ?v14x14) rfl (by kernel_rfl) (by kernel_rfl) (by kernel_rfl) (fun _ _ _ h => h) (Or.inl ⟨by rfl, ?y14x14⟩) (by with_reducible assumption) ?_
          case y14x14 =>
            intro w0 hSw
            (try dsimp only at hSw)
            go_simp
            (try with_reducible rfl)
          (try simp only [Act.put])
          refine wpAnyH_take (i := 15) (v := ?v15x15) rfl (by kernel_rfl) (by kernel_rfl) (by kernel_rfl) (fun _ _ _ h => h) (Or.inl ⟨by rfl, ?y15x15⟩) (by with_reducible assumption) ?_
          case y15x15 =>
            intro w0 hSw
            (try dsimp only at hSw)
            go_simp
            (try with_reducible rfl)
          (try simp only [Act.put])
          refine wpAnyH_take (i := 16) (v := ?v16x16) rfl (by kernel_rfl) (by kernel_rfl) (by kernel_rfl) (fun _ _ _ h => h) (Or.inl ⟨by rfl, ?y16x16⟩) (by with_reducible assumption) ?_
          case y16x16 =>
            intro w0 hSw
            (try dsimp only at hSw)
            go_simp
            (try with_reducible rfl)
          (try simp only [Act.put])
          refine wpAnyH_take (i := 17) (v := ?v17x17) rfl (by kernel_rfl) (by kernel_rfl) (by kernel_rfl) (fun _ _ _ h => h) (Or.inl ⟨by rfl, ?y17x17⟩) (by with_reducible assumption) ?_
          case y17x17 =>
            intro w0 hSw
            (try dsimp only at hSw)
            go_simp
            (try with_reducible rfl)
          (try simp only [Act.put])
          refine wpAnyH_take (i := 18) (v := ?v18x18) rfl (by kernel_rfl) (by kernel_rfl) (by kernel_rfl) (fun _ _ _ h => h) (Or.inl ⟨by rfl, ?y18x18⟩) (by with_reducible assumption) ?_
          case y18x18 =>
            intro w0 hSw
            (try dsimp only at hSw)
            go_simp
            (try with_reducible rfl)
          (try simp only [Act.put])
          refine wpAnyH_take (i := 19) (v := ?v19x19) rfl (by kernel_rfl) (by kernel_rfl) (by kernel_rfl) (fun _ _ _ h => h) (Or.inl ⟨by rfl, ?y19x19⟩) (by with_reducible assumption) ?_
          case y19x19 =>
            intro w0 hSw
            (try dsimp only at hSw)
            go_simp
            (try with_reducible rfl)
          (try simp only [Act.put])
          refine wpAnyH_take (i := 20) (v := ?v20x20) rfl (by kernel_rfl) (by kernel_rfl) (by kernel_rfl) (fun _ _ _ h => h) (Or.inl ⟨by rfl, ?y20x20⟩) (by with_reducible assumption) ?_
          case y20x20 =>
            intro w0 hSw
            (try dsimp only at hSw)
            go_simp
            (try with_reducible rfl)
          (try simp only [Act.put])
          refine wpAnyH_take (i := 21) (v := ?v21x21) rfl (by kernel_rfl) (by kernel_rfl) (by kernel_rfl) (fun _ _ _ h => h) (Or.inl ⟨by rfl, ?y21x21⟩) (by with_reducible assumption) ?_
          case y21x21 =>
            intro w0 hSw
            (try dsimp only at hSw)
            go_simp
            (try with_reducible rfl)
          (try simp only [Act.put])
          refine wpAnyH_take (i := 22) (v := ?v22x22) rfl (by kernel_rfl) (by kernel_rfl) (by kernel_rfl) (fun _ _ _ h => h) (Or.inl ⟨by rfl, ?y22x22⟩) (by with_reducible assumption) ?_
          case y22x22 =>
            intro w0 hSw
            (try dsimp only at hSw)
            go_simp
            (try with_reducible rfl)
          (try simp only [Act.put])
          refine wpAnyH_take (i := 23) (v := ?v23x23) rfl (by kernel_rfl) (by kernel_rfl) (by kernel_rfl) (fun _ _ _ h => h) (Or.inl ⟨by rfl, ?y23x23⟩) (by with_reducible assumption) ?_
          case y23x23 =>
            intro w0 hSw
            (try dsimp only at hSw)
            go_simp
            (try with_reducible rfl)
          (try simp only [Act.put])
          refine wpAnyH_ready (rs := [9, 26]) (by kernel_rfl) (by simp) (AllReadyH.cons rfl (fun K hK => ?_) (AllReadyH.cons rfl (fun K hK => ?_) AllReadyH.nil))
          · go_simp
            go_at_call 42
            refine (specWideAdd_any _ _ _ _ za zb _ rfl rfl rfl rfl).mono ?_
            rintro e w5 ⟨rfl, hb5⟩
            refine hK.out _ _ (show Below v.heap.size v w5 from below_trans hHeld hb5) (fun hHeld5 => ?_)
            clear hK K
            (try simp only [Act.put, List.setIfInBounds_toArray, List.set_cons_zero, List.set_cons_succ])
            refine wpAnyH_ready (rs := [24, 26]) (by kernel_rfl) (by simp) (AllReadyH.cons rfl (fun K hK => ?_) (AllReadyH.cons rfl (fun K hK => ?_) AllReadyH.nil))
            · go_simp
              go_at_call 35
              refine (HTB.out _ hHeld5).mono ?_
              rintro e w6 ⟨T, ct, rfl, r6, hb6⟩
              refine hK.out _ _ (show Below v.heap.size v w6 from below_trans hHeld5 hb6) (fun hHeld6 => ?_)
              clear hK K
              (try simp only [Act.put, List.setIfInBounds_toArray, List.set_cons_zero, List.set_cons_succ])
              refine wpAnyH_take (i := 25) (v := ?v25x24) rfl (by kernel_rfl) (by kernel_rfl) (by kernel_rfl) (fun _ _ _ h => h) (Or.inl ⟨by rfl, ?y25x24⟩) (by with_reducible assumption) ?_
              case y25x24 =>
                intro w0 hSw
                (try dsimp only at hSw)
                go_simp
                (try with_reducible rfl)
              (try simp only [Act.put, List.setIfInBounds_toArray])
              refine wpAnyH_ready (rs := [26]) (by kernel_rfl) (by simp) (AllReadyH.cons rfl (fun K hK => ?_) AllReadyH.nil)
              go_simp
              refine hK.out _ _ (show Below v.heap.size v (w6.alloc (.cells #[.int .i64 0, .int .i64 0, .int .u64 0, .int .i64 0, .int .i64 0, .slice none 0 0] 31)) from below_trans hHeld6 (below_alloc _ _)) (fun hHeldA => ?_)
              clear hK K
              (try simp only [Act.put, List.setIfInBounds_toArray, List.set_cons_zero, List.set_cons_succ])
              refine wpAnyH_ready (rs := [27]) (by kernel_rfl) (by simp) (AllReadyH.cons rfl (fun K hK => ?_) AllReadyH.nil)
              have z5 := hb5.size
              have z6 := hb6.size
              (try rw [World.size_alloc] at z6)
              (try rw [World.size_alloc] at z5)
              have zv : v.drew.heap.size = v.heap.size := rfl
              (try rw [zv] at z5)
              have q6 := (show Own (w6.alloc (.cells #[.int .i64 0, .int .i64 0, .int .u64 0, .int .i64 0, .int .i64 0, .slice none 0 0] 31)) w6.heap.size 31 (agc 0 0 0 0 0 (.slice none 0 0)) from Own.new w6 _ (agc 0 0 0 0 0 (.slice none 0 0)))
              have rr := r6.grow (below_alloc w6 (.cells #[.int .i64 0, .int .i64 0, .int .u64 0, .int .i64 0, .int .i64 0, .slice none 0 0] 31))
              have hlo : w.heap.size + 3 ≤ w5.heap.size := by (first | omega | (simp only [World.size_alloc]; omega))
              have hne : w6.heap.size < w5.heap.size ∨ w6.heap.size ≤ w6.heap.size := by (first | omega | (simp only [World.size_alloc]; omega))
              have hX : w.heap.size + 3 ≤ w6.heap.size := by omega
              have hhi : w6.heap.size ≤ (w6.alloc (.cells #[.int .i64 0, .int .i64 0, .int .u64 0, .int .i64 0, .int .i64 0, .slice none 0 0] 31)).heap.size := by (first | omega | (simp only [World.size_alloc]; omega))
              have hL : Below v.heap.size v (w6.alloc (.cells #[.int .i64 0, .int .i64 0, .int .u64 0, .int .i64 0, .int .i64 0, .slice none 0 0] 31)) := by with_reducible assumption
              have hXv : v.heap.size ≤ w6.heap.size := by omega
              clear z5 z6
              generalize w6.heap.size = X at *
              generalize w6.alloc (.cells #[.int .i64 0, .int .i64 0, .int .u64 0, .int .i64 0, .int .i64 0, .slice none 0 0] 31) = w7 at *
              obtain ⟨t0, t1, t2, t3, t4, t5⟩ := q6.six
              have ft0 := q6.free 0
              have ft1 := q6.free 1
              have ft2 := q6.free 2
              have ft3 := q6.free 3
              have ft4 := q6.free 4
              have ft5 := q6.free 5
              go_simp
              refine hK.out _ _ (below_set6 hL hXv) (fun _ => ?_)
              clear hK K
              (try simp only [Act.put, List.setIfInBounds_toArray, List.set_cons_zero, List.set_cons_succ])
              refine wpAnyH_done (by kernel_rfl) ?_ _
              clear t0 t1 t2 t3 t4 t5 ft0 ft1 ft2 ft3 ft4 ft5
              go_wp2_with fail
              go_meet
              case rel => exact ⟨_, T, ct, rfl, sj_of (HO1.out.grow hL) (HO2.out.grow hL) (HO3.out.grow hL) q6 hX rr hlo hhi hne (below_trans HB.out hL)⟩
            · go_simp
              refine hK.out _ _ (show Below v.heap.size v (w5.alloc (.cells #[.int .i64 0, .int .i64 0, .int .u64 0, .int .i64 0, .int .i64 0, .slice none 0 0] 31)) from below_trans hHeld5 (below_alloc _ _)) (fun hHeldA => ?_)
              clear hK K
              (try simp only [Act.put, List.setIfInBounds_toArray, List.set_cons_zero, List.set_cons_succ])
              refine wpAnyH_ready (rs := [24]) (by kernel_rfl) (by simp) (AllReadyH.cons rfl (fun K hK => ?_) AllReadyH.nil)
              go_simp
              go_at_call 35
              refine (HTB.out _ hHeldA).mono ?_
              rintro e w6 ⟨T, ct, rfl, r6, hb6⟩
              refine hK.out _ _ (show Below v.heap.size v w6 from below_trans hHeldA hb6) (fun hHeld6 => ?_)
              clear hK K
              (try simp only [Act.put, List.setIfInBounds_toArray, List.set_cons_zero, List.set_cons_succ])
              refine wpAnyH_take (i := 25) (v := ?v25x25) rfl (by kernel_rfl) (by kernel_rfl) (by kernel_rfl) (fun _ _ _ h => h) (Or.inl ⟨by rfl, ?y25x25⟩) (by with_reducible assumption) ?_
              case y25x25 =>
                intro w0 hSw
                (try dsimp only at hSw)
                go_simp
                (try with_reducible rfl)
              (try simp only [Act.put, List.setIfInBounds_toArray])
              refine wpAnyH_ready (rs := [27]) (by kernel_rfl) (by simp) (AllReadyH.cons rfl (fun K hK => ?_) AllReadyH.nil)
              have z5 := hb5.size
              have z6 := hb6.size
              (try rw [World.size_alloc] at z6)
              (try rw [World.size_alloc] at z5)
              have zv : v.drew.heap.size = v.heap.size := rfl
              (try rw [zv] at z5)
              have q6 := (show Own (w5.alloc (.cells #[.int .i64 0, .int .i64 0, .int .u64 0, .int .i64 0, .int .i64 0, .slice none 0 0] 31)) w5.heap.size 31 (agc 0 0 0 0 0 (.slice none 0 0)) from Own.new w5 _ (agc 0 0 0 0 0 (.slice none 0 0))).grow hb6
              have rr := r6
              have hlo : w.heap.size + 3 ≤ (w5.alloc (.cells #[.int .i64 0, .int .i64 0, .int .u64 0, .int .i64 0, .int .i64 0, .slice none 0 0] 31)).heap.size := by (first | omega | (simp only [World.size_alloc]; omega))
              have hne : w5.heap.size < (w5.alloc (.cells #[.int .i64 0, .int .i64 0, .int .u64 0, .int .i64 0, .int .i64 0, .slice none 0 0] 31)).heap.size ∨ w6.heap.size ≤ w5.heap.size := by (first | omega | (simp only [World.size_alloc]; omega))
              have hX : w.heap.size + 3 ≤ w5.heap.size := by omega
              have hhi : w6.heap.size ≤ (w6).heap.size := by (first | omega | (simp only [World.size_alloc]; omega))
              have hL : Below v.heap.size v (w6) := by with_reducible assumption
              have hXv : v.heap.size ≤ w5.heap.size := by omega
              clear z5 z6
              generalize w5.heap.size = X at *
              obtain ⟨t0, t1, t2, t3, t4, t5⟩ := q6.six
              have ft0 := q6.free 0
              have ft1 := q6.free 1
              have ft2 := q6.free 2
              have ft3 := q6.free 3
              have ft4 := q6.free 4
              have ft5 := q6.free 5
              go_simp
              refine hK.out _ _ (below_set6 hL hXv) (fun _ => ?_)
              clear hK K
              (try simp only [Act.put, List.setIfInBounds_toArray, List.set_cons_zero, List.set_cons_succ])
              refine wpAnyH_done (by kernel_rfl) ?_ _
              clear t0 t1 t2 t3 t4 t5 ft0 ft1 ft2 ft3 ft4 ft5
              go_wp2_with fail
              go_meet
              case rel => exact ⟨_, T, ct, rfl, sj_of (HO1.out.grow hL) (HO2.out.grow hL) (HO3.out.grow hL) q6 hX rr hlo hhi hne (below_trans HB.out hL)⟩
          · go_simp
            refine hK.out _ _ (show Below v.heap.size v (v.drew.alloc (.cells #[.int .i64 0, .int .i64 0, .int .u64 0, .int .i64 0, .int .i64 0, .slice none 0 0] 31)) from below_trans hHeld (below_alloc _ _)) (fun hHeldA => ?_)
            clear hK K
            (try simp only [Act.put, List.setIfInBounds_toArray, List.set_cons_zero, List.set_cons_succ])
            refine wpAnyH_ready (rs := [9]) (by kernel_rfl) (by simp) (AllReadyH.cons rfl (fun K hK => ?_) AllReadyH.nil)
            go_simp
            go_at_call 42
            refine (specWideAdd_any _ _ _ _ za zb _ rfl rfl rfl rfl).mono ?_
            rintro e w5 ⟨rfl, hb5⟩
            refine hK.out _ _ (show Below v.heap.size v w5 from below_trans hHeldA hb5) (fun hHeld5 => ?_)
            clear hK K
            (try simp only [Act.put, List.setIfInBounds_toArray, List.set_cons_zero, List.set_cons_succ])
            refine wpAnyH_ready (rs := [24]) (by kernel_rfl) (by simp) (AllReadyH.cons rfl (fun K hK => ?_) AllReadyH.nil)
            go_simp
            go_at_call 35
            refine (HTB.out _ hHeld5).mono ?_
            rintro e w6 ⟨T, ct, rfl, r6, hb6⟩
            refine hK.out _ _ (show Below v.heap.size v w6 from below_trans hHeld5 hb6) (fun hHeld6 => ?_)
            clear hK K
            (try simp only [Act.put, List.setIfInBounds_toArray, List.set_cons_zero, List.set_cons_succ])
            refine wpAnyH_take (i := 25) (v := ?v25x26) rfl (by kernel_rfl) (by kernel_rfl) (by kernel_rfl) (fun _ _ _ h => h) (Or.inl ⟨by rfl, ?y25x26⟩) (by with_reducible assumption) ?_
            case y25x26 =>
              intro w0 hSw
              (try dsimp only at hSw)
              go_simp
              (try with_reducible rfl)
            (try simp only [Act.put, List.setIfInBounds_toArray])
            refine wpAnyH_ready (rs := [27]) (by kernel_rfl) (by simp) (AllReadyH.cons rfl (fun K hK => ?_) AllReadyH.nil)
            have z6 := hb6.size
            have z5 : v.heap.size + 1 ≤ w5.heap.size := by
              have h : (v.alloc (.cells #[.int .i64 0, .int .i64 0, .int .u64 0, .int .i64 0, .int .i64 0, .slice none 0 0] 31)).heap.size ≤ w5.heap.size := hb5.size
              rwa [World.size_alloc] at h
            have q6 := ((show Own (v.drew.alloc (.cells #[.int .i64 0, .int .i64 0, .int .u64 0, .int .i64 0, .int .i64 0, .slice none 0 0] 31)) v.heap.size 31 (agc 0 0 0 0 0 (.slice none 0 0)) from Own.new v.drew _ (agc 0 0 0 0 0 (.slice none 0 0))).grow hb5).grow hb6
            have rr := r6
            have hlo : w.heap.size + 3 ≤ w5.heap.size := by (first | omega | (simp only [World.size_alloc]; omega))
            have hne : v.heap.size < w5.heap.size ∨ w6.heap.size ≤ v.heap.size := by (first | omega | (simp only [World.size_alloc]; omega))
            have hX : w.heap.size + 3 ≤ v.heap.size := by omega
            have hhi : w6.heap.size ≤ (w6).heap.size := by (first | omega | (simp only [World.size_alloc]; omega))
            have hL : Below v.heap.size v (w6) := by with_reducible assumption
            have hXv : v.heap.size ≤ v.heap.size := by omega
            clear z5 z6
            obtain ⟨t0, t1, t2, t3, t4, t5⟩ := q6.six
            have ft0 := q6.free 0
            have ft1 := q6.free 1
            have ft2 := q6.free 2
            have ft3 := q6.free 3
            have ft4 := q6.free 4
            have ft5 := q6.free 5
            go_simp
            refine hK.out _ _ (below_set6 hL hXv) (fun _ => ?_)
            clear hK K
            (try simp only [Act.put, List.setIfInBounds_toArray, List.set_cons_zero, List.set_cons_succ])
            refine wpAnyH_done (by kernel_rfl) ?_ _
            clear t0 t1 t2 t3 t4 t5 ft0 ft1 ft2 ft3 ft4 ft5
            go_wp2_with fail
            go_meet
            case rel => exact ⟨_, T, ct, rfl, sj_of (HO1.out.grow hL) (HO2.out.grow hL) (HO3.out.grow hL) q6 hX rr hlo hhi hne (below_trans HB.out hL)⟩
        case rest =>
          obtain ⟨X, T, ct, rfl, hsj⟩ := hcut
          have hXX := hsj.hX
          have S := Lib.hid hsj
          clear hsj
          by_cases hA : Na = 0
          · have hA' : (Na == 0) = true := by simp [hA]
            obtain ⟨a0, a1, a2, a3, a4, a5⟩ := S.out.oA.six
            obtain ⟨b0, b1, b2, b3, b4, b5⟩ := S.out.oB.six
            obtain ⟨x0, x1, x2, x3, x4, x5⟩ := S.out.oX.six
            have fx3 := S.out.oX.free 3
            have fx4 := S.out.oX.free 4
            go_upto_region 6 with (fail)
            clear a0 a1 a2 a3 a4 a5 b0 b1 b2 b3 b4 b5 x0 x1 x2 x3 x4 x5 fx3 fx4
            have S1 := Lib.hid (S.out.min mnb)
            clear S
            generalize wc.setCell ⟨X, 3, none⟩ (.int .i64 mnb) = wc1 at *
            obtain ⟨a0, a1, a2, a3, a4, a5⟩ := S1.out.oA.six
            obtain ⟨b0, b1, b2, b3, b4, b5⟩ := S1.out.oB.six
            obtain ⟨x0, x1, x2, x3, x4, x5⟩ := S1.out.oX.six
            have fx3 := S1.out.oX.free 3
            have fx4 := S1.out.oX.free 4
            go_upto_region 7 with (fail)
            clear a0 a1 a2 a3 a4 a5 b0 b1 b2 b3 b4 b5 x0 x1 x2 x3 x4 x5 fx3 fx4
            have S2 := Lib.hid (S1.out.max mxb)
            clear S1
            generalize wc1.setCell ⟨X, 4, none⟩ (.int .i64 mxb) = wc2 at *
            by_cases hB : Nb = 0
            · have hB' : (Nb == 0) = true := by simp [hB]
              obtain ⟨a0, a1, a2, a3, a4, a5⟩ := S2.out.oA.six
              obtain ⟨b0, b1, b2, b3, b4, b5⟩ := S2.out.oB.six
              obtain ⟨x0, x1, x2, x3, x4, x5⟩ := S2.out.oX.six
              have fx3 := S2.out.oX.free 3
              have fx4 := S2.out.oX.free 4
              go_upto_region 9 with (fail)
              clear a0 a1 a2 a3 a4 a5 b0 b1 b2 b3 b4 b5 x0 x1 x2 x3 x4 x5 fx3 fx4
              have S21 := Lib.hid (S2.out.min mna)
              clear S2
              generalize wc2.setCell ⟨X, 3, none⟩ (.int .i64 mna) = wc21 at *
              obtain ⟨a0, a1, a2, a3, a4, a5⟩ := S21.out.oA.six
              obtain ⟨b0, b1, b2, b3, b4, b5⟩ := S21.out.oB.six
              obtain ⟨x0, x1, x2, x3, x4, x5⟩ := S21.out.oX.six
              have fx3 := S21.out.oX.free 3
              have fx4 := S21.out.oX.free 4
              go_upto_region 10 with (fail)
              clear a0 a1 a2 a3 a4 a5 b0 b1 b2 b3 b4 b5 x0 x1 x2 x3 x4 x5 fx3 fx4
              have S22 := Lib.hid (S21.out.max mxa)
              clear S21
              generalize wc21.setCell ⟨X, 4, none⟩ (.int .i64 mxa) = wc22 at *
              have hmn : mna = MN := by rw [← HMN.out]; simp [hB]
              have hmx : mxa = MX := by rw [← HMX.out]; simp [hB]
              rw [hmn, hmx] at S22
              clear HMN HMX hmn hmx HG HL hA hB hA' hB'
              obtain ⟨x0, x1, x2, x3, x4, x5⟩ := S22.out.oX.six
              obtain ⟨e0, e1, e2, e3, e4, e5⟩ := S22.out.oR.six
              have g0 := S22.out.oR.free 0
              have g1 := S22.out.oR.free 1
              have g2 := S22.out.oR.free 2
              have g3 := S22.out.oR.free 3
              have g4 := S22.out.oR.free 4
              have g5 := S22.out.oR.free 5
              go_wp2
              refine bodyPost_ret (v := .tuple #[agv (Na + Nb) (hi (za + zb)) (lo (za + zb)) MN MX (.slice T rs.length ct), .bool true]) (by simp [results, Try.results31, go_sem, e0, e1, e2, e3, e4, e5]) rfl ⟨T, ct, rfl, ?_, ?_⟩
              · obtain ⟨lo6, hi6, h1, h2, h3, -⟩ := S22.out.row
                simp only [size_set]
                have hlt2 : w.heap.size + 1 + 1 < lo6 := by omega
                exact rowAt_up ((((((h1.set _ _ hlt2).set _ _ hlt2).set _ _ hlt2).set _ _ hlt2).set _ _ hlt2).set _ _ hlt2) (by omega) h3
              · exact below_set6 S22.out.hb (by omega)
            · have hB' : (Nb == 0) = false := by simp [hB]
              obtain ⟨a0, a1, a2, a3, a4, a5⟩ := S2.out.oA.six
              obtain ⟨b0, b1, b2, b3, b4, b5⟩ := S2.out.oB.six
              obtain ⟨x0, x1, x2, x3, x4, x5⟩ := S2.out.oX.six
              have fx3 := S2.out.oX.free 3
              have fx4 := S2.out.oX.free 4
              go_upto_region 10 with (fail)
              clear a0 a1 a2 a3 a4 a5 b0 b1 b2 b3 b4 b5 x0 x1 x2 x3 x4 x5 fx3 fx4
              have hmn : mnb = MN := by rw [← HMN.out]; simp [hA, hB]
              have hmx : mxb = MX := by rw [← HMX.out]; simp [hA, hB]
              rw [hmn, hmx] at S2
              clear HMN HMX hmn hmx HG HL hA hB hA' hB'
              obtain ⟨x0, x1, x2, x3, x4, x5⟩ := S2.out.oX.six
              obtain ⟨e0, e1, e2, e3, e4, e5⟩ := S2.out.oR.six
              have g0 := S2.out.oR.free 0
              have g1 := S2.out.oR.free 1
              have g2 := S2.out.oR.free 2
              have g3 := S2.out.oR.free 3
              have g4 := S2.out.oR.free 4
              have g5 := S2.out.oR.free 5
              go_wp2
              refine bodyPost_ret (v := .tuple #[agv (Na + Nb) (hi (za + zb)) (lo (za + zb)) MN MX (.slice T rs.length ct), .bool true]) (by simp [results, Try.results31, go_sem, e0, e1, e2, e3, e4, e5]) rfl ⟨T, ct, rfl, ?_, ?_⟩
              · obtain ⟨lo6, hi6, h1, h2, h3, -⟩ := S2.out.row
                simp only [size_set]
                have hlt2 : w.heap.size + 1 + 1 < lo6 := by omega
                exact rowAt_up ((((((h1.set _ _ hlt2).set _ _ hlt2).set _ _ hlt2).set _ _ hlt2).set _ _ hlt2).set _ _ hlt2) (by omega) h3
              · exact below_set6 S2.out.hb (by omega)
          · have hA' : (Na == 0) = false := by simp [hA]
            obtain ⟨a0, a1, a2, a3, a4, a5⟩ := S.out.oA.six
            obtain ⟨b0, b1, b2, b3, b4, b5⟩ := S.out.oB.six
            obtain ⟨x0, x1, x2, x3, x4, x5⟩ := S.out.oX.six
            have fx3 := S.out.oX.free 3
            have fx4 := S.out.oX.free 4
            go_upto_region 7 with (fail)
            clear a0 a1 a2 a3 a4 a5 b0 b1 b2 b3 b4 b5 x0 x1 x2 x3 x4 x5 fx3 fx4
            by_cases hB : Nb = 0
            · have hB' : (Nb == 0) = true := by simp [hB]
              obtain ⟨a0, a1, a2, a3, a4, a5⟩ := S.out.oA.six
              obtain ⟨b0, b1, b2, b3, b4, b5⟩ := S.out.oB.six
              obtain ⟨x0, x1, x2, x3, x4, x5⟩ := S.out.oX.six
              have fx3 := S.out.oX.free 3
              have fx4 := S.out.oX.free 4
              go_upto_region 9 with (fail)
              clear a0 a1 a2 a3 a4 a5 b0 b1 b2 b3 b4 b5 x0 x1 x2 x3 x4 x5 fx3 fx4
              have S1 := Lib.hid (S.out.min mna)
              clear S
              generalize wc.setCell ⟨X, 3, none⟩ (.int .i64 mna) = wc1 at *
              obtain ⟨a0, a1, a2, a3, a4, a5⟩ := S1.out.oA.six
              obtain ⟨b0, b1, b2, b3, b4, b5⟩ := S1.out.oB.six
              obtain ⟨x0, x1, x2, x3, x4, x5⟩ := S1.out.oX.six
              have fx3 := S1.out.oX.free 3
              have fx4 := S1.out.oX.free 4
              go_upto_region 10 with (fail)
              clear a0 a1 a2 a3 a4 a5 b0 b1 b2 b3 b4 b5 x0 x1 x2 x3 x4 x5 fx3 fx4
              have S2 := Lib.hid (S1.out.max mxa)
              clear S1
              generalize wc1.setCell ⟨X, 4, none⟩ (.int .i64 mxa) = wc2 at *
              have hmn : mna = MN := by rw [← HMN.out]; simp [hB]
              have hmx : mxa = MX := by rw [← HMX.out]; simp [hB]
              rw [hmn, hmx] at S2
              clear HMN HMX hmn hmx HG HL hA hB hA' hB'
              obtain ⟨x0, x1, x2, x3, x4, x5⟩ := S2.out.oX.six
              obtain ⟨e0, e1, e2, e3, e4, e5⟩ := S2.out.oR.six
              have g0 := S2.out.oR.free 0
              have g1 := S2.out.oR.free 1
              have g2 := S2.out.oR.free 2
              have g3 := S2.out.oR.free 3
              have g4 := S2.out.oR.free 4
              have g5 := S2.out.oR.free 5
              go_wp2
              refine bodyPost_ret (v := .tuple #[agv (Na + Nb) (hi (za + zb)) (lo (za + zb)) MN MX (.slice T rs.length ct), .bool true]) (by simp [results, Try.results31, go_sem, e0, e1, e2, e3, e4, e5]) rfl ⟨T, ct, rfl, ?_, ?_⟩
              · obtain ⟨lo6, hi6, h1, h2, h3, -⟩ := S2.out.row
                simp only [size_set]
                have hlt2 : w.heap.size + 1 + 1 < lo6 := by omega
                exact rowAt_up ((((((h1.set _ _ hlt2).set _ _ hlt2).set _ _ hlt2).set _ _ hlt2).set _ _ hlt2).set _ _ hlt2) (by omega) h3
              · exact below_set6 S2.out.hb (by omega)
            · have hB' : (Nb == 0) = false := by simp [hB]
              obtain ⟨a0, a1, a2, a3, a4, a5⟩ := S.out.oA.six
              obtain ⟨b0, b1, b2, b3, b4, b5⟩ := S.out.oB.six
              obtain ⟨x0, x1, x2, x3, x4, x5⟩ := S.out.oX.six
              have fx3 := S.out.oX.free 3
              have fx4 := S.out.oX.free 4
              go_upto_region 10 with (fail)
              clear a0 a1 a2 a3 a4 a5 b0 b1 b2 b3 b4 b5 x0 x1 x2 x3 x4 x5 fx3 fx4
              have hmn : G = MN := by rw [← HMN.out]; simp [hA, hB, HG]
              have hmx : L = MX := by rw [← HMX.out]; simp [hA, hB, HL]
              rw [hmn, hmx] at S
              clear HMN HMX hmn hmx HG HL hA hB hA' hB'
              obtain ⟨x0, x1, x2, x3, x4, x5⟩ := S.out.oX.six
              obtain ⟨e0, e1, e2, e3, e4, e5⟩ := S.out.oR.six
              have g0 := S.out.oR.free 0
              have g1 := S.out.oR.free 1
              have g2 := S.out.oR.free 2
              have g3 := S.out.oR.free 3
              have g4 := S.out.oR.free 4
              have g5 := S.out.oR.free 5
              go_wp2
              refine bodyPost_ret (v := .tuple #[agv (Na + Nb) (hi (za + zb)) (lo (za + zb)) MN MX (.slice T rs.length ct), .bool true]) (by simp [results, Try.results31, go_sem, e0, e1, e2, e3, e4, e5]) rfl ⟨T, ct, rfl, ?_, ?_⟩
              · obtain ⟨lo6, hi6, h1, h2, h3, -⟩ := S.out.row
                simp only [size_set]
                have hlt2 : w.heap.size + 1 + 1 < lo6 := by omega
                exact rowAt_up ((((((h1.set _ _ hlt2).set _ _ hlt2).set _ _ hlt2).set _ _ hlt2).set _ _ hlt2).set _ _ hlt2) (by omega) h3
              · exact below_set6 S.out.hb (by omega)
      · have hs' : decide (1000000 < p.N + q.N) = true := by simp; omega
        rw [HNO.out (fun h => hs h.2.2)]
        clear HNO hp hq hop hoq fp fq
        unfold Part.val
        unfold Part.cells at o1 o2 hb hbw
        obtain ⟨Na, za, mna, mxa, A, na, ca, ta⟩ := p
        obtain ⟨Nb, zb, mnb, mxb, B, nb, cb, tb⟩ := q
        dsimp only at HP HQ hs hs' hnp hnq o1 o2 hb hbw ⊢
        go_enter Try.func31, Try.ntmps31
        go_wp2_with fail
        refine (HP.out _ hb).mono ?_
        rintro e w2 ⟨rfl, hb2⟩
        replace o1 := o1.grow hb2
        replace o2 := o2.grow hb2
        replace o3 := o3.grow hb2
        replace hb := below_trans hb hb2
        clear hb2
        obtain ⟨b0, b1, b2, b3, b4, b5⟩ := o2.six
        go_wp2_with fail
        clear b0 b1 b2 b3 b4 b5
        refine (HQ.out _ hb).mono ?_
        rintro e w3 ⟨rfl, hb3⟩
        replace o1 := o1.grow hb3
        replace o2 := o2.grow hb3
        replace o3 := o3.grow hb3
        replace hb := below_trans hb hb3
        clear hb3
        obtain ⟨a0, a1, a2, a3, a4, a5⟩ := o1.six
        obtain ⟨b0, b1, b2, b3, b4, b5⟩ := o2.six
        obtain ⟨e0, e1, e2, e3, e4, e5⟩ := o3.six
        have g0 := o3.free 0
        have g1 := o3.free 1
        have g2 := o3.free 2
        have g3 := o3.free 3
        have g4 := o3.free 4
        have g5 := o3.free 5
        have HB := Lib.hid hb
        clear o1 o2 o3 hb hbw
        go_wp2
        refine bodyPost_ret (v := .tuple #[agv 0 0 0 0 0 (.slice none 0 0), .bool false]) (by simp [results, Try.results31, go_sem, e0, e1, e2, e3, e4, e5]) rfl ⟨none, 0, rfl, ⟨⟨rfl, .inl ⟨rfl, rfl⟩⟩, fun k h => by simp [Value.ownBlock] at h⟩, ?_⟩
        exact below_set6 HB.out (by omega)
    · rw [HNO.out (fun h => hoq h.2.1)]
      replace HQ := Lib.hid (fun W hb => as_bool (tf_no hoq).symm (HQ.out W hb))
      clear HNO hp hq hop hoq fp fq
      unfold Part.val
      unfold Part.cells at o1 o2 hb hbw
      obtain ⟨Na, za, mna, mxa, A, na, ca, ta⟩ := p
      obtain ⟨Nb, zb, mnb, mxb, B, nb, cb, tb⟩ := q
      dsimp only at HP HQ hnp o1 o2 hb hbw ⊢
      go_enter Try.func31, Try.ntmps31
      go_wp2_with fail
      refine (HP.out _ hb).mono ?_
      rintro e w2 ⟨rfl, hb2⟩
      replace o1 := o1.grow hb2
      replace o2 := o2.grow hb2
      replace o3 := o3.grow hb2
      replace hb := below_trans hb hb2
      clear hb2
      obtain ⟨b0, b1, b2, b3, b4, b5⟩ := o2.six
      go_wp2_with fail
      clear b0 b1 b2 b3 b4 b5
      refine (HQ.out _ hb).mono ?_
      rintro e w3 ⟨rfl, hb3⟩
      replace o1 := o1.grow hb3
      replace o2 := o2.grow hb3
      replace o3 := o3.grow hb3
      replace hb := below_trans hb hb3
      clear hb3
      obtain ⟨e0, e1, e2, e3, e4, e5⟩ := o3.six
      have g0 := o3.free 0
      have g1 := o3.free 1
      have g2 := o3.free 2
      have g3 := o3.free 3
      have g4 := o3.free 4
      have g5 := o3.free 5
      have HB := Lib.hid hb
      clear o1 o2 o3 hb hbw
      go_wp2
      refine bodyPost_ret (v := .tuple #[agv 0 0 0 0 0 (.slice none 0 0), .bool false]) (by simp [results, Try.results31, go_sem, e0, e1, e2, e3, e4, e5]) rfl ⟨none, 0, rfl, ⟨⟨rfl, .inl ⟨rfl, rfl⟩⟩, fun k h => by simp [Value.ownBlock] at h⟩, ?_⟩
      exact below_set6 HB.out (by omega)
  · rw [HNO.out (fun h => hop h.1)]
    replace HP := Lib.hid (fun W hb => as_bool (tf_no hop).symm (HP.out W hb))
    clear HNO hp hq hop fp fq
    unfold Part.val
    unfold Part.cells at o1 o2 hb hbw
    obtain ⟨Na, za, mna, mxa, A, na, ca, ta⟩ := p
    obtain ⟨Nb, zb, mnb, mxb, B, nb, cb, tb⟩ := q
    dsimp only at HP o1 o2 hb hbw ⊢
    go_enter Try.func31, Try.ntmps31
    go_wp2_with fail
    refine (HP.out _ hb).mono ?_
    rintro e w2 ⟨rfl, hb2⟩
    replace o1 := o1.grow hb2
    replace o2 := o2.grow hb2
    replace o3 := o3.grow hb2
    replace hb := below_trans hb hb2
    clear hb2
    obtain ⟨e0, e1, e2, e3, e4, e5⟩ := o3.six
    have g0 := o3.free 0
    have g1 := o3.free 1
    have g2 := o3.free 2
    have g3 := o3.free 3
    have g4 := o3.free 4
    have g5 := o3.free 5
    have HB := Lib.hid hb
    clear o1 o2 o3 hb hbw
    go_wp2
    refine bodyPost_ret (v := .tuple #[agv 0 0 0 0 0 (.slice none 0 0), .bool false]) (by simp [results, Try.results31, go_sem, e0, e1, e2, e3, e4, e5]) rfl ⟨none, 0, rfl, ⟨⟨rfl, .inl ⟨rfl, rfl⟩⟩, fun k h => by simp [Value.ownBlock] at h⟩, ?_⟩
    exact below_set6 HB.out (by omega)
end Go.Proofs.Ytkaghdkehkjdoaa
