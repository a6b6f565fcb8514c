/-
  What joined and AggJoin of the program return.
-/
import Derived.Test.YtkaghdkehkjdoaaAggOkI
namespace Go.Proofs.Ytkaghdkehkjdoaa
open Go.RowKit

/-- parts of a join: how many, their sum, the smallest, the rows' places and the rows -/
structure Part where
  N : Int
  z : Int
  mn : Int
  mx : Int
  A : Option Addr
  n : Nat
  c : Nat
  t : List Int
def Part.cells (p : Part) : List Value := agc p.N (hi p.z) (lo p.z) p.mn p.mx (.slice p.A p.n p.c)
/-- a part that can be joined in -/
structure Part.Fit (p : Part) : Prop where
  hz : p.t.length = p.n
  hn : p.n ≤ 1048576
  h0 : 0 ≤ p.N
  h1 : p.N ≤ 1000000
/-- a tally: how many, the sum, the smallest, the greatest -/
structure Ta where
  N : Int
  z : Int
  sm : Int
  l : List Int
noncomputable def Ta.with (s : Ta) (p : Part) : Ta := if 0 < p.N then ⟨s.N + p.N, s.z + p.z, smNew s.N s.sm p.mn, p.t.foldl put4 s.l⟩ else s
theorem Ta.with_pos {s : Ta} {p : Part} (h : 0 < p.N) : s.with p = ⟨s.N + p.N, s.z + p.z, smNew s.N s.sm p.mn, p.t.foldl put4 s.l⟩ := by unfold Ta.with; rw [if_pos h]
theorem Ta.with_neg {s : Ta} {p : Part} (h : ¬ 0 < p.N) : s.with p = s := by unfold Ta.with; rw [if_neg h]
def Ta.cells (s : Ta) : List Value := tc s.l s.N (hi s.z) (lo s.z) s.sm
def Ta.zero : Ta := ⟨0, 0, 0, []⟩
noncomputable def tally2 (p q : Part) (k : Nat) : Ta := if k = 0 then Ta.zero else if k = 1 then Ta.zero.with p else (Ta.zero.with p).with q
theorem tally2_next {p q : Part} {k : Nat} (hk : k < 2) : tally2 p q (k + 1) = (tally2 p q k).with (if k = 0 then p else q) := by
  obtain rfl | rfl : k = 0 ∨ k = 1 := by omega
  · rfl
  · rfl
theorem Ta.with_fit {s : Ta} {p : Part} (h : s.l.length ≤ 4 ∧ Desc s.l) : (s.with p).l.length ≤ 4 ∧ Desc (s.with p).l := by
  by_cases hp : 0 < p.N
  · rw [Ta.with_pos hp]; exact ⟨fold_le h.1 _, fold_desc h.2 _⟩
  · rw [Ta.with_neg hp]; exact h
theorem tally2_fit {p q : Part} {k : Nat} : (tally2 p q k).l.length ≤ 4 ∧ Desc (tally2 p q k).l := by
  have h0 : Ta.zero.l.length ≤ 4 ∧ Desc Ta.zero.l := ⟨by simp [Ta.zero], List.Pairwise.nil⟩
  unfold tally2
  split
  · exact h0
  split
  · exact Ta.with_fit h0
  · exact Ta.with_fit (Ta.with_fit h0)
theorem tally2_num {p q : Part} {k : Nat} (hp : p.Fit) (hk : k < 2) : 0 ≤ (tally2 p q k).N ∧ (tally2 p q k).N ≤ 1000000 := by
  obtain rfl | rfl : k = 0 ∨ k = 1 := by omega
  · exact ⟨Int.le_refl _, by show (0 : Int) ≤ _; omega⟩
  · show 0 ≤ (Ta.zero.with p).N ∧ (Ta.zero.with p).N ≤ _
    have h0 := hp.h0
    have h1 := hp.h1
    by_cases h : 0 < p.N
    · rw [Ta.with_pos h]; show 0 ≤ 0 + p.N ∧ 0 + p.N ≤ _; omega
    · rw [Ta.with_neg h]; exact ⟨Int.le_refl _, by show (0 : Int) ≤ _; omega⟩

set_option maxRecDepth 100000 in
set_option maxHeartbeats 4000000 in
theorem implJoined_any (p q : Part) (g : Nat) (w : World) (hg : Own w g 31 (p.cells ++ q.cells)) (fp : p.Fit) (fq : q.Fit) (rp : Rd w p.A (iz p.t)) (rq : Rd w q.A (iz q.t)) :
    Calls Try.prog 41 #[.slice (some ⟨g, 0, none⟩) 2 2] w (AggRes (tally2 p q 2).N (tally2 p q 2).z (tally2 p q 2).sm (iat (tally2 p q 2).l 0) (tally2 p q 2).l w) := by
  have hpt : ∀ k, k < 2 → ∃ P : Part, P.Fit ∧ Rd w P.A (iz P.t) ∧ tally2 p q (k + 1) = (tally2 p q k).with P ∧ ∀ j, j < 6 → w.cell? ⟨g, k * 6 + j, none⟩ = P.cells[j]? := by
    intro k hk
    obtain rfl | rfl : k = 0 ∨ k = 1 := by omega
    · refine ⟨p, fp, rp, rfl, fun j hj => ?_⟩
      rw [show 0 * 6 + j = j by omega, hg.cell j, List.getElem?_append_left (by simp [Part.cells]; omega)]
    · refine ⟨q, fq, rq, rfl, fun j hj => ?_⟩
      rw [show 1 * 6 + j = 6 + j by omega, hg.cell (6 + j), List.getElem?_append_right (by simp [Part.cells])]
      congr 1
      simp [Part.cells]
  have HPT := Lib.hid hpt
  have hglt := hg.lt
  clear hpt hg rp rq
  have HNUM := Lib.hid (fun k (hk : k < 2) => tally2_num (q := q) fp hk)
  have HFIT := Lib.hid (fun k => tally2_fit (p := p) (q := q) (k := k))
  have HZ0 := Lib.hid (show tally2 p q 0 = Ta.zero from rfl)
  generalize tally2 p q = T at *
  clear fp fq
  go_enter Try.func41, Try.ntmps41
  go_wp2_with fail
  go_loopw [8] (fun s8 wr => ∃ k : Nat, k ≤ 2 ∧ s8 = .int .i64 k ∧ Own wr w.heap.size 31 (agc 0 0 0 0 0 (.slice none 0 0)) ∧ Own wr (w.heap.size + 1) 58 (T k).cells ∧ Below w.heap.size w wr) (fun s8 _ => 2 - (intOf s8).toNat)
  case atStart =>
    refine ⟨0, Nat.zero_le _, rfl, (Own.new w 31 (agc 0 0 0 0 0 (.slice none 0 0))).alloc _, ?_, below2 _ _ _⟩
    rw [HZ0.out]
    exact new_second w _ 58 (tc [] 0 0 0 0)
  case round =>
    obtain ⟨k, hk, rfl, oB, oT, hbel⟩ := hrel
    by_cases hlt : k < 2
    · obtain ⟨P, hP, rP, hnext, hc⟩ := HPT.out k hlt
      have c0 := ((below_trans (Below.refl _ _) hbel).cell (p := ⟨g, k * 6 + 0, none⟩) hglt).trans (hc 0 (by omega))
      have c1 := (hbel.cell (p := ⟨g, k * 6 + 1, none⟩) hglt).trans (hc 1 (by omega))
      have c2 := (hbel.cell (p := ⟨g, k * 6 + 2, none⟩) hglt).trans (hc 2 (by omega))
      have c3 := (hbel.cell (p := ⟨g, k * 6 + 3, none⟩) hglt).trans (hc 3 (by omega))
      have c4 := (hbel.cell (p := ⟨g, k * 6 + 4, none⟩) hglt).trans (hc 4 (by omega))
      have c5 := (hbel.cell (p := ⟨g, k * 6 + 5, none⟩) hglt).trans (hc 5 (by omega))
      simp only [Part.cells, List.getElem?_cons_zero, List.getElem?_cons_succ, Nat.add_zero] at c0 c1 c2 c3 c4 c5
      have hlt' : (k : Int) < 2 := by omega
      have HN := Lib.hid hnext
      have HPP := Lib.hid hP
      have HRP := Lib.hid (fun W (h : Below w.heap.size w W) => rP.below h)
      have HTF := Lib.hid (And.intro (HFIT.out k) (HNUM.out k hlt))
      clear hc hnext hP rP
      by_cases hp : 0 < P.N
      · have HN' := Lib.hid (HN.out.trans (Ta.with_pos hp))
        have hp' : decide (0 < P.N) = true := by simp [hp]
        clear HN
        go_wp2_with fail
        have hlt2 := oT.lt
        refine (include_any (w.heap.size + 1) (T k).l (T k).N (T k).z (T k).sm P.N P.z P.mn _ _ P.A P.n P.c P.t _ (oT.alloc _) HTF.out.1.1 HTF.out.1.2
          ((HRP.out _ hbel).below (below_alloc wr _)) HPP.out.hz HPP.out.hn (fun hl ad e => by
            obtain ⟨ad', e', hb, -⟩ := HRP.out w (Below.refl _ _) 0 _ (iz_at hl)
            rw [e] at e'
            cases e'
            omega) HTF.out.2 ⟨HPP.out.h0, HPP.out.h1⟩ rfl rfl).mono ?_
        rintro e w3 ⟨rfl, oT3, hg3⟩
        have oB3 := own_kept (oB.alloc (.cells P.cells.toArray 31)) hg3 (fun e => by have := Option.some.inj e; omega)
        have hbel3 := below_grown (hbel.alloc (by omega) (.cells P.cells.toArray 31)) hg3 (by omega) (by simp; omega)
        clear oT oB hbel hg3 c0 c1 c2 c3 c4 c5
        go_wp2_with fail
        go_roundw
        case rel => exact ⟨k + 1, by omega, by go_num, oB3, by rw [HN'.out]; exact oT3, hbel3⟩
        case measure => simp [intOf]; omega
      · have HN' := Lib.hid (HN.out.trans (Ta.with_neg hp))
        have hp' : decide (0 < P.N) = false := by simp; omega
        clear HN
        go_wp2_with fail
        go_roundw
        case rel => exact ⟨k + 1, by omega, by go_num, oB.alloc _, by rw [HN'.out]; exact oT.alloc _, hbel.alloc (by have := hbel.size; omega) _⟩
        case measure => simp [intOf]; omega
    · obtain rfl : k = 2 := by omega
      have HLD := Lib.hid (HFIT.out 2).1
      unfold Ta.cells at oT
      generalize T 2 = Z at *
      obtain ⟨N, z, sm, l⟩ := Z
      dsimp only at oT HLD ⊢
      go_wp2_with fail
      refine (agg_any (w.heap.size + 1) l N z sm _ oT HLD.out).mono ?_
      rintro e w2 ⟨A2, c2, rfl, r2, hb2⟩
      have oB2 := oB.grow hb2
      have hlt2 := oB.lt
      obtain ⟨e0, e1, e2, e3, e4, e5⟩ := oB2.six
      have g0 := oB2.free 0
      have g1 := oB2.free 1
      have g2 := oB2.free 2
      have g3 := oB2.free 3
      have g4 := oB2.free 4
      have g5 := oB2.free 5
      have HR := Lib.hid r2
      have HB := Lib.hid (below_trans hbel hb2)
      clear oT oB oB2 r2 hb2 hbel
      go_wp2
      refine bodyPost_ret (v := agv N (hi z) (lo z) sm (iat l 0) (.slice A2 l.length c2)) (by simp [results, Try.results41, go_sem, e0, e1, e2, e3, e4, e5]) rfl ⟨A2, c2, rfl, ?_, ?_⟩
      · simp only [size_set]
        exact ((((((HR.out.set _ _ hlt2).set _ _ hlt2).set _ _ hlt2).set _ _ hlt2).set _ _ hlt2).set _ _ hlt2).base (by omega)
      · exact (((((HB.out.setCell (Nat.le_refl _) _).setCell (Nat.le_refl _) _).setCell (Nat.le_refl _) _).setCell (Nat.le_refl _) _).setCell (Nat.le_refl _) _).setCell (Nat.le_refl _) _

/-- which two can be joined -/
def Part.ok (p : Part) : Prop := aggOk p.N p.z p.mn p.mx p.t
def joinOk (p q : Part) : Prop := p.ok ∧ q.ok ∧ p.N + q.N ≤ 1000000
/-- what comes of it -/
noncomputable def joinTo (p q : Part) : Ta := by classical exact if joinOk p q then tally2 p q 2 else Ta.zero
theorem joinTo_pos {p q : Part} (h : joinOk p q) : joinTo p q = tally2 p q 2 := by unfold joinTo; rw [if_pos h]
theorem joinTo_neg {p q : Part} (h : ¬ joinOk p q) : joinTo p q = Ta.zero := by unfold joinTo; rw [if_neg h]
theorem aggOk_num {N z mn mx : Int} {top : List Int} (h : aggOk N z mn mx top) : 0 ≤ N ∧ N ≤ 1000000 := by
  by_cases h0 : N = 0
  · omega
  · have := (aggOk_some h0).1 h; omega
/-- an aggregate and whether there is one, in memory of its own -/
def JoinRes (m : Nat) (N h lw mn mx : Int) (rs : List Int) (b : Bool) (w : World) (e : Ending) (w' : World) : Prop :=
  ∃ A c, e = .returned (.tuple #[agv N h lw mn mx (.slice A m c), .bool b]) ∧ RowAt w.heap.size w'.heap.size w' 3 1 (.slice A m c) m (iz rs) ∧ Below w.heap.size w w'
/-- what comes of a join, as it is returned -/
def JoinTo (p q : Part) (w : World) : Ending → World → Prop :=
  JoinRes (joinTo p q).l.length (joinTo p q).N (hi (joinTo p q).z) (lo (joinTo p q).z) (joinTo p q).sm (iat (joinTo p q).l 0) (joinTo p q).l (tf (joinOk p q)) w

/-- an argument that can be read -/
structure Part.In (p : Part) (w : World) : Prop where
  rd : Rd w p.A (iz p.t)
  hz : p.t.length = p.n
  hn : p.n ≤ 1048576
  h64 : ∀ x ∈ p.t, I64 x
  hm : I64 p.mn
  hw : Wr p.z
theorem Part.In.below {p : Part} {w W : World} (h : p.In w) (hb : Below w.heap.size w W) : p.In W := ⟨h.rd.below hb, h.hz, h.hn, h.h64, h.hm, h.hw⟩
theorem Part.In.fit {p : Part} {w : World} (h : p.In w) (ho : p.ok) : p.Fit := ⟨h.hz, h.hn, (aggOk_num ho).1, (aggOk_num ho).2⟩
def Part.val (p : Part) : Value := agv p.N (hi p.z) (lo p.z) p.mn p.mx (.slice p.A p.n p.c)
theorem Part.okI (p : Part) (w : World) (h : p.In w) : Calls Try.prog 18 #[agv p.N (hi p.z) (lo p.z) p.mn p.mx (.slice p.A p.n p.c)] w fun e w' => e = .returned (.bool (tf p.ok)) ∧ Below w.heap.size w w' :=
  implAggOk_any p.N p.z p.mn p.mx _ _ p.A p.n p.c p.t w h.rd h.hz h.hn h.h64 h.hm h.hw rfl rfl

set_option maxRecDepth 100000 in
set_option maxHeartbeats 4000000 in
theorem implAggJoin_any (p q : Part) (w : World) (hp : p.In w) (hq : q.In w) : Calls Try.prog 15 #[p.val, q.val] w (JoinTo p q w) := by
  have HP := Lib.hid (fun W (hb : Below w.heap.size w W) => p.okI W (hp.below hb))
  have HQ := Lib.hid (fun W (hb : Below w.heap.size w W) => q.okI W (hq.below hb))
  have HNO := Lib.hid (show ¬ joinOk p q → JoinTo p q w = JoinRes 0 0 0 0 0 0 [] false w from fun h => by unfold JoinTo; rw [joinTo_neg h, ← tf_no h]; rfl)
  obtain ⟨o1, o2, o3, hb, hbw⟩ := box_three (w := w) (c1 := p.cells) (c2 := q.cells) (c3 := agc 0 0 0 0 0 (.slice none 0 0)) (t1 := 31) (t2 := 31) (t3 := 31)
  by_cases hop : p.ok
  · have hnp := aggOk_num hop
    replace HP := Lib.hid (fun W hb => as_bool (tf_yes hop).symm (HP.out W hb))
    by_cases hoq : q.ok
    · have hnq := aggOk_num hoq
      replace HQ := Lib.hid (fun W hb => as_bool (tf_yes hoq).symm (HQ.out W hb))
      by_cases hs : p.N + q.N ≤ 1000000
      · have HR := Lib.hid (show JoinTo p q w = JoinRes (tally2 p q 2).l.length (tally2 p q 2).N (hi (tally2 p q 2).z) (lo (tally2 p q 2).z) (tally2 p q 2).sm (iat (tally2 p q 2).l 0) (tally2 p q 2).l true w by
          have h : joinOk p q := ⟨hop, hoq, hs⟩
          unfold JoinTo; rw [joinTo_pos h, ← tf_yes h])
        have HJ := Lib.hid (fun g W (hb : Below w.heap.size w W) (hg : Own W g 31 (p.cells ++ q.cells)) => implJoined_any p q g W hg (hp.fit hop) (hq.fit hoq) (hp.below hb).rd (hq.below hb).rd)
        rw [HR.out]
        clear HR HNO hp hq hop hoq
        have hs' : decide (1000000 < p.N + q.N) = false := by simp; omega
        generalize tally2 p q 2 = Z at *
        unfold Part.val
        unfold Part.cells at HJ o1 o2 hb hbw
        obtain ⟨Na, za, mna, mxa, A, na, ca, ta⟩ := p
        obtain ⟨Nb, zb, mnb, mxb, B, nb, cb, tb⟩ := q
        obtain ⟨N, z, sm, l⟩ := Z
        dsimp only at HJ HP HQ hs hs' hnp hnq o1 o2 hb hbw ⊢
        go_enter Try.func15, Try.ntmps15
        go_wp2_with fail
        refine (HP.out _ hb).mono ?_
        rintro e w2 ⟨rfl, hb2⟩
        replace o1 := o1.grow hb2
        replace o2 := o2.grow hb2
        replace o3 := o3.grow hb2
        replace hb := below_trans hb hb2
        clear hb2
        obtain ⟨b0, b1, b2, b3, b4, b5⟩ := o2.six
        go_wp2_with fail
        clear b0 b1 b2 b3 b4 b5
        refine (HQ.out _ hb).mono ?_
        rintro e w3 ⟨rfl, hb3⟩
        replace o1 := o1.grow hb3
        replace o2 := o2.grow hb3
        replace o3 := o3.grow hb3
        replace hb := below_trans hb hb3
        clear hb3
        obtain ⟨a0, a1, a2, a3, a4, a5⟩ := o1.six
        obtain ⟨b0, b1, b2, b3, b4, b5⟩ := o2.six
        go_wp2_with fail
        have g := Own.new w3 31 (agc Na (hi za) (lo za) mna mxa (.slice A na ca) ++ agc Nb (hi zb) (lo zb) mnb mxb (.slice B nb cb))
        refine (HJ.out _ _ (below_trans hb (below_alloc w3 _)) g).mono ?_
        rintro e w4 ⟨A2, c2, rfl, r2, hb4⟩
        have z3 := hb.size
        have z2 := o3.lt
        rw [World.size_alloc] at r2
        replace o3 := (o3.alloc _).grow hb4
        replace hb := below_trans (below_trans hb (below_alloc w3 _)) hb4
        clear a0 a1 a2 a3 a4 a5 b0 b1 b2 b3 b4 b5 hb4 o1 o2 g
        obtain ⟨e0, e1, e2, e3, e4, e5⟩ := o3.six
        have g0 := o3.free 0
        have g1 := o3.free 1
        have g2 := o3.free 2
        have g3 := o3.free 3
        have g4 := o3.free 4
        have g5 := o3.free 5
        have HB := Lib.hid hb
        have HR := Lib.hid r2
        clear o3 hb hbw r2
        go_wp2
        refine bodyPost_ret (v := .tuple #[agv N (hi z) (lo z) sm (iat l 0) (.slice A2 l.length c2), .bool true]) (by simp [results, Try.results15, go_sem, e0, e1, e2, e3, e4, e5]) rfl ⟨A2, c2, rfl, ?_, ?_⟩
        · simp only [size_set]
          have hlt2 : w.heap.size + 1 + 1 < w3.heap.size + 1 := by omega
          exact ((((((HR.out.set _ _ hlt2).set _ _ hlt2).set _ _ hlt2).set _ _ hlt2).set _ _ hlt2).set _ _ hlt2).base (by omega)
        · exact (((((HB.out.setCell (by dsimp only; omega) _).setCell (by dsimp only; omega) _).setCell (by dsimp only; omega) _).setCell (by dsimp only; omega) _).setCell (by dsimp only; omega) _).setCell (by dsimp only; omega) _
      · have hs' : decide (1000000 < p.N + q.N) = true := by simp; omega
        rw [HNO.out (fun h => hs h.2.2)]
        clear HNO hp hq hop hoq
        unfold Part.val
        unfold Part.cells at o1 o2 hb hbw
        obtain ⟨Na, za, mna, mxa, A, na, ca, ta⟩ := p
        obtain ⟨Nb, zb, mnb, mxb, B, nb, cb, tb⟩ := q
        dsimp only at HP HQ hs hs' hnp hnq o1 o2 hb hbw ⊢
        go_enter Try.func15, Try.ntmps15
        go_wp2_with fail
        refine (HP.out _ hb).mono ?_
        rintro e w2 ⟨rfl, hb2⟩
        replace o1 := o1.grow hb2
        replace o2 := o2.grow hb2
        replace o3 := o3.grow hb2
        replace hb := below_trans hb hb2
        clear hb2
        obtain ⟨b0, b1, b2, b3, b4, b5⟩ := o2.six
        go_wp2_with fail
        clear b0 b1 b2 b3 b4 b5
        refine (HQ.out _ hb).mono ?_
        rintro e w3 ⟨rfl, hb3⟩
        replace o1 := o1.grow hb3
        replace o2 := o2.grow hb3
        replace o3 := o3.grow hb3
        replace hb := below_trans hb hb3
        clear hb3
        obtain ⟨a0, a1, a2, a3, a4, a5⟩ := o1.six
        obtain ⟨b0, b1, b2, b3, b4, b5⟩ := o2.six
        obtain ⟨e0, e1, e2, e3, e4, e5⟩ := o3.six
        have g0 := o3.free 0
        have g1 := o3.free 1
        have g2 := o3.free 2
        have g3 := o3.free 3
        have g4 := o3.free 4
        have g5 := o3.free 5
        have HB := Lib.hid hb
        clear o1 o2 o3 hb hbw
        go_wp2
        refine bodyPost_ret (v := .tuple #[agv 0 0 0 0 0 (.slice none 0 0), .bool false]) (by simp [results, Try.results15, go_sem, e0, e1, e2, e3, e4, e5]) rfl ⟨none, 0, rfl, ⟨⟨rfl, .inl ⟨rfl, rfl⟩⟩, fun k h => by simp [Value.ownBlock] at h⟩, ?_⟩
        exact (((((HB.out.setCell (by dsimp only; omega) _).setCell (by dsimp only; omega) _).setCell (by dsimp only; omega) _).setCell (by dsimp only; omega) _).setCell (by dsimp only; omega) _).setCell (by dsimp only; omega) _
    · rw [HNO.out (fun h => hoq h.2.1)]
      replace HQ := Lib.hid (fun W hb => as_bool (tf_no hoq).symm (HQ.out W hb))
      clear HNO hp hq hop hoq
      unfold Part.val
      unfold Part.cells at o1 o2 hb hbw
      obtain ⟨Na, za, mna, mxa, A, na, ca, ta⟩ := p
      obtain ⟨Nb, zb, mnb, mxb, B, nb, cb, tb⟩ := q
      dsimp only at HP HQ hnp o1 o2 hb hbw ⊢
      go_enter Try.func15, Try.ntmps15
      go_wp2_with fail
      refine (HP.out _ hb).mono ?_
      rintro e w2 ⟨rfl, hb2⟩
      replace o1 := o1.grow hb2
      replace o2 := o2.grow hb2
      replace o3 := o3.grow hb2
      replace hb := below_trans hb hb2
      clear hb2
      obtain ⟨b0, b1, b2, b3, b4, b5⟩ := o2.six
      go_wp2_with fail
      clear b0 b1 b2 b3 b4 b5
      refine (HQ.out _ hb).mono ?_
      rintro e w3 ⟨rfl, hb3⟩
      replace o1 := o1.grow hb3
      replace o2 := o2.grow hb3
      replace o3 := o3.grow hb3
      replace hb := below_trans hb hb3
      clear hb3
      obtain ⟨e0, e1, e2, e3, e4, e5⟩ := o3.six
      have g0 := o3.free 0
      have g1 := o3.free 1
      have g2 := o3.free 2
      have g3 := o3.free 3
      have g4 := o3.free 4
      have g5 := o3.free 5
      have HB := Lib.hid hb
      clear o1 o2 o3 hb hbw
      go_wp2
      refine bodyPost_ret (v := .tuple #[agv 0 0 0 0 0 (.slice none 0 0), .bool false]) (by simp [results, Try.results15, go_sem, e0, e1, e2, e3, e4, e5]) rfl ⟨none, 0, rfl, ⟨⟨rfl, .inl ⟨rfl, rfl⟩⟩, fun k h => by simp [Value.ownBlock] at h⟩, ?_⟩
      exact (((((HB.out.setCell (by dsimp only; omega) _).setCell (by dsimp only; omega) _).setCell (by dsimp only; omega) _).setCell (by dsimp only; omega) _).setCell (by dsimp only; omega) _).setCell (by dsimp only; omega) _
  · rw [HNO.out (fun h => hop h.1)]
    replace HP := Lib.hid (fun W hb => as_bool (tf_no hop).symm (HP.out W hb))
    clear HNO hp hq hop
    unfold Part.val
    unfold Part.cells at o1 o2 hb hbw
    obtain ⟨Na, za, mna, mxa, A, na, ca, ta⟩ := p
    obtain ⟨Nb, zb, mnb, mxb, B, nb, cb, tb⟩ := q
    dsimp only at HP o1 o2 hb hbw ⊢
    go_enter Try.func15, Try.ntmps15
    go_wp2_with fail
    refine (HP.out _ hb).mono ?_
    rintro e w2 ⟨rfl, hb2⟩
    replace o1 := o1.grow hb2
    replace o2 := o2.grow hb2
    replace o3 := o3.grow hb2
    replace hb := below_trans hb hb2
    clear hb2
    obtain ⟨e0, e1, e2, e3, e4, e5⟩ := o3.six
    have g0 := o3.free 0
    have g1 := o3.free 1
    have g2 := o3.free 2
    have g3 := o3.free 3
    have g4 := o3.free 4
    have g5 := o3.free 5
    have HB := Lib.hid hb
    clear o1 o2 o3 hb hbw
    go_wp2
    refine bodyPost_ret (v := .tuple #[agv 0 0 0 0 0 (.slice none 0 0), .bool false]) (by simp [results, Try.results15, go_sem, e0, e1, e2, e3, e4, e5]) rfl ⟨none, 0, rfl, ⟨⟨rfl, .inl ⟨rfl, rfl⟩⟩, fun k h => by simp [Value.ownBlock] at h⟩, ?_⟩
    exact (((((HB.out.setCell (by dsimp only; omega) _).setCell (by dsimp only; omega) _).setCell (by dsimp only; omega) _).setCell (by dsimp only; omega) _).setCell (by dsimp only; omega) _).setCell (by dsimp only; omega) _
end Go.Proofs.Ytkaghdkehkjdoaa
