import Derived.Test.YtlmlckgnmkjkdaaJoinC
import Derived.Test.YtlmlckgnmkjkdaaJoinD
import Derived.Test.YtlmlckgnmkjkdaaKitAgg
import Derived.Test.YtlmlckgnmkjkdaaPairs
import Derived.Test.YtlmlckgnmkjkdaaOnly
import Derived.Test.YtlmlckgnmkjkdaaKitWin
import Derived.Test.YtlmlckgnmkjkdaaRegRest

/-
  PaneOf, the model's and the program's: what they return. WRITTEN BY tools/genpof.py.
-/
namespace Go.Proofs.Ytlmlckgnmkjkdaa
open Go.RowKit

theorem boxes_four {w : World} {c1 c2 c3 c4 : List Value} {t1 t2 t3 t4 : TypeId} :
    Own ((((w.alloc (.cells c1.toArray t1)).alloc (.cells c2.toArray t2)).alloc (.cells c3.toArray t3)).alloc (.cells c4.toArray t4)) w.heap.size t1 c1 ∧
    Own ((((w.alloc (.cells c1.toArray t1)).alloc (.cells c2.toArray t2)).alloc (.cells c3.toArray t3)).alloc (.cells c4.toArray t4)) (w.heap.size + 1) t2 c2 ∧
    Own ((((w.alloc (.cells c1.toArray t1)).alloc (.cells c2.toArray t2)).alloc (.cells c3.toArray t3)).alloc (.cells c4.toArray t4)) (w.heap.size + 1 + 1) t3 c3 ∧
    Own ((((w.alloc (.cells c1.toArray t1)).alloc (.cells c2.toArray t2)).alloc (.cells c3.toArray t3)).alloc (.cells c4.toArray t4)) (w.heap.size + 1 + 1 + 1) t4 c4 ∧
    Below w.heap.size w ((((w.alloc (.cells c1.toArray t1)).alloc (.cells c2.toArray t2)).alloc (.cells c3.toArray t3)).alloc (.cells c4.toArray t4)) ∧
    ((((w.alloc (.cells c1.toArray t1)).alloc (.cells c2.toArray t2)).alloc (.cells c3.toArray t3)).alloc (.cells c4.toArray t4)).heap.size = w.heap.size + 4 := by
  obtain ⟨h1, h2, h3, h4, h5⟩ := box_three (w := w) (c1 := c1) (c2 := c2) (c3 := c3) (t1 := t1) (t2 := t2) (t3 := t3)
  refine ⟨h1.alloc _, h2.alloc _, h3.alloc _, ?_, below_trans h4 (below_alloc _ _), by simp⟩
  have := Own.new (((w.alloc (.cells c1.toArray t1)).alloc (.cells c2.toArray t2)).alloc (.cells c3.toArray t3)) t4 c4
  simpa using this

/-- the pane and the answer; L and ov are what AggDone answers -/
def pofOk (id : Int) (fs ms : List (Int × Int)) (kd s st kq kk key f t lab N z mn mx : Int) (top L : List Int) (ov : Bool) : Prop :=
  queryOk fs ms kd s st kq kk ∧ aggOk N z mn mx top ∧ N ≠ 0 ∧ paneOk id key f t lab N L.length ov
structure PofIs (ok : Prop) (id key f t lab N : Int) (L : List Int) (ov : Bool) (q k f' t' l n : Int) (R : List Int) (o b : Bool) : Prop where
  yes : ok → (id = q ∧ key = k ∧ f = f' ∧ t = t' ∧ lab = l ∧ N = n) ∧ L = R ∧ ov = o ∧ b = true
  no : ¬ ok → (q = 0 ∧ k = 0 ∧ f' = 0 ∧ t' = 0 ∧ l = 0 ∧ n = 0) ∧ R = [] ∧ o = false ∧ b = false
theorem pof_some (ok : Prop) (id key f t lab N : Int) (L : List Int) (ov : Bool) : ∃ q k f' t' l n R o b, PofIs ok id key f t lab N L ov q k f' t' l n R o b := by
  by_cases h : ok
  · exact ⟨id, key, f, t, lab, N, L, ov, true, fun _ => ⟨⟨rfl, rfl, rfl, rfl, rfl, rfl⟩, rfl, rfl, rfl⟩, fun h' => absurd h h'⟩
  · exact ⟨0, 0, 0, 0, 0, 0, [], false, false, fun h' => absurd h' h, fun _ => ⟨⟨rfl, rfl, rfl, rfl, rfl, rfl⟩, rfl, rfl, rfl⟩⟩
/-- A call that hands back a pane and a truth value, the pane's numbers in a row of its own. -/
def PaneRes (q k f t l n : Int) (R : List Int) (m : Nat) (o b : Bool) (w : World) (e : Ending) (w' : World) : Prop :=
  ∃ A c, e = .returned (.tuple #[pav q k f t l n (.slice A m c) o, .bool b]) ∧ RowAt w.heap.size w'.heap.size w' 3 1 (.slice A m c) m (iz R) ∧ Below w.heap.size w w'
theorem done_pane {q k N z mn mx me : Int} {top L : List Int} {b : Bool} (h : DoneIs q k N z mn mx me top L b) {id key f t lab : Int} (hp : paneOk id key f t lab N L.length b) : aggOk N z mn mx top ∧ N ≠ 0 := by
  by_cases hd : doneOk q k N z mn mx top
  · exact ⟨hd.2.2, hd.2.1⟩
  · obtain ⟨rfl, rfl⟩ := h.no hd
    have := hp.2.2.2.2.2.2
    simp at this
theorem RowAt.top {lo hi hi' s n : Nat} {w : World} {t : TypeId} {v : Value} {cs : List Value} (h : RowAt lo hi w t s v n cs) (hh : hi ≤ hi') : RowAt lo hi' w t s v n cs := ⟨h.1, fun k hk => Nat.lt_of_lt_of_le (h.2 k hk) hh⟩

set_option maxRecDepth 100000 in
set_option maxHeartbeats 8000000 in
theorem implPaneOf_any (id : Int) (F : Option Addr) (n cf : Nat) (fs : List (Int × Int)) (M : Option Addr) (m cm : Nat) (ms : List (Int × Int)) (kd s st kq kk key f t lab N z mn mx me : Int) (ok : Bool) (A : Option Addr) (j ca : Nat) (top L : List Int) (ov : Bool)
    (rq rk rf rt rl rn : Int) (R : List Int) (ln : Nat) (ro rb : Bool) (w : World)
    (hF : Rd w F (ez fs)) (hz : fs.length = n) (hn : n ≤ 1048576) (hM : Rd w M (ez ms)) (hy : ms.length = m) (hm : m ≤ 1048576) (hA : Rd w A (iz top)) (hx : top.length = j) (hj : j ≤ 1048576) (hf : SFit A j ca)
    (h64 : ∀ x ∈ top, I64 x) (hm64 : I64 mn) (hw : Wr z)
    (HM : ∀ W, Calls Try.prog 129 #[.agg #[.int .i64 (hi z), .int .u64 (lo z)], .int .i64 N] W (IntRes W me ok)) (hD : DoneIs kq kk N z mn mx me top L ov) (hL : L.length ≤ 1048576)
    (hP : PofIs (pofOk id fs ms kd s st kq kk key f t lab N z mn mx top L ov) id key f t lab N L ov rq rk rf rt rl rn R ro rb) (hR : R.length = ln) :
    Calls Try.prog 34 #[.int .i64 id, qv (.slice F n cf) (.slice M m cm) kd s st kq kk, .int .i64 key, .agg #[.int .i64 f, .int .i64 t], .int .i64 lab, agv N (hi z) (lo z) mn mx (.slice A j ca)] w (PaneRes rq rk rf rt rl rn R ln ro rb w) := by
  have HQ := Lib.hid (fun W (h : Below w.heap.size w W) => implQueryOk_any kd s st kq kk F n cf fs M m cm ms W (hF.below h) hz hn (hM.below h) hy hm)
  have HAg := Lib.hid (fun W (h : Below w.heap.size w W) => implAggOk_any N z mn mx _ _ A j ca top W (hA.below h) hx hj h64 hm64 hw rfl rfl)
  have HDn := Lib.hid (fun W (h : Below w.heap.size w W) => implAggDone_any kq kk N z mn mx me ok A j ca top L L.length ov W (hA.below h) hx hj hf h64 hm64 hw HM hD rfl)
  have HP := Lib.hid (fun B c W => implPaneOk_any id key f t lab N B L.length c ov W (by omega))
  have hDP := fun (hp : paneOk id key f t lab N L.length ov) => done_pane hD hp
  clear hF hM hA hx hf h64 hm64 hw HM hD hz hy hn hm hj
  generalize hi z = h at *
  generalize lo z = lw at *
  obtain ⟨o1, o2, o3, o4, hb, hsz⟩ := boxes_four (w := w) (c1 := qc (.slice F n cf) (.slice M m cm) kd s st kq kk) (c2 := [.int .i64 f, .int .i64 t]) (c3 := agc N h lw mn mx (.slice A j ca)) (c4 := pac 0 0 0 0 0 0 (.slice none 0 0) false) (t1 := 42) (t2 := 68) (t3 := 72) (t4 := 31)
  have HSZ := Lib.hid hsz
  clear hsz
  by_cases hq : queryOk fs ms kd s st kq kk
  · replace HQ := Lib.hid (fun W h => as_bool (tf_yes hq).symm (HQ.out W h))
    by_cases hp : paneOk id key f t lab N L.length ov
    · replace HP := Lib.hid (fun B c W => as_bool (tf_yes hp).symm (HP.out B c W))
      obtain ⟨⟨rfl, rfl, rfl, rfl, rfl, rfl⟩, rfl, rfl, rfl⟩ := hP.yes ⟨hq, (hDP hp).1, (hDP hp).2, hp⟩
      subst hR
      clear hP hDP hq hp HAg
      go_enter Try.func34, Try.ntmps34
      obtain ⟨o1c0, o1c1, o1c2, o1c3, o1c4, o1c5, o1c6⟩ := o1.seven
      go_wp2_with fail
      clear o1c0 o1c1 o1c2 o1c3 o1c4 o1c5 o1c6
      refine (HQ.out _ hb).mono ?_
      rintro e w1 ⟨rfl, hb1⟩
      replace o1 := o1.grow hb1
      replace o2 := o2.grow hb1
      replace o3 := o3.grow hb1
      replace o4 := o4.grow hb1
      replace hb := below_trans hb hb1
      have hz1 := hb1.size
      rw [HSZ.out] at hz1
      clear hb1
      obtain ⟨o2p0, o2p1⟩ := o2.two
      obtain ⟨o3p0, o3p1, o3p2, o3p3, o3p4, o3p5⟩ := o3.six
      have o5 := Own.new w1 31 (pac id key f t lab N (.slice none 0 0) false)
      replace o1 := o1.alloc (.cells (pac id key f t lab N (.slice none 0 0) false).toArray 31)
      replace o2 := o2.alloc (.cells (pac id key f t lab N (.slice none 0 0) false).toArray 31)
      replace o3 := o3.alloc (.cells (pac id key f t lab N (.slice none 0 0) false).toArray 31)
      replace o4 := o4.alloc (.cells (pac id key f t lab N (.slice none 0 0) false).toArray 31)
      replace hb := below_trans hb (below_alloc w1 (.cells (pac id key f t lab N (.slice none 0 0) false).toArray 31))
      obtain ⟨o1c0, o1c1, o1c2, o1c3, o1c4, o1c5, o1c6⟩ := o1.seven
      obtain ⟨o3c0, o3c1, o3c2, o3c3, o3c4, o3c5⟩ := o3.six
      go_wp2_with fail
      clear o1c0 o1c1 o1c2 o1c3 o1c4 o1c5 o1c6 o3c0 o3c1 o3c2 o3c3 o3c4 o3c5
      refine (HDn.out _ hb).mono ?_
      rintro e w2 ⟨B, c, rfl, r, hb1⟩
      replace o1 := o1.grow hb1
      replace o2 := o2.grow hb1
      replace o3 := o3.grow hb1
      replace o4 := o4.grow hb1
      replace o5 := o5.grow hb1
      replace hb := below_trans hb hb1
      clear o2p0 o2p1 o3p0 o3p1 o3p2 o3p3 o3p4 o3p5
      have hz2 := hb1.size
      rw [World.size_alloc] at hz2 r
      clear hb1
      have fr6 := o5.free 6
      have fr7 := o5.free 7
      obtain ⟨o5c0, o5c1, o5c2, o5c3, o5c4, o5c5, o5c6, o5c7⟩ := o5.eight
      have Ho1 := Lib.hid ((o1.far (p := ⟨w1.heap.size, 6, none⟩) (show w.heap.size ≠ w1.heap.size by have := HSZ.out; omega) (.slice B L.length c)).far (p := ⟨w1.heap.size, 7, none⟩) (show w.heap.size ≠ w1.heap.size by have := HSZ.out; omega) (.bool ov))
      have Ho2 := Lib.hid ((o2.far (p := ⟨w1.heap.size, 6, none⟩) (show w.heap.size + 1 ≠ w1.heap.size by have := HSZ.out; omega) (.slice B L.length c)).far (p := ⟨w1.heap.size, 7, none⟩) (show w.heap.size + 1 ≠ w1.heap.size by have := HSZ.out; omega) (.bool ov))
      have Ho3 := Lib.hid ((o3.far (p := ⟨w1.heap.size, 6, none⟩) (show w.heap.size + 1 + 1 ≠ w1.heap.size by have := HSZ.out; omega) (.slice B L.length c)).far (p := ⟨w1.heap.size, 7, none⟩) (show w.heap.size + 1 + 1 ≠ w1.heap.size by have := HSZ.out; omega) (.bool ov))
      have Ho4 := Lib.hid ((o4.far (p := ⟨w1.heap.size, 6, none⟩) (show w.heap.size + 1 + 1 + 1 ≠ w1.heap.size by have := HSZ.out; omega) (.slice B L.length c)).far (p := ⟨w1.heap.size, 7, none⟩) (show w.heap.size + 1 + 1 + 1 ≠ w1.heap.size by have := HSZ.out; omega) (.bool ov))
      have Ho5 := Lib.hid (show Own _ w1.heap.size 31 (pac id key f t lab N (.slice B L.length c) ov) from ((o5.set 6 (.slice B L.length c)).set 7 (.bool ov)))
      have Hr := Lib.hid ((r.set ⟨w1.heap.size, 6, none⟩ (.slice B L.length c) (show w1.heap.size < w1.heap.size + 1 by omega)).set ⟨w1.heap.size, 7, none⟩ (.bool ov) (show w1.heap.size < w1.heap.size + 1 by omega))
      have Hb := Lib.hid ((hb.setCell (p := ⟨w1.heap.size, 6, none⟩) (show w.heap.size ≤ w1.heap.size by have := HSZ.out; omega) (.slice B L.length c)).setCell (p := ⟨w1.heap.size, 7, none⟩) (show w.heap.size ≤ w1.heap.size by have := HSZ.out; omega) (.bool ov))
      clear o1 o2 o3 o4 o5 r hb
      go_wp2_with fail
      clear fr6 fr7
      clear o5c0 o5c1 o5c2 o5c3 o5c4 o5c5 o5c6 o5c7
      refine (HP.out _ _ _).mono ?_
      rintro e w3 ⟨rfl, hb1⟩
      have hz3 := hb1.size
      simp only [size_set] at hz3
      have o4 := Ho4.out.grow hb1
      have o5 := Ho5.out.grow hb1
      have r := Hr.out.grow hb1
      have hb := below_trans Hb.out hb1
      clear hb1 Ho1 Ho2 Ho3 Ho4 Ho5 Hr Hb
      have fr0 := o4.free 0
      have fr1 := o4.free 1
      have fr2 := o4.free 2
      have fr3 := o4.free 3
      have fr4 := o4.free 4
      have fr5 := o4.free 5
      have fr6 := o4.free 6
      have fr7 := o4.free 7
      obtain ⟨o4c0, o4c1, o4c2, o4c3, o4c4, o4c5, o4c6, o4c7⟩ := o4.eight
      obtain ⟨o5c0, o5c1, o5c2, o5c3, o5c4, o5c5, o5c6, o5c7⟩ := o5.eight
      have HB := Lib.hid hb
      have HR := Lib.hid r
      clear o4
      clear o5
      clear hb r
      go_wp2
      refine bodyPost_ret (v := .tuple #[pav id key f t lab N (.slice B L.length c) ov, .bool true]) (by simp [results, Try.results34, go_sem, o4c0, o4c1, o4c2, o4c3, o4c4, o4c5, o4c6, o4c7]) rfl ⟨_, _, rfl, ?_, ?_⟩
      · simp only [size_set]
        exact RowAt.top (RowAt.base ((((((((HR.out.set ⟨w.heap.size + 1 + 1 + 1, 0, none⟩ (.int .i64 id) (show w.heap.size + 1 + 1 + 1 < w1.heap.size + 1 by have := HSZ.out; omega)).set ⟨w.heap.size + 1 + 1 + 1, 1, none⟩ (.int .i64 key) (show w.heap.size + 1 + 1 + 1 < w1.heap.size + 1 by have := HSZ.out; omega)).set ⟨w.heap.size + 1 + 1 + 1, 2, none⟩ (.int .i64 f) (show w.heap.size + 1 + 1 + 1 < w1.heap.size + 1 by have := HSZ.out; omega)).set ⟨w.heap.size + 1 + 1 + 1, 3, none⟩ (.int .i64 t) (show w.heap.size + 1 + 1 + 1 < w1.heap.size + 1 by have := HSZ.out; omega)).set ⟨w.heap.size + 1 + 1 + 1, 4, none⟩ (.int .i64 lab) (show w.heap.size + 1 + 1 + 1 < w1.heap.size + 1 by have := HSZ.out; omega)).set ⟨w.heap.size + 1 + 1 + 1, 5, none⟩ (.int .i64 N) (show w.heap.size + 1 + 1 + 1 < w1.heap.size + 1 by have := HSZ.out; omega)).set ⟨w.heap.size + 1 + 1 + 1, 6, none⟩ (.slice B L.length c) (show w.heap.size + 1 + 1 + 1 < w1.heap.size + 1 by have := HSZ.out; omega)).set ⟨w.heap.size + 1 + 1 + 1, 7, none⟩ (.bool ov) (show w.heap.size + 1 + 1 + 1 < w1.heap.size + 1 by have := HSZ.out; omega)) (show w.heap.size ≤ w1.heap.size + 1 by have := HSZ.out; omega)) (by omega)
      · exact ((((((((HB.out.setCell (p := ⟨w.heap.size + 1 + 1 + 1, 0, none⟩) (show w.heap.size ≤ w.heap.size + 1 + 1 + 1 by omega) (.int .i64 id)).setCell (p := ⟨w.heap.size + 1 + 1 + 1, 1, none⟩) (show w.heap.size ≤ w.heap.size + 1 + 1 + 1 by omega) (.int .i64 key)).setCell (p := ⟨w.heap.size + 1 + 1 + 1, 2, none⟩) (show w.heap.size ≤ w.heap.size + 1 + 1 + 1 by omega) (.int .i64 f)).setCell (p := ⟨w.heap.size + 1 + 1 + 1, 3, none⟩) (show w.heap.size ≤ w.heap.size + 1 + 1 + 1 by omega) (.int .i64 t)).setCell (p := ⟨w.heap.size + 1 + 1 + 1, 4, none⟩) (show w.heap.size ≤ w.heap.size + 1 + 1 + 1 by omega) (.int .i64 lab)).setCell (p := ⟨w.heap.size + 1 + 1 + 1, 5, none⟩) (show w.heap.size ≤ w.heap.size + 1 + 1 + 1 by omega) (.int .i64 N)).setCell (p := ⟨w.heap.size + 1 + 1 + 1, 6, none⟩) (show w.heap.size ≤ w.heap.size + 1 + 1 + 1 by omega) (.slice B L.length c)).setCell (p := ⟨w.heap.size + 1 + 1 + 1, 7, none⟩) (show w.heap.size ≤ w.heap.size + 1 + 1 + 1 by omega) (.bool ov))
    · replace HP := Lib.hid (fun B c W => as_bool (tf_no hp).symm (HP.out B c W))
      have hno : ¬ pofOk id fs ms kd s st kq kk key f t lab N z mn mx top L ov := fun h => hp h.2.2.2
      clear hDP hq hp HAg
      go_enter Try.func34, Try.ntmps34
      obtain ⟨o1c0, o1c1, o1c2, o1c3, o1c4, o1c5, o1c6⟩ := o1.seven
      go_wp2_with fail
      clear o1c0 o1c1 o1c2 o1c3 o1c4 o1c5 o1c6
      refine (HQ.out _ hb).mono ?_
      rintro e w1 ⟨rfl, hb1⟩
      replace o1 := o1.grow hb1
      replace o2 := o2.grow hb1
      replace o3 := o3.grow hb1
      replace o4 := o4.grow hb1
      replace hb := below_trans hb hb1
      have hz1 := hb1.size
      rw [HSZ.out] at hz1
      clear hb1
      obtain ⟨o2p0, o2p1⟩ := o2.two
      obtain ⟨o3p0, o3p1, o3p2, o3p3, o3p4, o3p5⟩ := o3.six
      have o5 := Own.new w1 31 (pac id key f t lab N (.slice none 0 0) false)
      replace o1 := o1.alloc (.cells (pac id key f t lab N (.slice none 0 0) false).toArray 31)
      replace o2 := o2.alloc (.cells (pac id key f t lab N (.slice none 0 0) false).toArray 31)
      replace o3 := o3.alloc (.cells (pac id key f t lab N (.slice none 0 0) false).toArray 31)
      replace o4 := o4.alloc (.cells (pac id key f t lab N (.slice none 0 0) false).toArray 31)
      replace hb := below_trans hb (below_alloc w1 (.cells (pac id key f t lab N (.slice none 0 0) false).toArray 31))
      obtain ⟨o1c0, o1c1, o1c2, o1c3, o1c4, o1c5, o1c6⟩ := o1.seven
      obtain ⟨o3c0, o3c1, o3c2, o3c3, o3c4, o3c5⟩ := o3.six
      go_wp2_with fail
      clear o1c0 o1c1 o1c2 o1c3 o1c4 o1c5 o1c6 o3c0 o3c1 o3c2 o3c3 o3c4 o3c5
      refine (HDn.out _ hb).mono ?_
      rintro e w2 ⟨B, c, rfl, r, hb1⟩
      replace o1 := o1.grow hb1
      replace o2 := o2.grow hb1
      replace o3 := o3.grow hb1
      replace o4 := o4.grow hb1
      replace o5 := o5.grow hb1
      replace hb := below_trans hb hb1
      clear o2p0 o2p1 o3p0 o3p1 o3p2 o3p3 o3p4 o3p5
      have hz2 := hb1.size
      rw [World.size_alloc] at hz2 r
      clear hb1
      have fr6 := o5.free 6
      have fr7 := o5.free 7
      obtain ⟨o5c0, o5c1, o5c2, o5c3, o5c4, o5c5, o5c6, o5c7⟩ := o5.eight
      have Ho1 := Lib.hid ((o1.far (p := ⟨w1.heap.size, 6, none⟩) (show w.heap.size ≠ w1.heap.size by have := HSZ.out; omega) (.slice B L.length c)).far (p := ⟨w1.heap.size, 7, none⟩) (show w.heap.size ≠ w1.heap.size by have := HSZ.out; omega) (.bool ov))
      have Ho2 := Lib.hid ((o2.far (p := ⟨w1.heap.size, 6, none⟩) (show w.heap.size + 1 ≠ w1.heap.size by have := HSZ.out; omega) (.slice B L.length c)).far (p := ⟨w1.heap.size, 7, none⟩) (show w.heap.size + 1 ≠ w1.heap.size by have := HSZ.out; omega) (.bool ov))
      have Ho3 := Lib.hid ((o3.far (p := ⟨w1.heap.size, 6, none⟩) (show w.heap.size + 1 + 1 ≠ w1.heap.size by have := HSZ.out; omega) (.slice B L.length c)).far (p := ⟨w1.heap.size, 7, none⟩) (show w.heap.size + 1 + 1 ≠ w1.heap.size by have := HSZ.out; omega) (.bool ov))
      have Ho4 := Lib.hid ((o4.far (p := ⟨w1.heap.size, 6, none⟩) (show w.heap.size + 1 + 1 + 1 ≠ w1.heap.size by have := HSZ.out; omega) (.slice B L.length c)).far (p := ⟨w1.heap.size, 7, none⟩) (show w.heap.size + 1 + 1 + 1 ≠ w1.heap.size by have := HSZ.out; omega) (.bool ov))
      have Ho5 := Lib.hid (show Own _ w1.heap.size 31 (pac id key f t lab N (.slice B L.length c) ov) from ((o5.set 6 (.slice B L.length c)).set 7 (.bool ov)))
      have Hr := Lib.hid ((r.set ⟨w1.heap.size, 6, none⟩ (.slice B L.length c) (show w1.heap.size < w1.heap.size + 1 by omega)).set ⟨w1.heap.size, 7, none⟩ (.bool ov) (show w1.heap.size < w1.heap.size + 1 by omega))
      have Hb := Lib.hid ((hb.setCell (p := ⟨w1.heap.size, 6, none⟩) (show w.heap.size ≤ w1.heap.size by have := HSZ.out; omega) (.slice B L.length c)).setCell (p := ⟨w1.heap.size, 7, none⟩) (show w.heap.size ≤ w1.heap.size by have := HSZ.out; omega) (.bool ov))
      clear o1 o2 o3 o4 o5 r hb
      go_wp2_with fail
      clear fr6 fr7
      clear o5c0 o5c1 o5c2 o5c3 o5c4 o5c5 o5c6 o5c7
      refine (HP.out _ _ _).mono ?_
      rintro e w3 ⟨rfl, hb1⟩
      have hz3 := hb1.size
      simp only [size_set] at hz3
      have o4 := Ho4.out.grow hb1
      have o5 := Ho5.out.grow hb1
      have r := Hr.out.grow hb1
      have hb := below_trans Hb.out hb1
      clear hb1 Ho1 Ho2 Ho3 Ho4 Ho5 Hr Hb
      clear r
      obtain ⟨⟨rfl, rfl, rfl, rfl, rfl, rfl⟩, rfl, rfl, rfl⟩ := hP.no hno
      obtain rfl : ln = 0 := hR.symm
      have fr0 := o4.free 0
      have fr1 := o4.free 1
      have fr2 := o4.free 2
      have fr3 := o4.free 3
      have fr4 := o4.free 4
      have fr5 := o4.free 5
      have fr6 := o4.free 6
      have fr7 := o4.free 7
      obtain ⟨o4c0, o4c1, o4c2, o4c3, o4c4, o4c5, o4c6, o4c7⟩ := o4.eight
      obtain ⟨o5c0, o5c1, o5c2, o5c3, o5c4, o5c5, o5c6, o5c7⟩ := o5.eight
      have HB := Lib.hid hb
      clear o4
      clear o5
      clear hb
      go_wp2
      refine bodyPost_ret (v := .tuple #[pav 0 0 0 0 0 0 (.slice none 0 0) false, .bool false]) (by simp [results, Try.results34, go_sem, o4c0, o4c1, o4c2, o4c3, o4c4, o4c5, o4c6, o4c7]) rfl ⟨_, _, rfl, ?_, ?_⟩
      · exact row_nil
      · exact ((((((((HB.out.setCell (p := ⟨w.heap.size + 1 + 1 + 1, 0, none⟩) (show w.heap.size ≤ w.heap.size + 1 + 1 + 1 by omega) (.int .i64 0)).setCell (p := ⟨w.heap.size + 1 + 1 + 1, 1, none⟩) (show w.heap.size ≤ w.heap.size + 1 + 1 + 1 by omega) (.int .i64 0)).setCell (p := ⟨w.heap.size + 1 + 1 + 1, 2, none⟩) (show w.heap.size ≤ w.heap.size + 1 + 1 + 1 by omega) (.int .i64 0)).setCell (p := ⟨w.heap.size + 1 + 1 + 1, 3, none⟩) (show w.heap.size ≤ w.heap.size + 1 + 1 + 1 by omega) (.int .i64 0)).setCell (p := ⟨w.heap.size + 1 + 1 + 1, 4, none⟩) (show w.heap.size ≤ w.heap.size + 1 + 1 + 1 by omega) (.int .i64 0)).setCell (p := ⟨w.heap.size + 1 + 1 + 1, 5, none⟩) (show w.heap.size ≤ w.heap.size + 1 + 1 + 1 by omega) (.int .i64 0)).setCell (p := ⟨w.heap.size + 1 + 1 + 1, 6, none⟩) (show w.heap.size ≤ w.heap.size + 1 + 1 + 1 by omega) (.slice none 0 0)).setCell (p := ⟨w.heap.size + 1 + 1 + 1, 7, none⟩) (show w.heap.size ≤ w.heap.size + 1 + 1 + 1 by omega) (.bool false))
  · replace HQ := Lib.hid (fun W h => as_bool (tf_no hq).symm (HQ.out W h))
    have hno : ¬ pofOk id fs ms kd s st kq kk key f t lab N z mn mx top L ov := fun h => hq h.1
    clear hDP hq HAg HDn HP
    go_enter Try.func34, Try.ntmps34
    obtain ⟨o1c0, o1c1, o1c2, o1c3, o1c4, o1c5, o1c6⟩ := o1.seven
    go_wp2_with fail
    clear o1c0 o1c1 o1c2 o1c3 o1c4 o1c5 o1c6
    refine (HQ.out _ hb).mono ?_
    rintro e w1 ⟨rfl, hb1⟩
    replace o1 := o1.grow hb1
    replace o2 := o2.grow hb1
    replace o3 := o3.grow hb1
    replace o4 := o4.grow hb1
    replace hb := below_trans hb hb1
    clear hb1
    obtain ⟨⟨rfl, rfl, rfl, rfl, rfl, rfl⟩, rfl, rfl, rfl⟩ := hP.no hno
    obtain rfl : ln = 0 := hR.symm
    have fr0 := o4.free 0
    have fr1 := o4.free 1
    have fr2 := o4.free 2
    have fr3 := o4.free 3
    have fr4 := o4.free 4
    have fr5 := o4.free 5
    have fr6 := o4.free 6
    have fr7 := o4.free 7
    obtain ⟨o4c0, o4c1, o4c2, o4c3, o4c4, o4c5, o4c6, o4c7⟩ := o4.eight
    have HB := Lib.hid hb
    clear o1
    clear o2
    clear o3
    clear o4
    clear hb
    go_wp2
    refine bodyPost_ret (v := .tuple #[pav 0 0 0 0 0 0 (.slice none 0 0) false, .bool false]) (by simp [results, Try.results34, go_sem, o4c0, o4c1, o4c2, o4c3, o4c4, o4c5, o4c6, o4c7]) rfl ⟨_, _, rfl, ?_, ?_⟩
    · exact row_nil
    · exact ((((((((HB.out.setCell (p := ⟨w.heap.size + 1 + 1 + 1, 0, none⟩) (show w.heap.size ≤ w.heap.size + 1 + 1 + 1 by omega) (.int .i64 0)).setCell (p := ⟨w.heap.size + 1 + 1 + 1, 1, none⟩) (show w.heap.size ≤ w.heap.size + 1 + 1 + 1 by omega) (.int .i64 0)).setCell (p := ⟨w.heap.size + 1 + 1 + 1, 2, none⟩) (show w.heap.size ≤ w.heap.size + 1 + 1 + 1 by omega) (.int .i64 0)).setCell (p := ⟨w.heap.size + 1 + 1 + 1, 3, none⟩) (show w.heap.size ≤ w.heap.size + 1 + 1 + 1 by omega) (.int .i64 0)).setCell (p := ⟨w.heap.size + 1 + 1 + 1, 4, none⟩) (show w.heap.size ≤ w.heap.size + 1 + 1 + 1 by omega) (.int .i64 0)).setCell (p := ⟨w.heap.size + 1 + 1 + 1, 5, none⟩) (show w.heap.size ≤ w.heap.size + 1 + 1 + 1 by omega) (.int .i64 0)).setCell (p := ⟨w.heap.size + 1 + 1 + 1, 6, none⟩) (show w.heap.size ≤ w.heap.size + 1 + 1 + 1 by omega) (.slice none 0 0)).setCell (p := ⟨w.heap.size + 1 + 1 + 1, 7, none⟩) (show w.heap.size ≤ w.heap.size + 1 + 1 + 1 by omega) (.bool false))

set_option maxRecDepth 100000 in
set_option maxHeartbeats 8000000 in
theorem specPaneOf_any (id : Int) (F : Option Addr) (n cf : Nat) (fs : List (Int × Int)) (M : Option Addr) (m cm : Nat) (ms : List (Int × Int)) (kd s st kq kk key f t lab N z mn mx me : Int) (ok : Bool) (A : Option Addr) (j ca : Nat) (top L : List Int) (ov : Bool)
    (rq rk rf rt rl rn : Int) (R : List Int) (ln : Nat) (ro rb : Bool) (w : World)
    (hF : Rd w F (ez fs)) (hz : fs.length = n) (hn : n ≤ 1048576) (hM : Rd w M (ez ms)) (hy : ms.length = m) (hm : m ≤ 1048576) (hA : Rd w A (iz top)) (hx : top.length = j) (hj : j ≤ 1048576) (hf : SFit A j ca)
    (h64 : ∀ x ∈ top, I64 x) (hm64 : I64 mn) (hw : Wr z)
    (HM : ∀ W, Calls Try.prog 108 #[.agg #[.int .i64 (hi z), .int .u64 (lo z)], .int .i64 N] W (IntRes W me ok)) (hD : DoneIs kq kk N z mn mx me top L ov) (hL : L.length ≤ 1048576)
    (hP : PofIs (pofOk id fs ms kd s st kq kk key f t lab N z mn mx top L ov) id key f t lab N L ov rq rk rf rt rl rn R ro rb) (hR : R.length = ln) :
    Calls Try.prog 31 #[.int .i64 id, qv (.slice F n cf) (.slice M m cm) kd s st kq kk, .int .i64 key, .agg #[.int .i64 f, .int .i64 t], .int .i64 lab, agv N (hi z) (lo z) mn mx (.slice A j ca)] w (PaneRes rq rk rf rt rl rn R ln ro rb w) := by
  have HQ := Lib.hid (fun W (h : Below w.heap.size w W) => specQueryOk_any kd s st kq kk F n cf fs M m cm ms W (hF.below h) hz hn (hM.below h) hy hm)
  have HAg := Lib.hid (fun W (h : Below w.heap.size w W) => specAggOk_any N z mn mx _ _ A j ca top W (hA.below h) hx hj hf h64 hm64 hw rfl rfl)
  have HDn := Lib.hid (fun W (h : Below w.heap.size w W) => specAggDone_any kq kk N z mn mx me ok A j ca top L L.length ov W (hA.below h) hx hj hf h64 hm64 hw HM hD rfl)
  have HP := Lib.hid (fun B c W => specPaneOk_any id key f t lab N B L.length c ov W (by omega))
  have hDP := fun (hp : paneOk id key f t lab N L.length ov) => done_pane hD hp
  clear hF hM hA hx hf h64 hm64 hw HM hD hz hy hn hm hj
  generalize hi z = h at *
  generalize lo z = lw at *
  obtain ⟨o1, o2, o3, o4, hb, hsz⟩ := boxes_four (w := w) (c1 := qc (.slice F n cf) (.slice M m cm) kd s st kq kk) (c2 := [.int .i64 f, .int .i64 t]) (c3 := agc N h lw mn mx (.slice A j ca)) (c4 := pac 0 0 0 0 0 0 (.slice none 0 0) false) (t1 := 42) (t2 := 68) (t3 := 72) (t4 := 31)
  have HSZ := Lib.hid hsz
  clear hsz
  by_cases hq : queryOk fs ms kd s st kq kk
  · replace HQ := Lib.hid (fun W h => as_bool (tf_yes hq).symm (HQ.out W h))
    by_cases ha : aggOk N z mn mx top
    · replace HAg := Lib.hid (fun W h => as_bool (tf_yes ha).symm (HAg.out W h))
      by_cases h0 : N = 0
      · have hno : ¬ pofOk id fs ms kd s st kq kk key f t lab N z mn mx top L ov := fun h => h.2.2.1 h0
        subst h0
        clear hDP hq ha HDn HP
        go_enter Try.func31, Try.ntmps31
        obtain ⟨o1c0, o1c1, o1c2, o1c3, o1c4, o1c5, o1c6⟩ := o1.seven
        go_wp2_with fail
        clear o1c0 o1c1 o1c2 o1c3 o1c4 o1c5 o1c6
        refine (HQ.out _ hb).mono ?_
        rintro e w1 ⟨rfl, hb1⟩
        replace o1 := o1.grow hb1
        replace o2 := o2.grow hb1
        replace o3 := o3.grow hb1
        replace o4 := o4.grow hb1
        replace hb := below_trans hb hb1
        have hz1 := hb1.size
        rw [HSZ.out] at hz1
        clear hb1
        obtain ⟨o3c0, o3c1, o3c2, o3c3, o3c4, o3c5⟩ := o3.six
        go_wp2_with fail
        clear o3c0 o3c1 o3c2 o3c3 o3c4 o3c5
        refine (HAg.out _ hb).mono ?_
        rintro e w2 ⟨rfl, hb1⟩
        replace o1 := o1.grow hb1
        replace o2 := o2.grow hb1
        replace o3 := o3.grow hb1
        replace o4 := o4.grow hb1
        replace hb := below_trans hb hb1
        have hz2 := hb1.size
        clear hb1
        obtain ⟨o3c0, o3c1, o3c2, o3c3, o3c4, o3c5⟩ := o3.six
        obtain ⟨⟨rfl, rfl, rfl, rfl, rfl, rfl⟩, rfl, rfl, rfl⟩ := hP.no hno
        obtain rfl : ln = 0 := hR.symm
        have fr0 := o4.free 0
        have fr1 := o4.free 1
        have fr2 := o4.free 2
        have fr3 := o4.free 3
        have fr4 := o4.free 4
        have fr5 := o4.free 5
        have fr6 := o4.free 6
        have fr7 := o4.free 7
        obtain ⟨o4c0, o4c1, o4c2, o4c3, o4c4, o4c5, o4c6, o4c7⟩ := o4.eight
        have HB := Lib.hid hb
        clear o1
        clear o2
        clear o3
        clear o4
        clear hb
        go_wp2
        refine bodyPost_ret (v := .tuple #[pav 0 0 0 0 0 0 (.slice none 0 0) false, .bool false]) (by simp [results, Try.results31, go_sem, o4c0, o4c1, o4c2, o4c3, o4c4, o4c5, o4c6, o4c7]) rfl ⟨_, _, rfl, ?_, ?_⟩
        · exact row_nil
        · exact ((((((((HB.out.setCell (p := ⟨w.heap.size + 1 + 1 + 1, 0, none⟩) (show w.heap.size ≤ w.heap.size + 1 + 1 + 1 by omega) (.int .i64 0)).setCell (p := ⟨w.heap.size + 1 + 1 + 1, 1, none⟩) (show w.heap.size ≤ w.heap.size + 1 + 1 + 1 by omega) (.int .i64 0)).setCell (p := ⟨w.heap.size + 1 + 1 + 1, 2, none⟩) (show w.heap.size ≤ w.heap.size + 1 + 1 + 1 by omega) (.int .i64 0)).setCell (p := ⟨w.heap.size + 1 + 1 + 1, 3, none⟩) (show w.heap.size ≤ w.heap.size + 1 + 1 + 1 by omega) (.int .i64 0)).setCell (p := ⟨w.heap.size + 1 + 1 + 1, 4, none⟩) (show w.heap.size ≤ w.heap.size + 1 + 1 + 1 by omega) (.int .i64 0)).setCell (p := ⟨w.heap.size + 1 + 1 + 1, 5, none⟩) (show w.heap.size ≤ w.heap.size + 1 + 1 + 1 by omega) (.int .i64 0)).setCell (p := ⟨w.heap.size + 1 + 1 + 1, 6, none⟩) (show w.heap.size ≤ w.heap.size + 1 + 1 + 1 by omega) (.slice none 0 0)).setCell (p := ⟨w.heap.size + 1 + 1 + 1, 7, none⟩) (show w.heap.size ≤ w.heap.size + 1 + 1 + 1 by omega) (.bool false))
      · have t0 : (N == 0) = false := by simpa using h0
        by_cases hp : paneOk id key f t lab N L.length ov
        · replace HP := Lib.hid (fun B c W => as_bool (tf_yes hp).symm (HP.out B c W))
          obtain ⟨⟨rfl, rfl, rfl, rfl, rfl, rfl⟩, rfl, rfl, rfl⟩ := hP.yes ⟨hq, ha, h0, hp⟩
          subst hR
          clear hP hDP hq hp ha h0
          go_enter Try.func31, Try.ntmps31
          obtain ⟨o1c0, o1c1, o1c2, o1c3, o1c4, o1c5, o1c6⟩ := o1.seven
          go_wp2_with fail
          clear o1c0 o1c1 o1c2 o1c3 o1c4 o1c5 o1c6
          refine (HQ.out _ hb).mono ?_
          rintro e w1 ⟨rfl, hb1⟩
          replace o1 := o1.grow hb1
          replace o2 := o2.grow hb1
          replace o3 := o3.grow hb1
          replace o4 := o4.grow hb1
          replace hb := below_trans hb hb1
          have hz1 := hb1.size
          rw [HSZ.out] at hz1
          clear hb1
          obtain ⟨o3c0, o3c1, o3c2, o3c3, o3c4, o3c5⟩ := o3.six
          go_wp2_with fail
          clear o3c0 o3c1 o3c2 o3c3 o3c4 o3c5
          refine (HAg.out _ hb).mono ?_
          rintro e w2 ⟨rfl, hb1⟩
          replace o1 := o1.grow hb1
          replace o2 := o2.grow hb1
          replace o3 := o3.grow hb1
          replace o4 := o4.grow hb1
          replace hb := below_trans hb hb1
          have hz2 := hb1.size
          clear hb1
          obtain ⟨o3c0, o3c1, o3c2, o3c3, o3c4, o3c5⟩ := o3.six
          obtain ⟨o1c0, o1c1, o1c2, o1c3, o1c4, o1c5, o1c6⟩ := o1.seven
          obtain ⟨o2c0, o2c1⟩ := o2.two
          obtain ⟨o3c0, o3c1, o3c2, o3c3, o3c4, o3c5⟩ := o3.six
          go_wp2_with fail
          clear o1c0 o1c1 o1c2 o1c3 o1c4 o1c5 o1c6 o2c0 o2c1 o3c0 o3c1 o3c2 o3c3 o3c4 o3c5
          refine (HDn.out _ hb).mono ?_
          rintro e w3 ⟨B, c, rfl, r, hb1⟩
          replace o1 := o1.grow hb1
          replace o2 := o2.grow hb1
          replace o3 := o3.grow hb1
          replace o4 := o4.grow hb1
          replace hb := below_trans hb hb1
          have hz3 := hb1.size
          clear hb1
          obtain ⟨o2p0, o2p1⟩ := o2.two
          obtain ⟨o3p0, o3p1, o3p2, o3p3, o3p4, o3p5⟩ := o3.six
          have o5 := Own.new w3 31 (pac id key f t lab N (.slice B L.length c) ov)
          replace o1 := o1.alloc (.cells (pac id key f t lab N (.slice B L.length c) ov).toArray 31)
          replace o2 := o2.alloc (.cells (pac id key f t lab N (.slice B L.length c) ov).toArray 31)
          replace o3 := o3.alloc (.cells (pac id key f t lab N (.slice B L.length c) ov).toArray 31)
          replace o4 := o4.alloc (.cells (pac id key f t lab N (.slice B L.length c) ov).toArray 31)
          replace r := r.grow (below_alloc w3 (.cells (pac id key f t lab N (.slice B L.length c) ov).toArray 31))
          replace hb := below_trans hb (below_alloc w3 (.cells (pac id key f t lab N (.slice B L.length c) ov).toArray 31))
          obtain ⟨o5c0, o5c1, o5c2, o5c3, o5c4, o5c5, o5c6, o5c7⟩ := o5.eight
          go_wp2_with fail
          clear o5c0 o5c1 o5c2 o5c3 o5c4 o5c5 o5c6 o5c7
          refine (HP.out _ _ _).mono ?_
          rintro e w4 ⟨rfl, hb1⟩
          replace o1 := o1.grow hb1
          replace o2 := o2.grow hb1
          replace o3 := o3.grow hb1
          replace o4 := o4.grow hb1
          replace o5 := o5.grow hb1
          replace r := r.grow hb1
          replace hb := below_trans hb hb1
          have hz4 := hb1.size
          rw [World.size_alloc] at hz4
          clear hb1
          clear o2p0 o2p1 o3p0 o3p1 o3p2 o3p3 o3p4 o3p5
          have fr0 := o4.free 0
          have fr1 := o4.free 1
          have fr2 := o4.free 2
          have fr3 := o4.free 3
          have fr4 := o4.free 4
          have fr5 := o4.free 5
          have fr6 := o4.free 6
          have fr7 := o4.free 7
          obtain ⟨o4c0, o4c1, o4c2, o4c3, o4c4, o4c5, o4c6, o4c7⟩ := o4.eight
          obtain ⟨o5c0, o5c1, o5c2, o5c3, o5c4, o5c5, o5c6, o5c7⟩ := o5.eight
          have HB := Lib.hid hb
          have HR := Lib.hid r
          clear o1
          clear o2
          clear o3
          clear o4
          clear o5
          clear hb r
          go_wp2
          refine bodyPost_ret (v := .tuple #[pav id key f t lab N (.slice B L.length c) ov, .bool true]) (by simp [results, Try.results31, go_sem, o4c0, o4c1, o4c2, o4c3, o4c4, o4c5, o4c6, o4c7]) rfl ⟨_, _, rfl, ?_, ?_⟩
          · simp only [size_set]
            exact RowAt.top (RowAt.base ((((((((HR.out.set ⟨w.heap.size + 1 + 1 + 1, 0, none⟩ (.int .i64 id) (show w.heap.size + 1 + 1 + 1 < w2.heap.size by have := HSZ.out; omega)).set ⟨w.heap.size + 1 + 1 + 1, 1, none⟩ (.int .i64 key) (show w.heap.size + 1 + 1 + 1 < w2.heap.size by have := HSZ.out; omega)).set ⟨w.heap.size + 1 + 1 + 1, 2, none⟩ (.int .i64 f) (show w.heap.size + 1 + 1 + 1 < w2.heap.size by have := HSZ.out; omega)).set ⟨w.heap.size + 1 + 1 + 1, 3, none⟩ (.int .i64 t) (show w.heap.size + 1 + 1 + 1 < w2.heap.size by have := HSZ.out; omega)).set ⟨w.heap.size + 1 + 1 + 1, 4, none⟩ (.int .i64 lab) (show w.heap.size + 1 + 1 + 1 < w2.heap.size by have := HSZ.out; omega)).set ⟨w.heap.size + 1 + 1 + 1, 5, none⟩ (.int .i64 N) (show w.heap.size + 1 + 1 + 1 < w2.heap.size by have := HSZ.out; omega)).set ⟨w.heap.size + 1 + 1 + 1, 6, none⟩ (.slice B L.length c) (show w.heap.size + 1 + 1 + 1 < w2.heap.size by have := HSZ.out; omega)).set ⟨w.heap.size + 1 + 1 + 1, 7, none⟩ (.bool ov) (show w.heap.size + 1 + 1 + 1 < w2.heap.size by have := HSZ.out; omega)) (show w.heap.size ≤ w2.heap.size by have := HSZ.out; omega)) (by omega)
          · exact ((((((((HB.out.setCell (p := ⟨w.heap.size + 1 + 1 + 1, 0, none⟩) (show w.heap.size ≤ w.heap.size + 1 + 1 + 1 by omega) (.int .i64 id)).setCell (p := ⟨w.heap.size + 1 + 1 + 1, 1, none⟩) (show w.heap.size ≤ w.heap.size + 1 + 1 + 1 by omega) (.int .i64 key)).setCell (p := ⟨w.heap.size + 1 + 1 + 1, 2, none⟩) (show w.heap.size ≤ w.heap.size + 1 + 1 + 1 by omega) (.int .i64 f)).setCell (p := ⟨w.heap.size + 1 + 1 + 1, 3, none⟩) (show w.heap.size ≤ w.heap.size + 1 + 1 + 1 by omega) (.int .i64 t)).setCell (p := ⟨w.heap.size + 1 + 1 + 1, 4, none⟩) (show w.heap.size ≤ w.heap.size + 1 + 1 + 1 by omega) (.int .i64 lab)).setCell (p := ⟨w.heap.size + 1 + 1 + 1, 5, none⟩) (show w.heap.size ≤ w.heap.size + 1 + 1 + 1 by omega) (.int .i64 N)).setCell (p := ⟨w.heap.size + 1 + 1 + 1, 6, none⟩) (show w.heap.size ≤ w.heap.size + 1 + 1 + 1 by omega) (.slice B L.length c)).setCell (p := ⟨w.heap.size + 1 + 1 + 1, 7, none⟩) (show w.heap.size ≤ w.heap.size + 1 + 1 + 1 by omega) (.bool ov))
        · replace HP := Lib.hid (fun B c W => as_bool (tf_no hp).symm (HP.out B c W))
          have hno : ¬ pofOk id fs ms kd s st kq kk key f t lab N z mn mx top L ov := fun h => hp h.2.2.2
          clear hDP hq hp ha h0
          go_enter Try.func31, Try.ntmps31
          obtain ⟨o1c0, o1c1, o1c2, o1c3, o1c4, o1c5, o1c6⟩ := o1.seven
          go_wp2_with fail
          clear o1c0 o1c1 o1c2 o1c3 o1c4 o1c5 o1c6
          refine (HQ.out _ hb).mono ?_
          rintro e w1 ⟨rfl, hb1⟩
          replace o1 := o1.grow hb1
          replace o2 := o2.grow hb1
          replace o3 := o3.grow hb1
          replace o4 := o4.grow hb1
          replace hb := below_trans hb hb1
          have hz1 := hb1.size
          rw [HSZ.out] at hz1
          clear hb1
          obtain ⟨o3c0, o3c1, o3c2, o3c3, o3c4, o3c5⟩ := o3.six
          go_wp2_with fail
          clear o3c0 o3c1 o3c2 o3c3 o3c4 o3c5
          refine (HAg.out _ hb).mono ?_
          rintro e w2 ⟨rfl, hb1⟩
          replace o1 := o1.grow hb1
          replace o2 := o2.grow hb1
          replace o3 := o3.grow hb1
          replace o4 := o4.grow hb1
          replace hb := below_trans hb hb1
          have hz2 := hb1.size
          clear hb1
          obtain ⟨o3c0, o3c1, o3c2, o3c3, o3c4, o3c5⟩ := o3.six
          obtain ⟨o1c0, o1c1, o1c2, o1c3, o1c4, o1c5, o1c6⟩ := o1.seven
          obtain ⟨o2c0, o2c1⟩ := o2.two
          obtain ⟨o3c0, o3c1, o3c2, o3c3, o3c4, o3c5⟩ := o3.six
          go_wp2_with fail
          clear o1c0 o1c1 o1c2 o1c3 o1c4 o1c5 o1c6 o2c0 o2c1 o3c0 o3c1 o3c2 o3c3 o3c4 o3c5
          refine (HDn.out _ hb).mono ?_
          rintro e w3 ⟨B, c, rfl, r, hb1⟩
          replace o1 := o1.grow hb1
          replace o2 := o2.grow hb1
          replace o3 := o3.grow hb1
          replace o4 := o4.grow hb1
          replace hb := below_trans hb hb1
          have hz3 := hb1.size
          clear hb1
          obtain ⟨o2p0, o2p1⟩ := o2.two
          obtain ⟨o3p0, o3p1, o3p2, o3p3, o3p4, o3p5⟩ := o3.six
          have o5 := Own.new w3 31 (pac id key f t lab N (.slice B L.length c) ov)
          replace o1 := o1.alloc (.cells (pac id key f t lab N (.slice B L.length c) ov).toArray 31)
          replace o2 := o2.alloc (.cells (pac id key f t lab N (.slice B L.length c) ov).toArray 31)
          replace o3 := o3.alloc (.cells (pac id key f t lab N (.slice B L.length c) ov).toArray 31)
          replace o4 := o4.alloc (.cells (pac id key f t lab N (.slice B L.length c) ov).toArray 31)
          replace r := r.grow (below_alloc w3 (.cells (pac id key f t lab N (.slice B L.length c) ov).toArray 31))
          replace hb := below_trans hb (below_alloc w3 (.cells (pac id key f t lab N (.slice B L.length c) ov).toArray 31))
          obtain ⟨o5c0, o5c1, o5c2, o5c3, o5c4, o5c5, o5c6, o5c7⟩ := o5.eight
          go_wp2_with fail
          clear o5c0 o5c1 o5c2 o5c3 o5c4 o5c5 o5c6 o5c7
          refine (HP.out _ _ _).mono ?_
          rintro e w4 ⟨rfl, hb1⟩
          replace o1 := o1.grow hb1
          replace o2 := o2.grow hb1
          replace o3 := o3.grow hb1
          replace o4 := o4.grow hb1
          replace o5 := o5.grow hb1
          replace r := r.grow hb1
          replace hb := below_trans hb hb1
          have hz4 := hb1.size
          rw [World.size_alloc] at hz4
          clear hb1
          clear o2p0 o2p1 o3p0 o3p1 o3p2 o3p3 o3p4 o3p5
          clear r
          obtain ⟨⟨rfl, rfl, rfl, rfl, rfl, rfl⟩, rfl, rfl, rfl⟩ := hP.no hno
          obtain rfl : ln = 0 := hR.symm
          have fr0 := o4.free 0
          have fr1 := o4.free 1
          have fr2 := o4.free 2
          have fr3 := o4.free 3
          have fr4 := o4.free 4
          have fr5 := o4.free 5
          have fr6 := o4.free 6
          have fr7 := o4.free 7
          obtain ⟨o4c0, o4c1, o4c2, o4c3, o4c4, o4c5, o4c6, o4c7⟩ := o4.eight
          obtain ⟨o5c0, o5c1, o5c2, o5c3, o5c4, o5c5, o5c6, o5c7⟩ := o5.eight
          have HB := Lib.hid hb
          clear o1
          clear o2
          clear o3
          clear o4
          clear o5
          clear hb
          go_wp2
          refine bodyPost_ret (v := .tuple #[pav 0 0 0 0 0 0 (.slice none 0 0) false, .bool false]) (by simp [results, Try.results31, go_sem, o4c0, o4c1, o4c2, o4c3, o4c4, o4c5, o4c6, o4c7]) rfl ⟨_, _, rfl, ?_, ?_⟩
          · exact row_nil
          · exact ((((((((HB.out.setCell (p := ⟨w.heap.size + 1 + 1 + 1, 0, none⟩) (show w.heap.size ≤ w.heap.size + 1 + 1 + 1 by omega) (.int .i64 0)).setCell (p := ⟨w.heap.size + 1 + 1 + 1, 1, none⟩) (show w.heap.size ≤ w.heap.size + 1 + 1 + 1 by omega) (.int .i64 0)).setCell (p := ⟨w.heap.size + 1 + 1 + 1, 2, none⟩) (show w.heap.size ≤ w.heap.size + 1 + 1 + 1 by omega) (.int .i64 0)).setCell (p := ⟨w.heap.size + 1 + 1 + 1, 3, none⟩) (show w.heap.size ≤ w.heap.size + 1 + 1 + 1 by omega) (.int .i64 0)).setCell (p := ⟨w.heap.size + 1 + 1 + 1, 4, none⟩) (show w.heap.size ≤ w.heap.size + 1 + 1 + 1 by omega) (.int .i64 0)).setCell (p := ⟨w.heap.size + 1 + 1 + 1, 5, none⟩) (show w.heap.size ≤ w.heap.size + 1 + 1 + 1 by omega) (.int .i64 0)).setCell (p := ⟨w.heap.size + 1 + 1 + 1, 6, none⟩) (show w.heap.size ≤ w.heap.size + 1 + 1 + 1 by omega) (.slice none 0 0)).setCell (p := ⟨w.heap.size + 1 + 1 + 1, 7, none⟩) (show w.heap.size ≤ w.heap.size + 1 + 1 + 1 by omega) (.bool false))
    · replace HAg := Lib.hid (fun W h => as_bool (tf_no ha).symm (HAg.out W h))
      have hno : ¬ pofOk id fs ms kd s st kq kk key f t lab N z mn mx top L ov := fun h => ha h.2.1
      clear hDP hq ha HDn HP
      go_enter Try.func31, Try.ntmps31
      obtain ⟨o1c0, o1c1, o1c2, o1c3, o1c4, o1c5, o1c6⟩ := o1.seven
      go_wp2_with fail
      clear o1c0 o1c1 o1c2 o1c3 o1c4 o1c5 o1c6
      refine (HQ.out _ hb).mono ?_
      rintro e w1 ⟨rfl, hb1⟩
      replace o1 := o1.grow hb1
      replace o2 := o2.grow hb1
      replace o3 := o3.grow hb1
      replace o4 := o4.grow hb1
      replace hb := below_trans hb hb1
      have hz1 := hb1.size
      rw [HSZ.out] at hz1
      clear hb1
      obtain ⟨o3c0, o3c1, o3c2, o3c3, o3c4, o3c5⟩ := o3.six
      go_wp2_with fail
      clear o3c0 o3c1 o3c2 o3c3 o3c4 o3c5
      refine (HAg.out _ hb).mono ?_
      rintro e w2 ⟨rfl, hb1⟩
      replace o1 := o1.grow hb1
      replace o2 := o2.grow hb1
      replace o3 := o3.grow hb1
      replace o4 := o4.grow hb1
      replace hb := below_trans hb hb1
      have hz2 := hb1.size
      clear hb1
      obtain ⟨⟨rfl, rfl, rfl, rfl, rfl, rfl⟩, rfl, rfl, rfl⟩ := hP.no hno
      obtain rfl : ln = 0 := hR.symm
      have fr0 := o4.free 0
      have fr1 := o4.free 1
      have fr2 := o4.free 2
      have fr3 := o4.free 3
      have fr4 := o4.free 4
      have fr5 := o4.free 5
      have fr6 := o4.free 6
      have fr7 := o4.free 7
      obtain ⟨o4c0, o4c1, o4c2, o4c3, o4c4, o4c5, o4c6, o4c7⟩ := o4.eight
      have HB := Lib.hid hb
      clear o1
      clear o2
      clear o3
      clear o4
      clear hb
      go_wp2
      refine bodyPost_ret (v := .tuple #[pav 0 0 0 0 0 0 (.slice none 0 0) false, .bool false]) (by simp [results, Try.results31, go_sem, o4c0, o4c1, o4c2, o4c3, o4c4, o4c5, o4c6, o4c7]) rfl ⟨_, _, rfl, ?_, ?_⟩
      · exact row_nil
      · exact ((((((((HB.out.setCell (p := ⟨w.heap.size + 1 + 1 + 1, 0, none⟩) (show w.heap.size ≤ w.heap.size + 1 + 1 + 1 by omega) (.int .i64 0)).setCell (p := ⟨w.heap.size + 1 + 1 + 1, 1, none⟩) (show w.heap.size ≤ w.heap.size + 1 + 1 + 1 by omega) (.int .i64 0)).setCell (p := ⟨w.heap.size + 1 + 1 + 1, 2, none⟩) (show w.heap.size ≤ w.heap.size + 1 + 1 + 1 by omega) (.int .i64 0)).setCell (p := ⟨w.heap.size + 1 + 1 + 1, 3, none⟩) (show w.heap.size ≤ w.heap.size + 1 + 1 + 1 by omega) (.int .i64 0)).setCell (p := ⟨w.heap.size + 1 + 1 + 1, 4, none⟩) (show w.heap.size ≤ w.heap.size + 1 + 1 + 1 by omega) (.int .i64 0)).setCell (p := ⟨w.heap.size + 1 + 1 + 1, 5, none⟩) (show w.heap.size ≤ w.heap.size + 1 + 1 + 1 by omega) (.int .i64 0)).setCell (p := ⟨w.heap.size + 1 + 1 + 1, 6, none⟩) (show w.heap.size ≤ w.heap.size + 1 + 1 + 1 by omega) (.slice none 0 0)).setCell (p := ⟨w.heap.size + 1 + 1 + 1, 7, none⟩) (show w.heap.size ≤ w.heap.size + 1 + 1 + 1 by omega) (.bool false))
  · replace HQ := Lib.hid (fun W h => as_bool (tf_no hq).symm (HQ.out W h))
    have hno : ¬ pofOk id fs ms kd s st kq kk key f t lab N z mn mx top L ov := fun h => hq h.1
    clear hDP hq HAg HDn HP
    go_enter Try.func31, Try.ntmps31
    obtain ⟨o1c0, o1c1, o1c2, o1c3, o1c4, o1c5, o1c6⟩ := o1.seven
    go_wp2_with fail
    clear o1c0 o1c1 o1c2 o1c3 o1c4 o1c5 o1c6
    refine (HQ.out _ hb).mono ?_
    rintro e w1 ⟨rfl, hb1⟩
    replace o1 := o1.grow hb1
    replace o2 := o2.grow hb1
    replace o3 := o3.grow hb1
    replace o4 := o4.grow hb1
    replace hb := below_trans hb hb1
    have hz1 := hb1.size
    rw [HSZ.out] at hz1
    clear hb1
    obtain ⟨⟨rfl, rfl, rfl, rfl, rfl, rfl⟩, rfl, rfl, rfl⟩ := hP.no hno
    obtain rfl : ln = 0 := hR.symm
    have fr0 := o4.free 0
    have fr1 := o4.free 1
    have fr2 := o4.free 2
    have fr3 := o4.free 3
    have fr4 := o4.free 4
    have fr5 := o4.free 5
    have fr6 := o4.free 6
    have fr7 := o4.free 7
    obtain ⟨o4c0, o4c1, o4c2, o4c3, o4c4, o4c5, o4c6, o4c7⟩ := o4.eight
    have HB := Lib.hid hb
    clear o1
    clear o2
    clear o3
    clear o4
    clear hb
    go_wp2
    refine bodyPost_ret (v := .tuple #[pav 0 0 0 0 0 0 (.slice none 0 0) false, .bool false]) (by simp [results, Try.results31, go_sem, o4c0, o4c1, o4c2, o4c3, o4c4, o4c5, o4c6, o4c7]) rfl ⟨_, _, rfl, ?_, ?_⟩
    · exact row_nil
    · exact ((((((((HB.out.setCell (p := ⟨w.heap.size + 1 + 1 + 1, 0, none⟩) (show w.heap.size ≤ w.heap.size + 1 + 1 + 1 by omega) (.int .i64 0)).setCell (p := ⟨w.heap.size + 1 + 1 + 1, 1, none⟩) (show w.heap.size ≤ w.heap.size + 1 + 1 + 1 by omega) (.int .i64 0)).setCell (p := ⟨w.heap.size + 1 + 1 + 1, 2, none⟩) (show w.heap.size ≤ w.heap.size + 1 + 1 + 1 by omega) (.int .i64 0)).setCell (p := ⟨w.heap.size + 1 + 1 + 1, 3, none⟩) (show w.heap.size ≤ w.heap.size + 1 + 1 + 1 by omega) (.int .i64 0)).setCell (p := ⟨w.heap.size + 1 + 1 + 1, 4, none⟩) (show w.heap.size ≤ w.heap.size + 1 + 1 + 1 by omega) (.int .i64 0)).setCell (p := ⟨w.heap.size + 1 + 1 + 1, 5, none⟩) (show w.heap.size ≤ w.heap.size + 1 + 1 + 1 by omega) (.int .i64 0)).setCell (p := ⟨w.heap.size + 1 + 1 + 1, 6, none⟩) (show w.heap.size ≤ w.heap.size + 1 + 1 + 1 by omega) (.slice none 0 0)).setCell (p := ⟨w.heap.size + 1 + 1 + 1, 7, none⟩) (show w.heap.size ≤ w.heap.size + 1 + 1 + 1 by omega) (.bool false))
end Go.Proofs.Ytlmlckgnmkjkdaa

/-
  What the laws' own helpers on Pane (six ints, a row of ints, a truth value) return. WRITTEN BY tools/genkitq.py.
-/
namespace Go.Proofs.Ytlmlckgnmkjkdaa
open Go.RowKit

set_option maxHeartbeats 1000000 in
theorem eqPane_same (q k f t l n : Int) (o : Bool) (A B : Option Addr) (m ca cb : Nat) (zs : List Int) (w : World) (hA : Rd w A (iz zs)) (hB : Rd w B (iz zs)) (hz : zs.length = m) (hm : m ≤ 1048576) :
    Calls Try.prog 28 #[pav q k f t l n (.slice A m ca) o, pav q k f t l n (.slice B m cb) o] w fun e w' => e = .returned (.bool true) ∧ Below w.heap.size w w' := by
  have t0 : (q != q) = false := by simp
  have t1 : (k != k) = false := by simp
  have t2 : (f != f) = false := by simp
  have t3 : (t != t) = false := by simp
  have t4 : (l != l) = false := by simp
  have t5 : (n != n) = false := by simp
  have t6 : (o != o) = false := by simp
  obtain ⟨o1, o2, hb⟩ := boxes_two (w := w) (cs := pac q k f t l n (.slice A m ca) o) (ds := pac q k f t l n (.slice B m cb) o) (t := 31) (s := 31)
  have HA := Lib.hid (hA.below hb)
  have HB := Lib.hid (hB.below hb)
  clear hA hB
  obtain ⟨a0, a1, a2, a3, a4, a5, a6, a7⟩ := o1.eight
  obtain ⟨b0, b1, b2, b3, b4, b5, b6, b7⟩ := o2.eight
  go_enter Try.func28, Try.ntmps28
  go_wp2_with fail
  refine (eqIntS_same A B m ca cb zs _ HA.out HB.out hz hm).mono ?_
  clear a0 a1 a2 a3 a4 a5 a6 a7 b0 b1 b2 b3 b4 b5 b6 b7
  rintro e w2 ⟨rfl, h2⟩
  replace hb := below_trans hb h2
  obtain ⟨a0, a1, a2, a3, a4, a5, a6, a7⟩ := (o1.grow h2).eight
  obtain ⟨b0, b1, b2, b3, b4, b5, b6, b7⟩ := (o2.grow h2).eight
  clear o1 o2 h2
  go_wp2
  go_ret
  exact ⟨rfl, hb⟩

set_option maxHeartbeats 4000000 in
theorem toPane_w (q k f t l n : Int) (o : Bool) (A : Option Addr) (m ca : Nat) (zs : List Int) (w : World) (hA : Rd w A (iz zs)) (hz : zs.length = m) (hm : m ≤ 1048576) :
    Calls Try.prog 26 #[pav q k f t l n (.slice A m ca) o] w fun e w' => ∃ g, e = .returned (pav q k f t l n (.slice (some ⟨g, 0, none⟩) m m) o) ∧
      RowAt w.heap.size w'.heap.size w' 3 1 (.slice (some ⟨g, 0, none⟩) m m) m (iz zs) ∧ Below w.heap.size w w' := by
  obtain ⟨o1, o2, o3, hb0, hsz⟩ := box_three (w := w) (c1 := pac q k f t l n (.slice A m ca) o) (c2 := pac 0 0 0 0 0 0 (.slice none 0 0) false) (c3 := pac q k f t l n (.slice none 0 0) false) (t1 := 52) (t2 := 31) (t3 := 31)
  have HSZ := Lib.hid hsz
  clear hsz
  have HA := Lib.hid (hA.below hb0)
  clear hA
  obtain ⟨a0, a1, a2, a3, a4, a5, a6, a7⟩ := o1.eight
  go_enter Try.func26, Try.ntmps26
  go_wp2_with fail
  clear a0 a1 a2 a3 a4 a5 a6 a7
  refine (toIntS_w A m ca zs _ HA.out hz hm).mono ?_
  rintro e w1 ⟨g, rfl, r, hb⟩
  replace r := r.base (lo' := w.heap.size + 1 + 1 + 1) (by have := HSZ.out; omega)
  replace o1 := o1.grow hb
  replace o2 := o2.grow hb
  replace o3 := o3.grow hb
  replace hb0 := below_trans hb0 hb
  clear hb
  obtain ⟨a0, a1, a2, a3, a4, a5, a6, a7⟩ := o1.eight
  obtain ⟨b0, b1, b2, b3, b4, b5, b6, b7⟩ := o2.eight
  obtain ⟨c0, c1, c2, c3, c4, c5, c6, c7⟩ := o3.eight
  have f6 := o3.free 6
  have f7 := o3.free 7
  have fb0 := o2.free 0
  have fb1 := o2.free 1
  have fb2 := o2.free 2
  have fb3 := o2.free 3
  have fb4 := o2.free 4
  have fb5 := o2.free 5
  have fb6 := o2.free 6
  have fb7 := o2.free 7
  have HR := Lib.hid (And.intro r hb0)
  clear o1 o2 o3 r hb0
  go_wp2
  refine bodyPost_ret (v := pav q k f t l n (.slice (some ⟨g, 0, none⟩) m m) o) (by simp [results, Try.results26, go_sem, b0, b1, b2, b3, b4, b5, b6, b7]) rfl ⟨g, rfl, ?_, ?_⟩
  · simp only [size_set]
    exact RowAt.base ((((((((((HR.out.1.set ⟨w.heap.size + 1 + 1, 6, none⟩ (.slice (some ⟨g, 0, none⟩) m m) (show w.heap.size + 1 + 1 < w.heap.size + 1 + 1 + 1 by omega)).set ⟨w.heap.size + 1 + 1, 7, none⟩ (.bool o) (show w.heap.size + 1 + 1 < w.heap.size + 1 + 1 + 1 by omega)).set ⟨w.heap.size + 1, 0, none⟩ (.int .i64 q) (show w.heap.size + 1 < w.heap.size + 1 + 1 + 1 by omega)).set ⟨w.heap.size + 1, 1, none⟩ (.int .i64 k) (show w.heap.size + 1 < w.heap.size + 1 + 1 + 1 by omega)).set ⟨w.heap.size + 1, 2, none⟩ (.int .i64 f) (show w.heap.size + 1 < w.heap.size + 1 + 1 + 1 by omega)).set ⟨w.heap.size + 1, 3, none⟩ (.int .i64 t) (show w.heap.size + 1 < w.heap.size + 1 + 1 + 1 by omega)).set ⟨w.heap.size + 1, 4, none⟩ (.int .i64 l) (show w.heap.size + 1 < w.heap.size + 1 + 1 + 1 by omega)).set ⟨w.heap.size + 1, 5, none⟩ (.int .i64 n) (show w.heap.size + 1 < w.heap.size + 1 + 1 + 1 by omega)).set ⟨w.heap.size + 1, 6, none⟩ (.slice (some ⟨g, 0, none⟩) m m) (show w.heap.size + 1 < w.heap.size + 1 + 1 + 1 by omega)).set ⟨w.heap.size + 1, 7, none⟩ (.bool o) (show w.heap.size + 1 < w.heap.size + 1 + 1 + 1 by omega)) (by omega)
  · exact ((((((((((HR.out.2.setCell (p := ⟨w.heap.size + 1 + 1, 6, none⟩) (show w.heap.size ≤ w.heap.size + 1 + 1 by omega) (.slice (some ⟨g, 0, none⟩) m m)).setCell (p := ⟨w.heap.size + 1 + 1, 7, none⟩) (show w.heap.size ≤ w.heap.size + 1 + 1 by omega) (.bool o)).setCell (p := ⟨w.heap.size + 1, 0, none⟩) (show w.heap.size ≤ w.heap.size + 1 by omega) (.int .i64 q)).setCell (p := ⟨w.heap.size + 1, 1, none⟩) (show w.heap.size ≤ w.heap.size + 1 by omega) (.int .i64 k)).setCell (p := ⟨w.heap.size + 1, 2, none⟩) (show w.heap.size ≤ w.heap.size + 1 by omega) (.int .i64 f)).setCell (p := ⟨w.heap.size + 1, 3, none⟩) (show w.heap.size ≤ w.heap.size + 1 by omega) (.int .i64 t)).setCell (p := ⟨w.heap.size + 1, 4, none⟩) (show w.heap.size ≤ w.heap.size + 1 by omega) (.int .i64 l)).setCell (p := ⟨w.heap.size + 1, 5, none⟩) (show w.heap.size ≤ w.heap.size + 1 by omega) (.int .i64 n)).setCell (p := ⟨w.heap.size + 1, 6, none⟩) (show w.heap.size ≤ w.heap.size + 1 by omega) (.slice (some ⟨g, 0, none⟩) m m)).setCell (p := ⟨w.heap.size + 1, 7, none⟩) (show w.heap.size ≤ w.heap.size + 1 by omega) (.bool o))

set_option maxHeartbeats 400000 in
theorem szPane_any (q k f t l n : Int) (o : Bool) (A : Option Addr) (m ca : Nat) (left : Int) (w : World) (h0 : 0 ≤ left) (h1 : left ≤ 1048576) (hn : m ≤ 9223372036854775807) :
    Calls Try.prog 24 #[pav q k f t l n (.slice A m ca) o, .int .i64 left] w fun e w' => e = .returned (.int .i64 (lessF left m)) ∧ Below w.heap.size w w' := by
  have o1 := Own.new w 52 (pac q k f t l n (.slice A m ca) o)
  have hb := below_alloc w (.cells (pac q k f t l n (.slice A m ca) o).toArray 52)
  obtain ⟨a0, a1, a2, a3, a4, a5, a6, a7⟩ := o1.eight
  clear o1
  by_cases h : left - (m : Int) < 0
  · have e1 : lessF left m = -1 := by simp [lessF, h]
    go_enter Try.func24, Try.ntmps24
    go_wp2_with (go_at_call 71; refine (as_int e1 (szIntS_any A m ca left _ h0 h1 hn)).mono ?_; rintro e w' ⟨rfl, rfl⟩)
    go_ret
    exact ⟨ret_int e1.symm, hb⟩
  · have e1 : lessF left m = left - m := by simp [lessF]; omega
    have hp : 0 ≤ left - (m : Int) := by omega
    have E1 := Lib.hid e1
    clear e1
    go_enter Try.func24, Try.ntmps24
    go_wp2_with (go_at_call 71; refine (as_int E1.out (szIntS_any A m ca left _ h0 h1 hn)).mono ?_; rintro e w' ⟨rfl, rfl⟩)
    go_ret
    exact ⟨ret_int E1.out.symm, hb⟩
set_option maxHeartbeats 400000 in
theorem markPane_at (q k f t l n : Int) (o : Bool) (A : Option Addr) (m ca lo hi : Nat) (zs : List Int) (j : Int) (w : World) (hr : RowAt lo hi w 3 1 (.slice A m ca) m (iz zs)) (h0 : 0 ≤ j) (h1 : j ≤ 4611686018427387904) (hz : zs.length = m) (hm : m ≤ 1048576) :
    Calls Try.prog 38 #[pav q k f t l n (.slice A m ca) o, .int .i64 j] w fun e w' => e = .returned (.int .i64 (j + m)) ∧ RowAt lo hi w' 3 1 (.slice A m ca) m (iz (marks j m)) ∧ Only lo hi w w' := by
  have o1 := Own.new w 31 (pac q k f t l n (.slice A m ca) o)
  have hb := below_alloc w (.cells (pac q k f t l n (.slice A m ca) o).toArray 31)
  obtain ⟨a0, a1, a2, a3, a4, a5, a6, a7⟩ := o1.eight
  have HR := Lib.hid (hr.grow hb)
  clear hr o1
  go_enter Try.func38, Try.ntmps38
  go_wp2_with fail
  clear a0 a1 a2 a3 a4 a5 a6 a7
  refine (markIntS_at (.slice A m ca) lo hi m zs j _ HR.out h0 h1 hz hm).mono ?_
  rintro e w1 ⟨rfl, hr2, hO⟩
  have HO := Lib.hid (Only.trans (Only.of_below hb lo hi) hO)
  have HR2 := Lib.hid hr2
  clear HR hO hr2 hb
  go_wp2
  go_ret
  exact ⟨rfl, HR2.out, HO.out⟩
set_option maxHeartbeats 400000 in
theorem heldPane_any (q k f t l n : Int) (o : Bool) (A : Option Addr) (m ca : Nat) (j : Int) (w : World) (hA : Rd w A (iz (marks j m))) (h0 : 0 ≤ j) (h1 : j ≤ 4611686018427387904) (hm : m ≤ 1048576) :
    Calls Try.prog 39 #[pav q k f t l n (.slice A m ca) o, .int .i64 j] w fun e w' => e = .returned (.int .i64 (j + m)) ∧ Below w.heap.size w w' := by
  have o1 := Own.new w 31 (pac q k f t l n (.slice A m ca) o)
  have hb := below_alloc w (.cells (pac q k f t l n (.slice A m ca) o).toArray 31)
  obtain ⟨a0, a1, a2, a3, a4, a5, a6, a7⟩ := o1.eight
  have HA := Lib.hid (hA.below hb)
  clear hA o1
  have hp : decide (j + (m : Int) < 0) = false := by simp; omega
  go_enter Try.func39, Try.ntmps39
  go_wp2_with (go_at_call 85; refine (heldIntS_any A ca m j _ HA.out h0 h1 hm).mono ?_; rintro e w' ⟨rfl, rfl⟩)
  go_ret
  exact ⟨rfl, hb⟩
end Go.Proofs.Ytlmlckgnmkjkdaa

/-
  A region in whatever order, by an invariant: what the slots hold of the operations that were listed, and what the world holds.
-/
namespace Go.Proofs.Ytlmlckgnmkjkdaa
open Go.RowKit

/-- L, and i too -/
def upd (L : Nat → Bool) (i : Nat) : Nat → Bool := fun j => if j = i then true else L j
theorem upd_at (L : Nat → Bool) (i : Nat) : upd L i i = true := by simp [upd]
theorem upd_ne {L : Nat → Bool} {i j : Nat} (h : j ≠ i) : upd L i j = L j := by simp [upd, h]
/-- how many of the first n are listed -/
def cnt (n : Nat) (L : Nat → Bool) : Nat := ((List.range n).filter L).length
theorem filter_more {l : List Nat} {L : Nat → Bool} {i : Nat} (hn : l.Nodup) (hi : i ∈ l) (hL : L i = false) : (l.filter (upd L i)).length = (l.filter L).length + 1 := by
  induction l with
  | nil => cases hi
  | cons x l ih =>
    rw [List.nodup_cons] at hn
    by_cases e : x = i
    · subst e
      have : l.filter (upd L x) = l.filter L := List.filter_congr fun y hy => upd_ne (by rintro rfl; exact hn.1 hy)
      simp [upd_at, hL, this]
    · have hi' : i ∈ l := by rcases List.mem_cons.1 hi with h | h; exact absurd h.symm e; exact h
      have := ih hn.2 hi'
      rw [List.filter_cons, List.filter_cons, upd_ne e]
      split <;> simp [this]
theorem cnt_upd {n i : Nat} {L : Nat → Bool} (hi : i < n) (hL : L i = false) : cnt n (upd L i) = cnt n L + 1 := filter_more List.nodup_range (List.mem_range.2 hi) hL
theorem cnt_le (n : Nat) (L : Nat → Bool) : cnt n L ≤ n := by
  have := List.length_filter_le L (List.range n)
  simpa [cnt] using this
theorem cnt_lt {n i : Nat} {L : Nat → Bool} (hi : i < n) (hL : L i = false) : cnt n L + 1 ≤ n := by
  rw [← cnt_upd hi hL]; exact cnt_le _ _

/-- each operation waits for earlier ones alone -/
def earlierB (ops : Array Oper) : Bool := (List.range ops.size).all fun i => ((ops[i]?).map fun o => o.after.all fun e => !Region.binds .any e || decide (e.on < i)).getD true
theorem earlierB_spec {ops : Array Oper} (h : earlierB ops = true) {i : Nat} {o : Oper} (hi : ops[i]? = some o) {e} (he : e ∈ o.after) (hb : Region.binds .any e = true) : e.on < i := by
  have hlt : i < ops.size := (Array.getElem?_eq_some_iff.1 hi).1
  have := List.all_eq_true.1 h i (List.mem_range.2 hlt)
  rw [hi] at this
  simp only [Option.map_some, Option.getD_some, Array.all_eq_true_iff_forall_mem, Bool.or_eq_true, Bool.not_eq_true', decide_eq_true_eq] at this
  rcases this e he with h' | h'
  · rw [hb] at h'; cases h'
  · exact h'

section
variable {P : Program} {ops : Array Oper} {Q : Exit → Act → World → Prop}
theorem wpOp_value {i : Nat} {o : Oper} {K : Act → World → Prop} {a : Act} {w w' : World} {v : Value} (hi : ops[i]? = some o) (hg : o.guard = none) (hr : (execOp a.eval o).run P w = .ok (.value v) w') (hK : K (a.put o.dst v) w') : wpOp P ops Q i K a w := by
  unfold wpOp
  have hw : Region.wanted o (yielded ops a.tmps) = true := by simp [Region.wanted, hg]
  simp only [hi, hw, if_true]
  left
  unfold Oper.wp
  rw [hr]
  exact hK
theorem wpOp_skip {i : Nat} {o : Oper} {K : Act → World → Prop} {a : Act} {w w' : World} (hi : ops[i]? = some o) (hg : o.guard = none) (hr : (execOp a.eval o).run P w = .ok .skip w') (hK : K (a.put o.dst undef) w') : wpOp P ops Q i K a w := by
  unfold wpOp
  have hw : Region.wanted o (yielded ops a.tmps) = true := by simp [Region.wanted, hg]
  simp only [hi, hw, if_true]
  left
  unfold Oper.wp
  rw [hr]
  exact hK
theorem wpOp_enter {i : Nat} {o : Oper} {K : Act → World → Prop} {a : Act} {w w' : World} {f : FuncId} {args : Array Value} (hi : ops[i]? = some o) (hg : o.guard = none) (hr : (execOp a.eval o).run P w = .ok (.enter f args) w')
    (hc : Calls P f args w' fun e w'' => ∃ v, e = .returned v ∧ K (a.put o.dst v) w'') : wpOp P ops Q i K a w := by
  unfold wpOp
  have hw : Region.wanted o (yielded ops a.tmps) = true := by simp [Region.wanted, hg]
  simp only [hi, hw, if_true]
  left
  unfold Oper.wp
  rw [hr]
  refine hc.mono ?_
  rintro e w'' ⟨v, rfl, hK⟩
  exact hK

theorem wpAny_inv (Inv : (Nat → Bool) → Act → World → Prop) (he : earlierB ops = true)
    (hstep : ∀ (L : Nat → Bool) (i : Nat) (o : Oper) (a : Act) (w : World), ops[i]? = some o → L i = false → (∀ e ∈ o.after, Region.binds .any e = true → L e.on = true) → Inv L a w → wpOp P ops Q i (Inv (upd L i)) a w)
    (hend : ∀ (L : Nat → Bool) (a : Act) (w : World), (∀ i, i < ops.size → L i = true) → Inv L a w → Q .normal a w) :
    ∀ (fuel : Nat) (listed : Array Bool) (a : Act) (w : World), listed.size = ops.size → ops.size ≤ fuel + cnt ops.size (fun j => listed.getD j false) → Inv (fun j => listed.getD j false) a w → wpAny P .any ops Q fuel listed a w := by
  have none_all : ∀ (listed : Array Bool), listed.size = ops.size → Region.ready .any ops listed = [] → ∀ i, i < ops.size → listed.getD i false = true := by
    intro listed hs hr i
    induction i using Nat.strongRecOn with
    | _ i ih =>
      intro hi
      cases hb : listed.getD i false with
      | true => rfl
      | false =>
        exfalso
        have ho : ops[i]? = some ops[i] := Array.getElem?_eq_getElem hi
        have : i ∈ Region.ready .any ops listed := by
          rw [mem_ready]
          refine ⟨?_, ops[i], ho, fun e hem hbe => ih e.on (earlierB_spec he ho hem hbe) (Nat.lt_trans (earlierB_spec he ho hem hbe) hi)⟩
          rw [Array.getD_eq_getD_getElem?] at hb ⊢
          rw [Array.getElem?_eq_getElem (by omega)] at hb ⊢
          exact hb
        rw [hr] at this
        cases this
  intro fuel
  induction fuel with
  | zero =>
    intro listed a w hs hf hI
    have hall : ∀ i, i < ops.size → listed.getD i false = true := by
      intro i hi
      cases hb : listed.getD i false with
      | true => rfl
      | false => have := cnt_lt (L := fun j => listed.getD j false) hi hb; omega
    refine ⟨?_, hend _ _ _ hall hI⟩
    cases hr : Region.ready .any ops listed with
    | nil => rfl
    | cons i l =>
      exfalso
      have hm : i ∈ Region.ready .any ops listed := by rw [hr]; exact List.mem_cons_self ..
      obtain ⟨h1, o, ho, _⟩ := mem_ready.1 hm
      have hi : i < ops.size := (Array.getElem?_eq_some_iff.1 ho).1
      have h2 := hall i hi
      rw [Array.getD_eq_getD_getElem?, Array.getElem?_eq_getElem (by omega)] at h1 h2
      simp only [Option.getD_some] at h1 h2
      rw [h1] at h2
      cases h2
  | succ fuel ih =>
    intro listed a w hs hf hI
    refine ⟨fun hr => hend _ _ _ (none_all listed hs hr) hI, fun i hm => ?_⟩
    obtain ⟨h1, o, ho, hall⟩ := mem_ready.1 hm
    have hi : i < ops.size := (Array.getElem?_eq_some_iff.1 ho).1
    have h1' : listed.getD i false = false := by
      rw [Array.getD_eq_getD_getElem?, Array.getElem?_eq_getElem (by omega)] at h1 ⊢
      exact h1
    have hfun : (fun j => (listed.setIfInBounds i true).getD j false) = upd (fun j => listed.getD j false) i := by
      funext j
      by_cases e : j = i
      · subst e
        rw [upd_at, Array.getD_eq_getD_getElem?, Array.getElem?_setIfInBounds_self_of_lt (by omega)]
        rfl
      · rw [upd_ne e, Array.getD_eq_getD_getElem?, Array.getElem?_setIfInBounds_ne (fun h => e h.symm), ← Array.getD_eq_getD_getElem?]
    refine wpOp_mono (fun a' w' hI' => ih _ a' w' (by simpa using hs) ?_ ?_) (hstep _ i o a w ho h1' hall hI)
    · rw [hfun, cnt_upd hi h1']; omega
    · rw [hfun]; exact hI'

theorem wp_region_inv {id : Nat} {a : Act} {w : World} (Inv : (Nat → Bool) → Act → World → Prop) (hm : P.follows .mixedOrders = true) (he : earlierB ops = true) (h0 : Inv (fun _ => false) a w.drew)
    (hstep : ∀ (L : Nat → Bool) (i : Nat) (o : Oper) (a : Act) (w : World), ops[i]? = some o → L i = false → (∀ e ∈ o.after, Region.binds .any e = true → L e.on = true) → Inv L a w → wpOp P ops Q i (Inv (upd L i)) a w)
    (hend : ∀ (L : Nat → Bool) (a : Act) (w : World), (∀ i, i < ops.size → L i = true) → Inv L a w → Q .normal a w) : (Code.region id ops true).wp P Q a w := by
  refine wp_region_any hm (wpAny_inv Inv he hstep hend ops.size _ a _ (by simp) (by omega) ?_)
  have : (fun j => (Array.replicate ops.size false).getD j false) = fun _ => false := by
    funext j
    rw [Array.getD_eq_getD_getElem?]
    by_cases h : j < ops.size
    · simp [h]
    · rw [Array.getElem?_eq_none (by simp; omega)]; rfl
  rw [this]
  exact h0
end

/-! ### what the slots hold -/

/-- Blocks other than g and r are as they were. -/
structure Ext (g r : Nat) (w w' : World) : Prop where
  size : w.heap.size ≤ w'.heap.size
  block : ∀ k, k < w.heap.size → k ≠ g → k ≠ r → w'.heap[k]? = w.heap[k]?
theorem Ext.refl (g r : Nat) (w : World) : Ext g r w w := ⟨Nat.le_refl _, fun _ _ _ _ => rfl⟩
theorem Ext.of {g r : Nat} {w w' : World} (h : w.grownBy w' (some g)) : Ext g r w w' := ⟨h.size, fun k hk hg _ => h.block k hk (by simpa using hg)⟩
theorem Ext.below {g r : Nat} {w w' : World} (h : Below w.heap.size w w') : Ext g r w w' := ⟨h.size, fun k hk _ _ => h.block k hk⟩
theorem Ext.set {g r j : Nat} {w : World} (u : Value) : Ext g r w (w.setCell ⟨r, j, none⟩ u) := ⟨by simp, fun k _ _ hr => Below.heap_setCell w ⟨r, j, none⟩ u k (by show k ≠ r; exact hr)⟩

inductive Kd where
  | is (v : Value)
  | nat (N : Nat)
  | int
  | lit (n : Nat)
  | cell
  | row (b s N : Nat)
def Kd.ok (lo : Nat) : Kd → World → Value → Prop
  | .is v, _, u => u = v
  | .nat N, _, u => ∃ r : Nat, r < N ∧ u = .int .i64 r
  | .int, _, u => ∃ z : Int, u = .int .i64 z
  | .lit n, w, u => ∃ h zs, u = .slice (some ⟨h, 0, none⟩) n n ∧ lo ≤ h ∧ zs.length = n ∧ Own w h 3 (iz zs)
  | .cell, w, u => ∃ h j zs, u = .pointer (some ⟨h, j, none⟩) ∧ lo ≤ h ∧ j < zs.length ∧ Own w h 3 (iz zs)
  | .row b s N, _, u => ∃ r : Nat, r < N ∧ u = .pointer (some ⟨b, r * s, none⟩)
theorem Kd.ok.mono {lo g r : Nat} {k : Kd} {w w' : World} {u : Value} (h : k.ok lo w u) (hE : Ext g r w w') (hg : g < lo) (hr : r < lo) : k.ok lo w' u := by
  cases k with
  | is v => exact h
  | nat N => exact h
  | int => exact h
  | lit n =>
    obtain ⟨h, zs, e, hl, hz, ho⟩ := h
    exact ⟨h, zs, e, hl, hz, (hE.block h ho.lt (by omega) (by omega)).trans ho⟩
  | cell =>
    obtain ⟨h, j, zs, e, hl, hz, ho⟩ := h
    exact ⟨h, j, zs, e, hl, hz, (hE.block h ho.lt (by omega) (by omega)).trans ho⟩
  | row b s N => exact h

/-- each operation writes a slot of its own, none of the kept ones -/
def slotsB (ops : Array Oper) (keep : List Nat) (N : Nat) : Bool :=
  (List.range ops.size).all fun i => match (ops[i]?).bind (·.dst) with
    | none => true
    | some d => decide (d < N) && !keep.contains d && (List.range ops.size).all fun j => decide (j = i) || ((ops[j]?).bind (·.dst) != some d)
theorem slotsB_spec {ops : Array Oper} {keep : List Nat} {N : Nat} (h : slotsB ops keep N = true) {i : Nat} {o : Oper} {d : Nat} (hi : ops[i]? = some o) (hd : o.dst = some d) :
    d < N ∧ d ∉ keep ∧ ∀ j o', ops[j]? = some o' → j ≠ i → o'.dst ≠ some d := by
  have hlt : i < ops.size := (Array.getElem?_eq_some_iff.1 hi).1
  have h1 := List.all_eq_true.1 h i (List.mem_range.2 hlt)
  simp only [hi, Option.bind_some, hd, Bool.and_eq_true, decide_eq_true_eq, Bool.not_eq_true', List.all_eq_true, List.mem_range, Bool.or_eq_true] at h1
  refine ⟨h1.1.1, by simpa using h1.1.2, fun j o' hj hne hd' => ?_⟩
  have hjl : j < ops.size := (Array.getElem?_eq_some_iff.1 hj).1
  rcases h1.2 j hjl with e | e
  · exact hne e
  · simp [hj, hd'] at e

structure RInv (ops : Array Oper) (kinds : List Kd) (keep : List (Nat × Value)) (N lo : Nat) (ds : List Deferred) (MEM : (Nat → Bool) → World → Prop) (L : Nat → Bool) (a : Act) (w : World) : Prop where
  size : a.tmps.size = N
  defers : a.defers = ds
  kept : ∀ p ∈ keep, a.tmps[p.1]? = some p.2
  vals : ∀ i o d k, ops[i]? = some o → o.dst = some d → L i = true → kinds[i]? = some k → ∃ v, a.tmps[d]? = some v ∧ k.ok lo w v
  mem : MEM L w
section
variable {ops : Array Oper} {kinds : List Kd} {keep : List (Nat × Value)} {N lo g r : Nat} {ds : List Deferred} {MEM : (Nat → Bool) → World → Prop} {L : Nat → Bool} {a : Act} {w w' : World}
theorem RInv.value (h : RInv ops kinds keep N lo ds MEM L a w) {i : Nat} {o : Oper} {d : Nat} {k : Kd} {v : Value} (hi : ops[i]? = some o) (hd : o.dst = some d) (hk : kinds[i]? = some k) (hb : slotsB ops (keep.map (·.1)) N = true)
    (hv : k.ok lo w' v) (hE : Ext g r w w') (hg : g < lo) (hr : r < lo) (hM : MEM (upd L i) w') : RInv ops kinds keep N lo ds MEM (upd L i) (a.put o.dst v) w' := by
  obtain ⟨hdN, hdk, hdo⟩ := slotsB_spec hb hi hd
  rw [hd]
  refine ⟨?_, h.defers, fun p hp => ?_, fun j o' d' k' hj hd' hL hk' => ?_, hM⟩
  · simp [Act.put, h.size]
  · have hne : d ≠ p.1 := fun e => hdk (by rw [e]; exact List.mem_map_of_mem hp)
    simp only [Act.put]
    rw [Array.getElem?_setIfInBounds_ne hne]
    exact h.kept p hp
  · by_cases e : j = i
    · subst e
      obtain rfl : o = o' := by rw [hi] at hj; injection hj
      obtain rfl : d = d' := by rw [hd] at hd'; injection hd'
      obtain rfl : k = k' := by rw [hk] at hk'; injection hk'
      refine ⟨v, ?_, hv⟩
      simp only [Act.put]
      rw [Array.getElem?_setIfInBounds_self_of_lt (by rw [h.size]; exact hdN)]
    · rw [upd_ne e] at hL
      obtain ⟨u, hu, hok⟩ := h.vals j o' d' k' hj hd' hL hk'
      refine ⟨u, ?_, hok.mono hE hg hr⟩
      have hne : d ≠ d' := fun e' => hdo j o' hj e (by rw [hd', e'])
      simp only [Act.put]
      rw [Array.getElem?_setIfInBounds_ne hne]
      exact hu
theorem RInv.none (h : RInv ops kinds keep N lo ds MEM L a w) {i : Nat} {o : Oper} (hi : ops[i]? = some o) (hd : o.dst = none) (hE : Ext g r w w') (hg : g < lo) (hr : r < lo) (hM : MEM (upd L i) w') (v : Value) : RInv ops kinds keep N lo ds MEM (upd L i) (a.put o.dst v) w' := by
  rw [hd]
  refine ⟨h.size, h.defers, h.kept, fun j o' d' k' hj hd' hL hk' => ?_, hM⟩
  by_cases e : j = i
  · subst e
    obtain rfl : o = o' := by rw [hi] at hj; injection hj
    rw [hd] at hd'; cases hd'
  · rw [upd_ne e] at hL
    obtain ⟨u, hu, hok⟩ := h.vals j o' d' k' hj hd' hL hk'
    exact ⟨u, hu, hok.mono hE hg hr⟩
/-- what slot d holds, once operation j is listed -/
theorem RInv.at (h : RInv ops kinds keep N lo ds MEM L a w) (j : Nat) {o : Oper} {d : Nat} {k : Kd} (hj : ops[j]? = some o) (hd : o.dst = some d) (hk : kinds[j]? = some k) (hL : L j = true) : ∃ v, a.tmps[d]? = some v ∧ k.ok lo w v := h.vals j o d k hj hd hL hk
theorem RInv.held (h : RInv ops kinds keep N lo ds MEM L a w) {s : Nat} {v : Value} (hp : (s, v) ∈ keep) : a.tmps[s]? = some v := h.kept _ hp
theorem eval_of {s : Nat} {v : Value} (h : a.tmps[s]? = some v) : a.eval (.tmp s) = v := by simp [Act.eval, Array.getD_eq_getD_getElem?, h]
end
theorem wp_region_rinv {P : Program} {ops : Array Oper} {Q : Exit → Act → World → Prop} {id : Nat} {a : Act} {w : World} (kinds : List Kd) (keep : List (Nat × Value)) (N lo : Nat) (ds : List Deferred) (MEM : (Nat → Bool) → World → Prop) (hm : P.follows .mixedOrders = true) (he : earlierB ops = true) (hsl : slotsB ops (keep.map (·.1)) N = true)
    (h0 : RInv ops kinds keep N lo ds MEM (fun _ => false) a w.drew)
    (hstep : ∀ (L : Nat → Bool) (i : Nat) (o : Oper) (a : Act) (w : World), ops[i]? = some o → L i = false → (∀ e ∈ o.after, Region.binds .any e = true → L e.on = true) → slotsB ops (keep.map (·.1)) N = true → RInv ops kinds keep N lo ds MEM L a w → wpOp P ops Q i (RInv ops kinds keep N lo ds MEM (upd L i)) a w)
    (hend : ∀ (L : Nat → Bool) (a : Act) (w : World), (∀ i, i < ops.size → L i = true) → RInv ops kinds keep N lo ds MEM L a w → Q .normal a w) : (Code.region id ops true).wp P Q a w :=
  wp_region_inv _ hm he h0 (fun L i o a w h1 h2 h3 h4 => hstep L i o a w h1 h2 h3 hsl h4) hend
/-- a frame, slot by slot -/
theorem act_list {a : Act} {N : Nat} {ds : List Deferred} (hs : a.tmps.size = N) (hd : a.defers = ds) : a = ⟨((List.range N).map fun i => a.eval (.tmp i)).toArray, ds⟩ := by
  obtain ⟨t, d⟩ := a
  simp only at hs hd
  subst hd
  congr 1
  apply Array.ext
  · simp [hs]
  · intro i h1 h2
    simp [Act.eval, h1]
theorem rinv_start {ops : Array Oper} {kinds : List Kd} {keep : List (Nat × Value)} {N lo : Nat} {ds : List Deferred} {MEM : (Nat → Bool) → World → Prop} {a : Act} {w : World} (hs : a.tmps.size = N) (hd : a.defers = ds) (hk : ∀ p ∈ keep, a.tmps[p.1]? = some p.2) (hM : MEM (fun _ => false) w) : RInv ops kinds keep N lo ds MEM (fun _ => false) a w :=
  ⟨hs, hd, hk, (fun _ _ _ _ _ _ h _ => absurd h (by simp)), hM⟩
end Go.Proofs.Ytlmlckgnmkjkdaa

/-
  A region in whatever order, by an invariant: for each operation that was listed a predicate of what its slot holds (it may hang on what is listed and on the world), and what the world holds.
-/
namespace Go.Proofs.Ytlmlckgnmkjkdaa
open Go.RowKit

abbrev Kinds := Nat → (Nat → Bool) → World → Value → Prop
structure KInv (ops : Array Oper) (K : Kinds) (keep : List (Nat × Value)) (N : Nat) (ds : List Deferred) (MEM : (Nat → Bool) → World → Prop) (L : Nat → Bool) (a : Act) (w : World) : Prop where
  size : a.tmps.size = N
  defers : a.defers = ds
  kept : ∀ p ∈ keep, a.tmps[p.1]? = some p.2
  vals : ∀ i o d, ops[i]? = some o → o.dst = some d → L i = true → ∃ v, a.tmps[d]? = some v ∧ K i L w v
  mem : MEM L w
  closed : ∀ j o, ops[j]? = some o → L j = true → ∀ e ∈ o.after, Region.binds .any e = true → L e.on = true
section
variable {ops : Array Oper} {K : Kinds} {keep : List (Nat × Value)} {N : Nat} {ds : List Deferred} {MEM : (Nat → Bool) → World → Prop} {L : Nat → Bool} {a : Act} {w w' : World}
theorem closed_upd {i : Nat} {o : Oper} (h : ∀ j o, ops[j]? = some o → L j = true → ∀ e ∈ o.after, Region.binds .any e = true → L e.on = true) (hi : ops[i]? = some o) (hdep : ∀ e ∈ o.after, Region.binds .any e = true → L e.on = true) :
    ∀ j o, ops[j]? = some o → upd L i j = true → ∀ e ∈ o.after, Region.binds .any e = true → upd L i e.on = true := fun j o' hj hL e he hb => by
  have up : ∀ k, L k = true → upd L i k = true := fun k hk => by unfold upd; split <;> simp [hk]
  by_cases hji : j = i
  · subst hji
    obtain rfl : o = o' := by rw [hi] at hj; injection hj
    exact up _ (hdep e he hb)
  · rw [upd_ne hji] at hL
    exact up _ (h j o' hj hL e he hb)
theorem KInv.value (h : KInv ops K keep N ds MEM L a w) {i : Nat} {o : Oper} {d : Nat} {v : Value} (hi : ops[i]? = some o) (hd : o.dst = some d) (hb : slotsB ops (keep.map (·.1)) N = true) (hdep : ∀ e ∈ o.after, Region.binds .any e = true → L e.on = true)
    (hv : K i (upd L i) w' v) (hK : ∀ j u, j ≠ i → L j = true → K j L w u → K j (upd L i) w' u) (hM : MEM (upd L i) w') : KInv ops K keep N ds MEM (upd L i) (a.put o.dst v) w' := by
  obtain ⟨hdN, hdk, hdo⟩ := slotsB_spec hb hi hd
  rw [hd]
  refine ⟨?_, h.defers, fun p hp => ?_, fun j o' d' hj hd' hL => ?_, hM, closed_upd h.closed hi hdep⟩
  · simp [Act.put, h.size]
  · have hne : d ≠ p.1 := fun e => hdk (by rw [e]; exact List.mem_map_of_mem hp)
    simp only [Act.put]
    rw [Array.getElem?_setIfInBounds_ne hne]
    exact h.kept p hp
  · by_cases e : j = i
    · subst e
      obtain rfl : o = o' := by rw [hi] at hj; injection hj
      obtain rfl : d = d' := by rw [hd] at hd'; injection hd'
      refine ⟨v, ?_, hv⟩
      simp only [Act.put]
      rw [Array.getElem?_setIfInBounds_self_of_lt (by rw [h.size]; exact hdN)]
    · rw [upd_ne e] at hL
      obtain ⟨u, hu, hok⟩ := h.vals j o' d' hj hd' hL
      refine ⟨u, ?_, hK j u e hL hok⟩
      have hne : d ≠ d' := fun e' => hdo j o' hj e (by rw [hd', e'])
      simp only [Act.put]
      rw [Array.getElem?_setIfInBounds_ne hne]
      exact hu
theorem KInv.none (h : KInv ops K keep N ds MEM L a w) {i : Nat} {o : Oper} (hi : ops[i]? = some o) (hd : o.dst = none) (hdep : ∀ e ∈ o.after, Region.binds .any e = true → L e.on = true)
    (hK : ∀ j o' d u, j ≠ i → ops[j]? = some o' → o'.dst = some d → a.tmps[d]? = some u → L j = true → K j L w u → K j (upd L i) w' u) (hM : MEM (upd L i) w') (v : Value) : KInv ops K keep N ds MEM (upd L i) (a.put o.dst v) w' := by
  rw [hd]
  refine ⟨h.size, h.defers, h.kept, fun j o' d' hj hd' hL => ?_, hM, closed_upd h.closed hi hdep⟩
  by_cases e : j = i
  · subst e
    obtain rfl : o = o' := by rw [hi] at hj; injection hj
    rw [hd] at hd'; cases hd'
  · rw [upd_ne e] at hL
    obtain ⟨u, hu, hok⟩ := h.vals j o' d' hj hd' hL
    exact ⟨u, hu, hK j o' d' u e hj hd' hu hL hok⟩
/-- what slot d holds, once operation j is listed -/
theorem KInv.at (h : KInv ops K keep N ds MEM L a w) (j : Nat) {o : Oper} {d : Nat} (hj : ops[j]? = some o) (hd : o.dst = some d) (hL : L j = true) : ∃ v, a.tmps[d]? = some v ∧ K j L w v := h.vals j o d hj hd hL
theorem KInv.held (h : KInv ops K keep N ds MEM L a w) {s : Nat} {v : Value} (hp : (s, v) ∈ keep) : a.tmps[s]? = some v := h.kept _ hp
end
theorem wp_region_kinv {P : Program} {ops : Array Oper} {Q : Exit → Act → World → Prop} {id : Nat} {a : Act} {w : World} (K : Kinds) (keep : List (Nat × Value)) (N : Nat) (ds : List Deferred) (MEM : (Nat → Bool) → World → Prop) (hm : P.follows .mixedOrders = true) (he : earlierB ops = true) (hsl : slotsB ops (keep.map (·.1)) N = true)
    (hs : a.tmps.size = N) (hd : a.defers = ds) (hk : ∀ p ∈ keep, a.tmps[p.1]? = some p.2) (hM : MEM (fun _ => false) w.drew)
    (hstep : ∀ (L : Nat → Bool) (i : Nat) (o : Oper) (a : Act) (w : World), ops[i]? = some o → L i = false → (∀ e ∈ o.after, Region.binds .any e = true → L e.on = true) → slotsB ops (keep.map (·.1)) N = true → KInv ops K keep N ds MEM L a w → wpOp P ops Q i (KInv ops K keep N ds MEM (upd L i)) a w)
    (hend : ∀ (L : Nat → Bool) (a : Act) (w : World), (∀ i, i < ops.size → L i = true) → KInv ops K keep N ds MEM L a w → Q .normal a w) : (Code.region id ops true).wp P Q a w :=
  wp_region_inv _ hm he ⟨hs, hd, hk, (fun _ _ _ _ _ h => absurd h (by simp)), hM, (fun _ _ _ h => absurd h (by simp))⟩ (fun L i o a w h1 h2 h3 h4 => hstep L i o a w h1 h2 h3 hsl h4) hend
theorem row_apart {lo hi X v s n : Nat} {W : World} {t e : TypeId} {ds cs : List Value} {u : Value} (h : RowAt lo hi W t s u n cs) (hX : Own W X e ds) (hte : e ≠ t) (hl : v ≤ lo) (hh : hi ≤ W.heap.size) (hv : v ≤ X) :
    ∃ lo' hi', RowAt lo' hi' W t s u n cs ∧ v ≤ lo' ∧ hi' ≤ W.heap.size ∧ (X < lo' ∨ hi' ≤ X) := by
  obtain ⟨⟨h1, h2⟩, h3⟩ := h
  rcases h2 with h2 | ⟨g, cap, cur, hv', hg, hb, r⟩
  · refine ⟨v, v, ⟨⟨h1, .inl h2⟩, fun k hk => ?_⟩, Nat.le_refl _, Nat.le_trans hv (Nat.le_of_lt hX.lt), .inr hv⟩
    rw [h2.1] at hk; cases hk
  · have hgh := h3 g (by rw [hv']; rfl)
    have hne : g ≠ X := by
      rintro rfl
      unfold Own at hX
      rw [hb] at hX
      simp at hX
      exact hte hX.2.symm
    refine ⟨g, g + 1, ⟨⟨h1, .inr ⟨g, cap, cur, hv', Nat.le_refl _, hb, r⟩⟩, fun k hk => ?_⟩, by omega, by omega, by omega⟩
    rw [hv'] at hk
    simp [Value.ownBlock] at hk
    omega
theorem RowAt.setFar {lo hi s n : Nat} {w : World} {t : TypeId} {v : Value} {cs : List Value} (h : RowAt lo hi w t s v n cs) (p : Addr) (u : Value) (hp : p.block < lo ∨ hi ≤ p.block) : RowAt lo hi (w.setCell p u) t s v n cs :=
  h.move (fun k h1 h2 => Below.heap_setCell w p u k (by omega))
end Go.Proofs.Ytlmlckgnmkjkdaa

/-
  The law on PaneOf: at all arguments the program answers as the model in every field, writes into no argument, and its answer owns its memory. WRITTEN BY tools/genpl.py.
-/
namespace Go.Proofs.Ytlmlckgnmkjkdaa
open Go.RowKit

/-! the regions that draw -/
def kPofA (v0 : World) (id key f t lab kd s st kq kk N h lw mn mx rq rk rf rt rl rn : Int) (F M A : Option Addr) (n cf m cm j ca ln : Nat) (fs ms : List (Int × Int)) (ts R : List Int) (ro rb : Bool) : Kinds
  | 0, _, _, v => v = .int .i64 id
  | 1, _, _, v => v = qv (.slice F n cf) (.slice M m cm) kd s st kq kk
  | 2, L, W, v => ∃ g g', v = qv (.slice (some ⟨g, 0, none⟩) n n) (.slice (some ⟨g', 0, none⟩) m m) kd s st kq kk ∧ (L 14 = false → Rd W (some ⟨g, 0, none⟩) (ez fs) ∧ Rd W (some ⟨g', 0, none⟩) (ez ms))
  | 3, _, _, v => v = .int .i64 key
  | 4, _, _, v => v = .agg #[.int .i64 f, .int .i64 t]
  | 5, _, _, v => v = .agg #[.int .i64 f, .int .i64 t]
  | 6, _, _, v => v = .int .i64 lab
  | 7, _, _, v => v = agv N h lw mn mx (.slice A j ca)
  | 8, L, W, v => ∃ g, v = agv N h lw mn mx (.slice (some ⟨g, 0, none⟩) j j) ∧ (L 14 = false → Rd W (some ⟨g, 0, none⟩) (iz ts))
  | 9, L, W, v => ∃ B c, v = .tuple #[pav rq rk rf rt rl rn (.slice B ln c) ro, .bool rb] ∧ (L 14 = false → ∃ lo hi, RowAt lo hi W 3 1 (.slice B ln c) ln (iz R) ∧ v0.heap.size ≤ lo ∧ hi ≤ W.heap.size)
  | 10, L, W, v => ∃ B c, v = .tuple #[pav rq rk rf rt rl rn (.slice B ln c) ro, .bool rb] ∧ (L 14 = false → ∃ lo hi, RowAt lo hi W 3 1 (.slice B ln c) ln (iz R) ∧ v0.heap.size ≤ lo ∧ hi ≤ W.heap.size)
  | 11, L, W, v => ∃ B c, v = pav rq rk rf rt rl rn (.slice B ln c) ro ∧ (L 14 = false → ∃ lo hi, RowAt lo hi W 3 1 (.slice B ln c) ln (iz R) ∧ v0.heap.size ≤ lo ∧ hi ≤ W.heap.size)
  | 12, _, _, v => v = .bool rb
  | 13, L, W, v => ∃ X, v = .pointer (some ⟨X, 0, none⟩) ∧ v0.heap.size ≤ X ∧ (L 14 = false → Own W X 31 (pac 0 0 0 0 0 0 (.slice none 0 0) false)) ∧ (L 14 = true → ∃ B c lo hi, Own W X 31 (pac rq rk rf rt rl rn (.slice B ln c) ro) ∧ RowAt lo hi W 3 1 (.slice B ln c) ln (iz R) ∧ v0.heap.size ≤ lo ∧ hi ≤ W.heap.size ∧ (X < lo ∨ hi ≤ X))
  | 15, _, _, v => v = .bool rb
  | _, _, _, _ => True
theorem kPofA_mono (v0 : World) (id key f t lab kd s st kq kk N h lw mn mx rq rk rf rt rl rn : Int) (F M A : Option Addr) (n cf m cm j ca ln : Nat) (fs ms : List (Int × Int)) (ts R : List Int) (ro rb : Bool) {ix jx : Nat} {L : Nat → Bool} {W W' : World} {ux : Value} (hix : 14 ≠ ix) (hbx : Below W.heap.size W W') (hk : kPofA v0 id key f t lab kd s st kq kk N h lw mn mx rq rk rf rt rl rn F M A n cf m cm j ca ln fs ms ts R ro rb jx L W ux) : kPofA v0 id key f t lab kd s st kq kk N h lw mn mx rq rk rf rt rl rn F M A n cf m cm j ca ln fs ms ts R ro rb jx (upd L ix) W' ux := by
  match jx, hk with
  | 0, hk => exact hk
  | 1, hk => exact hk
  | 2, hk => exact by obtain ⟨g, g', e, hr⟩ := hk; exact ⟨g, g', e, fun hl => by rw [upd_ne (show 14 ≠ ix from hix)] at hl; exact ⟨(hr hl).1.below hbx, (hr hl).2.below hbx⟩⟩
  | 3, hk => exact hk
  | 4, hk => exact hk
  | 5, hk => exact hk
  | 6, hk => exact hk
  | 7, hk => exact hk
  | 8, hk => exact by obtain ⟨g, e, hr⟩ := hk; exact ⟨g, e, fun hl => by rw [upd_ne (show 14 ≠ ix from hix)] at hl; exact (hr hl).below hbx⟩
  | 9, hk => exact by obtain ⟨B, c, e, hr⟩ := hk; exact ⟨B, c, e, fun hl => by rw [upd_ne (show 14 ≠ ix from hix)] at hl; obtain ⟨lo, hi', r, h1, h2⟩ := hr hl; exact ⟨lo, hi', r.grow hbx, h1, Nat.le_trans h2 hbx.size⟩⟩
  | 10, hk => exact by obtain ⟨B, c, e, hr⟩ := hk; exact ⟨B, c, e, fun hl => by rw [upd_ne (show 14 ≠ ix from hix)] at hl; obtain ⟨lo, hi', r, h1, h2⟩ := hr hl; exact ⟨lo, hi', r.grow hbx, h1, Nat.le_trans h2 hbx.size⟩⟩
  | 11, hk => exact by obtain ⟨B, c, e, hr⟩ := hk; exact ⟨B, c, e, fun hl => by rw [upd_ne (show 14 ≠ ix from hix)] at hl; obtain ⟨lo, hi', r, h1, h2⟩ := hr hl; exact ⟨lo, hi', r.grow hbx, h1, Nat.le_trans h2 hbx.size⟩⟩
  | 12, hk => exact hk
  | 13, hk => exact by obtain ⟨X, e, hX, h1, h2⟩ := hk; exact ⟨X, e, hX, fun hl => by rw [upd_ne (show 14 ≠ ix from hix)] at hl; exact (h1 hl).grow hbx, fun hl => by rw [upd_ne (show 14 ≠ ix from hix)] at hl; obtain ⟨B, c, lo, hi', o, r, q1, q2, q3⟩ := h2 hl; exact ⟨B, c, lo, hi', o.grow hbx, r.grow hbx, q1, Nat.le_trans q2 hbx.size, q3⟩⟩
  | 14, _ => trivial
  | 15, hk => exact hk
  | jx + 16, _ => trivial
theorem kPofA_store (v0 : World) (id key f t lab kd s st kq kk N h lw mn mx rq rk rf rt rl rn : Int) (F M A : Option Addr) (n cf m cm j ca ln : Nat) (fs ms : List (Int × Int)) (ts R : List Int) (ro rb : Bool) {jx : Nat} {L : Nat → Bool} {W W' : World} {ux : Value} (hjx : jx ≠ 13) (hk : kPofA v0 id key f t lab kd s st kq kk N h lw mn mx rq rk rf rt rl rn F M A n cf m cm j ca ln fs ms ts R ro rb jx L W ux) : kPofA v0 id key f t lab kd s st kq kk N h lw mn mx rq rk rf rt rl rn F M A n cf m cm j ca ln fs ms ts R ro rb jx (upd L 14) W' ux := by
  match jx, hjx, hk with
  | 0, _, hk => exact hk
  | 1, _, hk => exact hk
  | 2, _, hk => exact by obtain ⟨g, g', e, hr⟩ := hk; exact ⟨g, g', e, fun hl => by rw [upd_at] at hl; cases hl⟩
  | 3, _, hk => exact hk
  | 4, _, hk => exact hk
  | 5, _, hk => exact hk
  | 6, _, hk => exact hk
  | 7, _, hk => exact hk
  | 8, _, hk => exact by obtain ⟨g, e, hr⟩ := hk; exact ⟨g, e, fun hl => by rw [upd_at] at hl; cases hl⟩
  | 9, _, hk => exact by obtain ⟨B, c, e, hr⟩ := hk; exact ⟨B, c, e, fun hl => by rw [upd_at] at hl; cases hl⟩
  | 10, _, hk => exact by obtain ⟨B, c, e, hr⟩ := hk; exact ⟨B, c, e, fun hl => by rw [upd_at] at hl; cases hl⟩
  | 11, _, hk => exact by obtain ⟨B, c, e, hr⟩ := hk; exact ⟨B, c, e, fun hl => by rw [upd_at] at hl; cases hl⟩
  | 12, _, hk => exact hk
  | 13, hjx, _ => exact absurd rfl hjx
  | 14, _, _ => trivial
  | 15, _, hk => exact hk
  | jx + 16, _, _ => trivial
def kPofB (v0 : World) (id key f t lab kd s st kq kk N h lw mn mx rq rk rf rt rl rn : Int) (n m j ln : Nat) (R : List Int) (ro rb : Bool) (g4 g5 g6 : Nat) : Kinds
  | 0, _, _, v => v = .int .i64 id
  | 1, _, _, v => v = qv (.slice (some ⟨g4, 0, none⟩) n n) (.slice (some ⟨g5, 0, none⟩) m m) kd s st kq kk
  | 2, _, _, v => v = .int .i64 key
  | 3, _, _, v => v = .agg #[.int .i64 f, .int .i64 t]
  | 4, _, _, v => v = .agg #[.int .i64 f, .int .i64 t]
  | 5, _, _, v => v = .int .i64 lab
  | 6, _, _, v => v = agv N h lw mn mx (.slice (some ⟨g6, 0, none⟩) j j)
  | 7, L, W, v => ∃ B c, v = .tuple #[pav rq rk rf rt rl rn (.slice B ln c) ro, .bool rb] ∧ (L 12 = false → ∃ lo hi, RowAt lo hi W 3 1 (.slice B ln c) ln (iz R) ∧ v0.heap.size ≤ lo ∧ hi ≤ W.heap.size)
  | 8, L, W, v => ∃ B c, v = .tuple #[pav rq rk rf rt rl rn (.slice B ln c) ro, .bool rb] ∧ (L 12 = false → ∃ lo hi, RowAt lo hi W 3 1 (.slice B ln c) ln (iz R) ∧ v0.heap.size ≤ lo ∧ hi ≤ W.heap.size)
  | 9, L, W, v => ∃ B c, v = pav rq rk rf rt rl rn (.slice B ln c) ro ∧ (L 12 = false → ∃ lo hi, RowAt lo hi W 3 1 (.slice B ln c) ln (iz R) ∧ v0.heap.size ≤ lo ∧ hi ≤ W.heap.size)
  | 10, _, _, v => v = .bool rb
  | 11, L, W, v => ∃ X, v = .pointer (some ⟨X, 0, none⟩) ∧ v0.heap.size ≤ X ∧ (L 12 = false → Own W X 31 (pac 0 0 0 0 0 0 (.slice none 0 0) false)) ∧ (L 12 = true → ∃ B c lo hi, Own W X 31 (pac rq rk rf rt rl rn (.slice B ln c) ro) ∧ RowAt lo hi W 3 1 (.slice B ln c) ln (iz R) ∧ v0.heap.size ≤ lo ∧ hi ≤ W.heap.size ∧ (X < lo ∨ hi ≤ X))
  | 13, _, _, v => v = .bool rb
  | _, _, _, _ => True
theorem kPofB_mono (v0 : World) (id key f t lab kd s st kq kk N h lw mn mx rq rk rf rt rl rn : Int) (n m j ln : Nat) (R : List Int) (ro rb : Bool) (g4 g5 g6 : Nat) {ix jx : Nat} {L : Nat → Bool} {W W' : World} {ux : Value} (hix : 12 ≠ ix) (hbx : Below W.heap.size W W') (hk : kPofB v0 id key f t lab kd s st kq kk N h lw mn mx rq rk rf rt rl rn n m j ln R ro rb g4 g5 g6 jx L W ux) : kPofB v0 id key f t lab kd s st kq kk N h lw mn mx rq rk rf rt rl rn n m j ln R ro rb g4 g5 g6 jx (upd L ix) W' ux := by
  match jx, hk with
  | 0, hk => exact hk
  | 1, hk => exact hk
  | 2, hk => exact hk
  | 3, hk => exact hk
  | 4, hk => exact hk
  | 5, hk => exact hk
  | 6, hk => exact hk
  | 7, hk => exact by obtain ⟨B, c, e, hr⟩ := hk; exact ⟨B, c, e, fun hl => by rw [upd_ne (show 12 ≠ ix from hix)] at hl; obtain ⟨lo, hi', r, h1, h2⟩ := hr hl; exact ⟨lo, hi', r.grow hbx, h1, Nat.le_trans h2 hbx.size⟩⟩
  | 8, hk => exact by obtain ⟨B, c, e, hr⟩ := hk; exact ⟨B, c, e, fun hl => by rw [upd_ne (show 12 ≠ ix from hix)] at hl; obtain ⟨lo, hi', r, h1, h2⟩ := hr hl; exact ⟨lo, hi', r.grow hbx, h1, Nat.le_trans h2 hbx.size⟩⟩
  | 9, hk => exact by obtain ⟨B, c, e, hr⟩ := hk; exact ⟨B, c, e, fun hl => by rw [upd_ne (show 12 ≠ ix from hix)] at hl; obtain ⟨lo, hi', r, h1, h2⟩ := hr hl; exact ⟨lo, hi', r.grow hbx, h1, Nat.le_trans h2 hbx.size⟩⟩
  | 10, hk => exact hk
  | 11, hk => exact by obtain ⟨X, e, hX, h1, h2⟩ := hk; exact ⟨X, e, hX, fun hl => by rw [upd_ne (show 12 ≠ ix from hix)] at hl; exact (h1 hl).grow hbx, fun hl => by rw [upd_ne (show 12 ≠ ix from hix)] at hl; obtain ⟨B, c, lo, hi', o, r, q1, q2, q3⟩ := h2 hl; exact ⟨B, c, lo, hi', o.grow hbx, r.grow hbx, q1, Nat.le_trans q2 hbx.size, q3⟩⟩
  | 12, _ => trivial
  | 13, hk => exact hk
  | jx + 14, _ => trivial
theorem kPofB_store (v0 : World) (id key f t lab kd s st kq kk N h lw mn mx rq rk rf rt rl rn : Int) (n m j ln : Nat) (R : List Int) (ro rb : Bool) (g4 g5 g6 : Nat) {jx : Nat} {L : Nat → Bool} {W W' : World} {ux : Value} (hjx : jx ≠ 11) (hk : kPofB v0 id key f t lab kd s st kq kk N h lw mn mx rq rk rf rt rl rn n m j ln R ro rb g4 g5 g6 jx L W ux) : kPofB v0 id key f t lab kd s st kq kk N h lw mn mx rq rk rf rt rl rn n m j ln R ro rb g4 g5 g6 jx (upd L 12) W' ux := by
  match jx, hjx, hk with
  | 0, _, hk => exact hk
  | 1, _, hk => exact hk
  | 2, _, hk => exact hk
  | 3, _, hk => exact hk
  | 4, _, hk => exact hk
  | 5, _, hk => exact hk
  | 6, _, hk => exact hk
  | 7, _, hk => exact by obtain ⟨B, c, e, hr⟩ := hk; exact ⟨B, c, e, fun hl => by rw [upd_at] at hl; cases hl⟩
  | 8, _, hk => exact by obtain ⟨B, c, e, hr⟩ := hk; exact ⟨B, c, e, fun hl => by rw [upd_at] at hl; cases hl⟩
  | 9, _, hk => exact by obtain ⟨B, c, e, hr⟩ := hk; exact ⟨B, c, e, fun hl => by rw [upd_at] at hl; cases hl⟩
  | 10, _, hk => exact hk
  | 11, hjx, _ => exact absurd rfl hjx
  | 12, _, _ => trivial
  | 13, _, hk => exact hk
  | jx + 14, _, _ => trivial
theorem pof_len {q k N z mn mx me : Int} {top L : List Int} {b : Bool} (h : DoneIs q k N z mn mx me top L b) (ht : top.length ≤ 1048576) : L.length ≤ 1048576 := by
  by_cases hd : doneOk q k N z mn mx top
  · have hk : q = 1 ∨ q = 2 ∨ q = 3 ∨ q = 4 ∨ q = 5 ∨ q = 6 := by
      have := hd.1
      unfold kindOk at this
      omega
    rcases hk with rfl | rfl | rfl | rfl | rfl | rfl
    · rw [(h.one hd rfl).1]; simp
    · by_cases hz : I64 z
      · rw [(h.sum hd rfl hz).1]; simp
      · rw [(h.over hd rfl hz).1]; simp
    · rw [(h.least hd rfl).1]; simp
    · rw [(h.most hd rfl).1]; simp
    · rw [(h.mean hd rfl).1]; simp
    · rw [(h.top hd rfl).1, List.length_take]; omega
  · rw [(h.no hd).1]; simp
theorem pof_len2 {ok : Prop} {id key f t lab N : Int} {L : List Int} {ov : Bool} {q k f' t' l n : Int} {R : List Int} {o b : Bool} (h : PofIs ok id key f t lab N L ov q k f' t' l n R o b) (hL : L.length ≤ 1048576) : R.length ≤ 1048576 := by
  by_cases hd : ok
  · rw [← (h.yes hd).2.1]; exact hL
  · rw [(h.no hd).2.1]; simp

set_option maxRecDepth 100000 in
set_option maxHeartbeats 16000000 in
theorem fnExactPaneOf_walk (id : Int) (F : Option Addr) (n cf : Nat) (fs : List (Int × Int)) (M : Option Addr) (m cm : Nat) (ms : List (Int × Int)) (kd s st kq kk key f t lab N h lw mn mx : Int) (A : Option Addr) (j ca : Nat) (ts : List Int) (w : World)
    (hF : Rd w F (ez fs)) (hz : fs.length = n) (hn0 : n ≤ 9223372036854775807) (hM : Rd w M (ez ms)) (hy : ms.length = m) (hm0 : m ≤ 9223372036854775807) (hA : Rd w A (iz ts)) (hx : ts.length = j) (hj0 : j ≤ 9223372036854775807)
    (hh : I64 h) (hlw : U64w lw) (hm64 : I64 mn) (h64 : ∀ x ∈ ts, I64 x) :
    Calls Try.prog 8 #[.int .i64 id, qv (.slice F n cf) (.slice M m cm) kd s st kq kk, .int .i64 key, .agg #[.int .i64 f, .int .i64 t], .int .i64 lab, agv N h lw mn mx (.slice A j ca)] w fun e w' => e = .returned (.bool true) ∧ Below w.heap.size w w' := by
  have HF := Lib.hid (fun W (h : Below w.heap.size w W) => hF.below h)
  have HM := Lib.hid (fun W (h : Below w.heap.size w W) => hM.below h)
  have HA := Lib.hid (fun W (h : Below w.heap.size w W) => hA.below h)
  clear hF hM hA
  have hb := Below.refl w.heap.size w
  by_cases hs : n + m ≤ 1048576
  · by_cases hjj : n + m + j ≤ 1048576
    · have hn : n ≤ 1048576 := by omega
      have hm : m ≤ 1048576 := by omega
      have hj : j ≤ 1048576 := by omega
      obtain ⟨z, hzw, e1, e2⟩ := wide_in hh hlw
      obtain ⟨me, ok, HI1, HS1, _, _⟩ := mean_both (hi z) (lo z) z N hzw rfl rfl
      obtain ⟨L, ov, hD⟩ := done_some kq kk N z mn mx me ts
      have hL := pof_len hD (by omega)
      obtain ⟨rq, rk, rf, rt, rl, rn, R, ro, rb, hP⟩ := pof_some (pofOk id fs ms kd s st kq kk key f t lab N z mn mx ts L ov) id key f t lab N L ov
      have hR := pof_len2 hP hL
      obtain ⟨ln, HMM⟩ : ∃ ln, Hid (R.length = ln) := ⟨_, Lib.hid rfl⟩
      have hln : ln ≤ 1048576 := by rw [← HMM.out]; exact hR
      have HS := Lib.hid (fun g g' g'' W (h1 : Rd W (some ⟨g, 0, none⟩) (ez fs)) (h2 : Rd W (some ⟨g', 0, none⟩) (ez ms)) (h3 : Rd W (some ⟨g'', 0, none⟩) (iz ts)) =>
        show Calls Try.prog 31 #[.int .i64 id, qv (.slice (some ⟨g, 0, none⟩) n n) (.slice (some ⟨g', 0, none⟩) m m) kd s st kq kk, .int .i64 key, .agg #[.int .i64 f, .int .i64 t], .int .i64 lab, agv N _ _ mn mx (.slice (some ⟨g'', 0, none⟩) j j)] W (PaneRes rq rk rf rt rl rn R ln ro rb W) from
        specPaneOf_any id _ n n fs _ m m ms kd s st kq kk key f t lab N z mn mx me ok _ j j ts L ov rq rk rf rt rl rn R ln ro rb W h1 hz hn h2 hy hm h3 hx hj (sfit_nn g'' _) h64 hm64 hzw HS1 hD hL hP HMM.out)
      have HI := Lib.hid (fun g g' g'' W (h1 : Rd W (some ⟨g, 0, none⟩) (ez fs)) (h2 : Rd W (some ⟨g', 0, none⟩) (ez ms)) (h3 : Rd W (some ⟨g'', 0, none⟩) (iz ts)) =>
        show Calls Try.prog 34 #[.int .i64 id, qv (.slice (some ⟨g, 0, none⟩) n n) (.slice (some ⟨g', 0, none⟩) m m) kd s st kq kk, .int .i64 key, .agg #[.int .i64 f, .int .i64 t], .int .i64 lab, agv N _ _ mn mx (.slice (some ⟨g'', 0, none⟩) j j)] W (PaneRes rq rk rf rt rl rn R ln ro rb W) from
        implPaneOf_any id _ n n fs _ m m ms kd s st kq kk key f t lab N z mn mx me ok _ j j ts L ov rq rk rf rt rl rn R ln ro rb W h1 hz hn h2 hy hm h3 hx hj (sfit_nn g'' _) h64 hm64 hzw HI1 hD hL hP HMM.out)
      rw [← e1, ← e2] at HS HI
      clear h64 hzw e1 e2 hh hlw hm64 HI1 HS1 hD hL hP hR
      have hbb : (rb != rb) = false := by simp
      obtain ⟨k1, HK1⟩ : ∃ k1 : Int, Hid (1 + ((n * 2 : Nat) : Int) = k1) := ⟨_, Lib.hid rfl⟩
      obtain ⟨k2, HK2⟩ : ∃ k2 : Int, Hid (k1 + ((m * 2 : Nat) : Int) = k2) := ⟨_, Lib.hid rfl⟩
      obtain ⟨k3, HK3⟩ : ∃ k3 : Int, Hid (k2 + (j : Int) = k3) := ⟨_, Lib.hid rfl⟩
      have hk20 : 0 ≤ k2 := by have := HK1.out; have := HK2.out; omega
      have hk21 : k2 ≤ 4611686018427387904 := by have := HK1.out; have := HK2.out; omega
      have hk3 : ¬ k3 < 0 := by have := HK3.out; omega
      obtain ⟨q1, HQ⟩ : ∃ q1 : Int, Hid (1 + (ln : Int) = q1) := ⟨_, Lib.hid rfl⟩
      have hne2 : (q1 != q1) = false := by simp
      have hq2 : ¬ q1 < 0 := by have := HQ.out; omega
      go_enter Try.func8, Try.ntmps8
      obtain ⟨ba, bw, bg, hb0, -⟩ := box_three (w := w) (c1 := qc (.slice F n cf) (.slice M m cm) kd s st kq kk) (c2 := [.int .i64 f, .int .i64 t]) (c3 := agc N h lw mn mx (.slice A j ca)) (t1 := 36) (t2 := 59) (t3 := 64)
      replace hb := below_trans hb hb0
      clear hb0
      obtain ⟨bac0, bac1, bac2, bac3, bac4, bac5, bac6⟩ := ba.seven
      go_wp2_with fail
      clear bac0 bac1 bac2 bac3 bac4 bac5 bac6
      refine (szQuery_fits F M n cf m cm kd s st kq kk _ hs).mono ?_
      rintro e w2 ⟨left, rfl, hlf, hb2⟩
      have z2 := hb2.size
      rw [World.size_alloc, World.size_alloc, World.size_alloc] at z2
      replace ba := ba.grow hb2
      replace bw := bw.grow hb2
      replace bg := bg.grow hb2
      replace hb := below_trans hb hb2
      clear hb2
      have hlt : ¬ left < 0 := by omega
      obtain ⟨left2, hl2⟩ : ∃ z : Int, left - (j : Int) = z := ⟨_, rfl⟩
      have hle := Lib.hid (show lessF left j = left2 by simp [lessF]; omega)
      have hlt2 : ¬ left2 < 0 := by omega
      have HL := Lib.hid (show 0 ≤ left ∧ left ≤ 1048576 by omega)
      clear hlf hl2
      obtain ⟨bgc0, bgc1, bgc2, bgc3, bgc4, bgc5⟩ := bg.six
      go_wp2_with fail
      clear bgc0 bgc1 bgc2 bgc3 bgc4 bgc5
      refine (as_int hle.out (szAgg_any N h lw mn mx A j ca left _ HL.out.1 HL.out.2 hj0)).mono ?_
      rintro e w3 ⟨rfl, hb3⟩
      have z3 := hb3.size
      replace ba := ba.grow hb3
      replace bw := bw.grow hb3
      replace bg := bg.grow hb3
      replace hb := below_trans hb hb3
      clear hb3
      go_upto_region 8 with (fail)
      go_cut [14, 15] from 25 to 141 (fun sp sq wx => ∃ (X : Nat) (B : Option Addr) (c : Nat), sp = .pointer (some ⟨X, 0, none⟩) ∧ sq = .bool rb ∧ Own wx X 31 (pac rq rk rf rt rl rn (.slice B ln c) ro) ∧ (∃ lo hi, RowAt lo hi wx 3 1 (.slice B ln c) ln (iz R) ∧ w3.heap.size ≤ lo ∧ hi ≤ wx.heap.size ∧ (X < lo ∨ hi ≤ X)) ∧ w3.heap.size ≤ X ∧ Below w3.heap.size w3 wx)
      case first =>
        have TQ := Lib.hid (fun W (hx0 : Below w3.heap.size w3 W) => toQuery_w kd s st kq kk F n cf fs M m cm ms _ (HF.out _ (below_trans hb hx0)) hz hn (HM.out _ (below_trans hb hx0)) hy hm)
        have TA := Lib.hid (fun W (hx0 : Below w3.heap.size w3 W) => toAgg_w N h lw mn mx A j ca ts _ (HA.out _ (below_trans hb hx0)) hx hj)
        refine wp_region_kinv (kPofA w3 id key f t lab kd s st kq kk N h lw mn mx rq rk rf rt rl rn F M A n cf m cm j ca ln fs ms ts R ro rb) [(0, .int .i64 id), (1, qv (.slice F n cf) (.slice M m cm) kd s st kq kk), (2, .int .i64 key), (3, .agg #[.int .i64 f, .int .i64 t]), (4, .int .i64 lab), (5, agv N h lw mn mx (.slice A j ca)), (6, undef), (7, .pointer (some ⟨w.heap.size, 0, none⟩)), (8, undef), (9, .pointer (some ⟨w.heap.size + 1, 0, none⟩)), (10, undef), (11, .pointer (some ⟨w.heap.size + 1 + 1, 0, none⟩)), (12, .bool false), (13, .int .i64 left2), (16, undef), (17, undef), (18, undef), (19, undef), (20, undef), (21, undef), (22, undef), (23, undef), (24, undef)] 142 [] (fun _ W => Below w3.heap.size w3 W) (by kernel_rfl) (by kernel_rfl) (by kernel_rfl) rfl rfl ?hkeep (Below.refl _ _).drew ?hstep ?hfin
        case hkeep =>
          intro p hp
          simp only [List.mem_cons, List.not_mem_nil, or_false] at hp
          rcases hp with rfl | rfl | rfl | rfl | rfl | rfl | rfl | rfl | rfl | rfl | rfl | rfl | rfl | rfl | rfl | rfl | rfl | rfl | rfl | rfl | rfl | rfl | rfl <;> rfl
        case hstep =>
          intro L i o a W hi hLi hdep hsl hI
          have hlt : i < 16 := (Array.getElem?_eq_some_iff.1 hi).1
          have MK : ∀ {i : Nat} {W' : World}, 14 ≠ i → Below W.heap.size W W' → ∀ (jx : Nat) (ux : Value), jx ≠ i → L jx = true → kPofA w3 id key f t lab kd s st kq kk N h lw mn mx rq rk rf rt rl rn F M A n cf m cm j ca ln fs ms ts R ro rb jx L W ux → kPofA w3 id key f t lab kd s st kq kk N h lw mn mx rq rk rf rt rl rn F M A n cf m cm j ca ln fs ms ts R ro rb jx (upd L i) W' ux := fun hix hbx jx ux _ _ hk => kPofA_mono w3 id key f t lab kd s st kq kk N h lw mn mx rq rk rf rt rl rn F M A n cf m cm j ca ln fs ms ts R ro rb hix hbx hk
          have hbk := hI.mem
          match i, hlt with
          | 0, _ =>
            obtain rfl := Option.some.inj hi
            have hx := hI.held (s := 0) (v := .int .i64 id) (by simp)
            exact wpOp_value (v := .int .i64 id) (w' := W) hi rfl (by simp [execOp, go_sem, hx]) (hI.value hi rfl hsl hdep rfl (MK (by decide) (Below.refl _ _)) hbk)
          | 1, _ =>
            obtain rfl := Option.some.inj hi
            have hx := hI.held (s := 7) (v := .pointer (some ⟨w.heap.size, 0, none⟩)) (by simp)
            obtain ⟨c0, c1, c2, c3, c4, c5, c6⟩ := (ba.grow hbk).seven
            exact wpOp_value (v := qv (.slice F n cf) (.slice M m cm) kd s st kq kk) (w' := W) hi rfl (by simp [execOp, go_sem, hx, c0, c1, c2, c3, c4, c5, c6]) (hI.value hi rfl hsl hdep rfl (MK (by decide) (Below.refl _ _)) hbk)
          | 2, _ =>
            obtain rfl := Option.some.inj hi
            have d1 : L 1 = true := hdep { on := 1, ground := .data } (by simp) rfl
            obtain ⟨x, ex, kx⟩ := hI.at 1 (d := 37) rfl rfl d1
            have hx : x = qv (.slice F n cf) (.slice M m cm) kd s st kq kk := kx
            subst hx
            refine wpOp_enter (f := 18) (args := #[qv (.slice F n cf) (.slice M m cm) kd s st kq kk]) (w' := W) hi rfl (by simp [execOp, go_sem, ex]) ?_
            refine (TQ.out W hbk).mono ?_
            rintro e W' ⟨g, g', mid, rfl, r, r', -, -, hb1⟩
            exact ⟨_, rfl, hI.value hi rfl hsl hdep ⟨g, g', rfl, fun _ => ⟨r.reads, r'.reads⟩⟩ (MK (by decide) hb1) (below_trans hbk hb1)⟩
          | 3, _ =>
            obtain rfl := Option.some.inj hi
            have hx := hI.held (s := 2) (v := .int .i64 key) (by simp)
            exact wpOp_value (v := .int .i64 key) (w' := W) hi rfl (by simp [execOp, go_sem, hx]) (hI.value hi rfl hsl hdep rfl (MK (by decide) (Below.refl _ _)) hbk)
          | 4, _ =>
            obtain rfl := Option.some.inj hi
            have hx := hI.held (s := 9) (v := .pointer (some ⟨w.heap.size + 1, 0, none⟩)) (by simp)
            obtain ⟨c0, c1⟩ := (bw.grow hbk).two
            exact wpOp_value (v := .agg #[.int .i64 f, .int .i64 t]) (w' := W) hi rfl (by simp [execOp, go_sem, hx, c0, c1]) (hI.value hi rfl hsl hdep rfl (MK (by decide) (Below.refl _ _)) hbk)
          | 5, _ =>
            obtain rfl := Option.some.inj hi
            have d4 : L 4 = true := hdep { on := 4, ground := .data } (by simp) rfl
            obtain ⟨x, ex, kx⟩ := hI.at 4 (d := 40) rfl rfl d4
            have hx : x = .agg #[.int .i64 f, .int .i64 t] := kx
            subst hx
            refine wpOp_enter (f := 32) (args := #[.agg #[.int .i64 f, .int .i64 t]]) (w' := W) hi rfl (by simp [execOp, go_sem, ex]) ?_
            refine (toWin_any f t W).mono ?_
            rintro e W' ⟨rfl, hb1⟩
            exact ⟨_, rfl, hI.value hi rfl hsl hdep rfl (MK (by decide) hb1) (below_trans hbk hb1)⟩
          | 6, _ =>
            obtain rfl := Option.some.inj hi
            have hx := hI.held (s := 4) (v := .int .i64 lab) (by simp)
            exact wpOp_value (v := .int .i64 lab) (w' := W) hi rfl (by simp [execOp, go_sem, hx]) (hI.value hi rfl hsl hdep rfl (MK (by decide) (Below.refl _ _)) hbk)
          | 7, _ =>
            obtain rfl := Option.some.inj hi
            have hx := hI.held (s := 11) (v := .pointer (some ⟨w.heap.size + 1 + 1, 0, none⟩)) (by simp)
            obtain ⟨c0, c1, c2, c3, c4, c5⟩ := (bg.grow hbk).six
            exact wpOp_value (v := agv N h lw mn mx (.slice A j ca)) (w' := W) hi rfl (by simp [execOp, go_sem, hx, c0, c1, c2, c3, c4, c5]) (hI.value hi rfl hsl hdep rfl (MK (by decide) (Below.refl _ _)) hbk)
          | 8, _ =>
            obtain rfl := Option.some.inj hi
            have d7 : L 7 = true := hdep { on := 7, ground := .data } (by simp) rfl
            obtain ⟨x, ex, kx⟩ := hI.at 7 (d := 43) rfl rfl d7
            have hx : x = agv N h lw mn mx (.slice A j ca) := kx
            subst hx
            refine wpOp_enter (f := 33) (args := #[agv N h lw mn mx (.slice A j ca)]) (w' := W) hi rfl (by simp [execOp, go_sem, ex]) ?_
            refine (TA.out W hbk).mono ?_
            rintro e W' ⟨g, rfl, r, hb1⟩
            exact ⟨_, rfl, hI.value hi rfl hsl hdep ⟨g, rfl, fun _ => r.reads⟩ (MK (by decide) hb1) (below_trans hbk hb1)⟩
          | 9, _ =>
            obtain rfl := Option.some.inj hi
            have d0 : L 0 = true := hdep { on := 0, ground := .data } (by simp) rfl
            obtain ⟨x0, ex0, kx0⟩ := hI.at 0 (d := 36) rfl rfl d0
            have d2 : L 2 = true := hdep { on := 2, ground := .data } (by simp) rfl
            obtain ⟨x2, ex2, kx2⟩ := hI.at 2 (d := 38) rfl rfl d2
            have d3 : L 3 = true := hdep { on := 3, ground := .data } (by simp) rfl
            obtain ⟨x3, ex3, kx3⟩ := hI.at 3 (d := 39) rfl rfl d3
            have d5 : L 5 = true := hdep { on := 5, ground := .data } (by simp) rfl
            obtain ⟨x5, ex5, kx5⟩ := hI.at 5 (d := 41) rfl rfl d5
            have d6 : L 6 = true := hdep { on := 6, ground := .data } (by simp) rfl
            obtain ⟨x6, ex6, kx6⟩ := hI.at 6 (d := 42) rfl rfl d6
            have d8 : L 8 = true := hdep { on := 8, ground := .data } (by simp) rfl
            obtain ⟨x8, ex8, kx8⟩ := hI.at 8 (d := 44) rfl rfl d8
            have h0 : x0 = .int .i64 id := kx0
            subst h0
            obtain ⟨g1, g2, rfl, hq⟩ := kx2
            have h3 : x3 = .int .i64 key := kx3
            subst h3
            have h5 : x5 = .agg #[.int .i64 f, .int .i64 t] := kx5
            subst h5
            have h6 : x6 = .int .i64 lab := kx6
            subst h6
            obtain ⟨g3, rfl, hg⟩ := kx8
            have hns : L 14 = false := by
              cases hs : L 14 with
              | false => rfl
              | true =>
                have hc11 := hI.closed 14 _ rfl hs { on := 11, ground := .data } (by simp) rfl
                have hc10 := hI.closed 11 _ rfl hc11 { on := 10, ground := .data } (by simp) rfl
                have hc9 := hI.closed 10 _ rfl hc10 { on := 9, ground := .data } (by simp) rfl
                have hx : L 9 = true := hc9
                rw [hLi] at hx
                cases hx
            refine wpOp_enter (f := 31) (args := #[.int .i64 id, qv (.slice (some ⟨g1, 0, none⟩) n n) (.slice (some ⟨g2, 0, none⟩) m m) kd s st kq kk, .int .i64 key, .agg #[.int .i64 f, .int .i64 t], .int .i64 lab, agv N h lw mn mx (.slice (some ⟨g3, 0, none⟩) j j)]) (w' := W) hi rfl (by simp [execOp, go_sem, ex0, ex2, ex3, ex5, ex6, ex8]) ?_
            refine (HS.out g1 g2 g3 W (hq hns).1 (hq hns).2 (hg hns)).mono ?_
            rintro e W' ⟨B, c, rfl, r, hb1⟩
            exact ⟨_, rfl, hI.value hi rfl hsl hdep ⟨B, c, rfl, fun _ => ⟨W.heap.size, W'.heap.size, r, hbk.size, Nat.le_refl _⟩⟩ (MK (by decide) hb1) (below_trans hbk hb1)⟩
          | 10, _ =>
            obtain rfl := Option.some.inj hi
            have d9 : L 9 = true := hdep { on := 9, ground := .data } (by simp) rfl
            obtain ⟨x, ex, kx⟩ := hI.at 9 (d := 45) rfl rfl d9
            obtain ⟨B, c, rfl, hr⟩ := kx
            exact wpOp_value (v := .tuple #[pav rq rk rf rt rl rn (.slice B ln c) ro, .bool rb]) (w' := W) hi rfl (by simp [execOp, go_sem, ex]) (hI.value hi rfl hsl hdep ⟨B, c, rfl, fun hl => hr (by rw [upd_ne (by decide)] at hl; exact hl)⟩ (MK (by decide) (Below.refl _ _)) hbk)
          | 11, _ =>
            obtain rfl := Option.some.inj hi
            have d10 : L 10 = true := hdep { on := 10, ground := .data } (by simp) rfl
            obtain ⟨x, ex, kx⟩ := hI.at 10 (d := 35) rfl rfl d10
            obtain ⟨B, c, rfl, hr⟩ := kx
            exact wpOp_value (v := pav rq rk rf rt rl rn (.slice B ln c) ro) (w' := W) hi rfl (by simp [execOp, go_sem, ex]) (hI.value hi rfl hsl hdep ⟨B, c, rfl, fun hl => hr (by rw [upd_ne (by decide)] at hl; exact hl)⟩ (MK (by decide) (Below.refl _ _)) hbk)
          | 12, _ =>
            obtain rfl := Option.some.inj hi
            have d10 : L 10 = true := hdep { on := 10, ground := .data } (by simp) rfl
            obtain ⟨x, ex, kx⟩ := hI.at 10 (d := 35) rfl rfl d10
            obtain ⟨B, c, rfl, hr⟩ := kx
            exact wpOp_value (v := .bool rb) (w' := W) hi rfl (by simp [execOp, go_sem, ex]) (hI.value hi rfl hsl hdep rfl (MK (by decide) (Below.refl _ _)) hbk)
          | 13, _ =>
            obtain rfl := Option.some.inj hi
            have hns : L 14 = false := by
              cases hs : L 14 with
              | false => rfl
              | true =>
                have hc13 := hI.closed 14 _ rfl hs { on := 13, ground := .data } (by simp) rfl
                have hx : L 13 = true := hc13
                rw [hLi] at hx
                cases hx
            refine wpOp_value (v := .pointer (some ⟨W.heap.size, 0, none⟩)) (w' := W.alloc (.cells #[.int .i64 0, .int .i64 0, .int .i64 0, .int .i64 0, .int .i64 0, .int .i64 0, .slice none 0 0, .bool false] 31)) hi rfl (by simp [execOp, go_sem]) ?_
            exact hI.value hi rfl hsl hdep ⟨W.heap.size, rfl, hbk.size, fun _ => Own.new W _ (pac 0 0 0 0 0 0 (.slice none 0 0) false), fun hl => by rw [upd_ne (by decide), hns] at hl; cases hl⟩ (MK (by decide) (below_alloc _ _)) (below_trans hbk (below_alloc _ _))
          | 14, _ =>
            obtain rfl := Option.some.inj hi
            have d13 : L 13 = true := hdep { on := 13, ground := .data } (by simp) rfl
            obtain ⟨x, ex, kx⟩ := hI.at 13 (d := 14) rfl rfl d13
            have d11 : L 11 = true := hdep { on := 11, ground := .data } (by simp) rfl
            obtain ⟨y, ey, ky⟩ := hI.at 11 (d := 46) rfl rfl d11
            obtain ⟨X, rfl, hX, hz, _⟩ := kx
            obtain ⟨B, c, rfl, hr⟩ := ky
            have qX := hz hLi
            obtain ⟨lo0, hi0, r0', q1, q2⟩ := hr hLi
            obtain ⟨lo1, hi1, r1', q3, q4, q5⟩ := row_apart r0' qX (by decide) q1 q2 hX
            obtain ⟨t0, t1, t2, t3, t4, t5, t6, t7⟩ := qX.eight
            have ft0 := qX.free 0
            have ft1 := qX.free 1
            have ft2 := qX.free 2
            have ft3 := qX.free 3
            have ft4 := qX.free 4
            have ft5 := qX.free 5
            have ft6 := qX.free 6
            have ft7 := qX.free 7
            refine wpOp_skip (w' := ((((((((W.setCell ⟨X, 0, none⟩ (.int .i64 rq)).setCell ⟨X, 1, none⟩ (.int .i64 rk)).setCell ⟨X, 2, none⟩ (.int .i64 rf)).setCell ⟨X, 3, none⟩ (.int .i64 rt)).setCell ⟨X, 4, none⟩ (.int .i64 rl)).setCell ⟨X, 5, none⟩ (.int .i64 rn)).setCell ⟨X, 6, none⟩ (.slice B ln c)).setCell ⟨X, 7, none⟩ (.bool ro))) hi rfl (by simp [execOp, go_sem, ex, ey, t0, t1, t2, t3, t4, t5, t6, t7, ft0, ft1, ft2, ft3, ft4, ft5, ft6, ft7]) ?_
            refine hI.none hi rfl hdep (fun jx o' d' ux hjx hoj hdj hau hLj hKj => ?_) ((((((((hbk.setCell (p := ⟨X, 0, none⟩) hX (.int .i64 rq)).setCell (p := ⟨X, 1, none⟩) hX (.int .i64 rk)).setCell (p := ⟨X, 2, none⟩) hX (.int .i64 rf)).setCell (p := ⟨X, 3, none⟩) hX (.int .i64 rt)).setCell (p := ⟨X, 4, none⟩) hX (.int .i64 rl)).setCell (p := ⟨X, 5, none⟩) hX (.int .i64 rn)).setCell (p := ⟨X, 6, none⟩) hX (.slice B ln c)).setCell (p := ⟨X, 7, none⟩) hX (.bool ro)) _
            by_cases ej : jx = 13
            · subst ej
              obtain rfl := Option.some.inj hoj
              obtain rfl := Option.some.inj hdj
              rw [ex] at hau
              obtain rfl := Option.some.inj hau
              refine ⟨X, rfl, hX, fun hl => (by rw [upd_at] at hl; cases hl), fun _ => ⟨B, c, lo1, hi1, ((((((((qX.set 0 (.int .i64 rq)).set 1 (.int .i64 rk)).set 2 (.int .i64 rf)).set 3 (.int .i64 rt)).set 4 (.int .i64 rl)).set 5 (.int .i64 rn)).set 6 (.slice B ln c)).set 7 (.bool ro)), ((((((((r1'.setFar ⟨X, 0, none⟩ (.int .i64 rq) q5).setFar ⟨X, 1, none⟩ (.int .i64 rk) q5).setFar ⟨X, 2, none⟩ (.int .i64 rf) q5).setFar ⟨X, 3, none⟩ (.int .i64 rt) q5).setFar ⟨X, 4, none⟩ (.int .i64 rl) q5).setFar ⟨X, 5, none⟩ (.int .i64 rn) q5).setFar ⟨X, 6, none⟩ (.slice B ln c) q5).setFar ⟨X, 7, none⟩ (.bool ro) q5), q3, ?_, q5⟩⟩
              simp only [size_set]
              exact q4
            · exact kPofA_store w3 id key f t lab kd s st kq kk N h lw mn mx rq rk rf rt rl rn F M A n cf m cm j ca ln fs ms ts R ro rb ej hKj
          | 15, _ =>
            obtain rfl := Option.some.inj hi
            have d12 : L 12 = true := hdep { on := 12, ground := .data } (by simp) rfl
            obtain ⟨x, ex, kx⟩ := hI.at 12 (d := 47) rfl rfl d12
            have hx : x = .bool rb := kx
            subst hx
            exact wpOp_value (v := .bool rb) (w' := W) hi rfl (by simp [execOp, go_sem, ex]) (hI.value hi rfl hsl hdep rfl (MK (by decide) (Below.refl _ _)) hbk)
        case hfin =>
          intro L a W hall hI
          obtain ⟨_, ex, X, rfl, hX, -, h2⟩ := hI.at 13 (d := 14) rfl rfl (hall 13 (by decide))
          obtain ⟨v, ey, hy⟩ := hI.at 15 (d := 15) rfl rfl (hall 15 (by decide))
          have hyy : v = .bool rb := hy
          subst hyy
          obtain ⟨B, c, lo', hi', oX, r, qq1, qq2, qq3⟩ := h2 (hall 14 (by decide))
          have hbk := hI.mem
          have e0 := hI.held (s := 0) (v := .int .i64 id) (by simp)
          have e1 := hI.held (s := 1) (v := qv (.slice F n cf) (.slice M m cm) kd s st kq kk) (by simp)
          have e2 := hI.held (s := 2) (v := .int .i64 key) (by simp)
          have e3 := hI.held (s := 3) (v := .agg #[.int .i64 f, .int .i64 t]) (by simp)
          have e4 := hI.held (s := 4) (v := .int .i64 lab) (by simp)
          have e5 := hI.held (s := 5) (v := agv N h lw mn mx (.slice A j ca)) (by simp)
          have e6 := hI.held (s := 6) (v := undef) (by simp)
          have e7 := hI.held (s := 7) (v := .pointer (some ⟨w.heap.size, 0, none⟩)) (by simp)
          have e8 := hI.held (s := 8) (v := undef) (by simp)
          have e9 := hI.held (s := 9) (v := .pointer (some ⟨w.heap.size + 1, 0, none⟩)) (by simp)
          have e10 := hI.held (s := 10) (v := undef) (by simp)
          have e11 := hI.held (s := 11) (v := .pointer (some ⟨w.heap.size + 1 + 1, 0, none⟩)) (by simp)
          have e12 := hI.held (s := 12) (v := .bool false) (by simp)
          have e13 := hI.held (s := 13) (v := .int .i64 left2) (by simp)
          have e16 := hI.held (s := 16) (v := undef) (by simp)
          have e17 := hI.held (s := 17) (v := undef) (by simp)
          have e18 := hI.held (s := 18) (v := undef) (by simp)
          have e19 := hI.held (s := 19) (v := undef) (by simp)
          have e20 := hI.held (s := 20) (v := undef) (by simp)
          have e21 := hI.held (s := 21) (v := undef) (by simp)
          have e22 := hI.held (s := 22) (v := undef) (by simp)
          have e23 := hI.held (s := 23) (v := undef) (by simp)
          have e24 := hI.held (s := 24) (v := undef) (by simp)
          have ha : a = ⟨#[a.eval (.tmp 0), a.eval (.tmp 1), a.eval (.tmp 2), a.eval (.tmp 3), a.eval (.tmp 4), a.eval (.tmp 5), a.eval (.tmp 6), a.eval (.tmp 7), a.eval (.tmp 8), a.eval (.tmp 9), a.eval (.tmp 10), a.eval (.tmp 11), a.eval (.tmp 12), a.eval (.tmp 13), a.eval (.tmp 14), a.eval (.tmp 15), a.eval (.tmp 16), a.eval (.tmp 17), a.eval (.tmp 18), a.eval (.tmp 19), a.eval (.tmp 20), a.eval (.tmp 21), a.eval (.tmp 22), a.eval (.tmp 23), a.eval (.tmp 24), a.eval (.tmp 25), a.eval (.tmp 26), a.eval (.tmp 27), a.eval (.tmp 28), a.eval (.tmp 29), a.eval (.tmp 30), a.eval (.tmp 31), a.eval (.tmp 32), a.eval (.tmp 33), a.eval (.tmp 34), a.eval (.tmp 35), a.eval (.tmp 36), a.eval (.tmp 37), a.eval (.tmp 38), a.eval (.tmp 39), a.eval (.tmp 40), a.eval (.tmp 41), a.eval (.tmp 42), a.eval (.tmp 43), a.eval (.tmp 44), a.eval (.tmp 45), a.eval (.tmp 46), a.eval (.tmp 47), a.eval (.tmp 48), a.eval (.tmp 49), a.eval (.tmp 50), a.eval (.tmp 51), a.eval (.tmp 52), a.eval (.tmp 53), a.eval (.tmp 54), a.eval (.tmp 55), a.eval (.tmp 56), a.eval (.tmp 57), a.eval (.tmp 58), a.eval (.tmp 59), a.eval (.tmp 60), a.eval (.tmp 61), a.eval (.tmp 62), a.eval (.tmp 63), a.eval (.tmp 64), a.eval (.tmp 65), a.eval (.tmp 66), a.eval (.tmp 67), a.eval (.tmp 68), a.eval (.tmp 69), a.eval (.tmp 70), a.eval (.tmp 71), a.eval (.tmp 72), a.eval (.tmp 73), a.eval (.tmp 74), a.eval (.tmp 75), a.eval (.tmp 76), a.eval (.tmp 77), a.eval (.tmp 78), a.eval (.tmp 79), a.eval (.tmp 80), a.eval (.tmp 81), a.eval (.tmp 82), a.eval (.tmp 83), a.eval (.tmp 84), a.eval (.tmp 85), a.eval (.tmp 86), a.eval (.tmp 87), a.eval (.tmp 88), a.eval (.tmp 89), a.eval (.tmp 90), a.eval (.tmp 91), a.eval (.tmp 92), a.eval (.tmp 93), a.eval (.tmp 94), a.eval (.tmp 95), a.eval (.tmp 96), a.eval (.tmp 97), a.eval (.tmp 98), a.eval (.tmp 99), a.eval (.tmp 100), a.eval (.tmp 101), a.eval (.tmp 102), a.eval (.tmp 103), a.eval (.tmp 104), a.eval (.tmp 105), a.eval (.tmp 106), a.eval (.tmp 107), a.eval (.tmp 108), a.eval (.tmp 109), a.eval (.tmp 110), a.eval (.tmp 111), a.eval (.tmp 112), a.eval (.tmp 113), a.eval (.tmp 114), a.eval (.tmp 115), a.eval (.tmp 116), a.eval (.tmp 117), a.eval (.tmp 118), a.eval (.tmp 119), a.eval (.tmp 120), a.eval (.tmp 121), a.eval (.tmp 122), a.eval (.tmp 123), a.eval (.tmp 124), a.eval (.tmp 125), a.eval (.tmp 126), a.eval (.tmp 127), a.eval (.tmp 128), a.eval (.tmp 129), a.eval (.tmp 130), a.eval (.tmp 131), a.eval (.tmp 132), a.eval (.tmp 133), a.eval (.tmp 134), a.eval (.tmp 135), a.eval (.tmp 136), a.eval (.tmp 137), a.eval (.tmp 138), a.eval (.tmp 139), a.eval (.tmp 140), a.eval (.tmp 141)], []⟩ := act_list hI.size hI.defers
          rw [ha, eval_of ex, eval_of ey, eval_of e0, eval_of e1, eval_of e2, eval_of e3, eval_of e4, eval_of e5, eval_of e6, eval_of e7, eval_of e8, eval_of e9, eval_of e10, eval_of e11, eval_of e12, eval_of e13, eval_of e16, eval_of e17, eval_of e18, eval_of e19, eval_of e20, eval_of e21, eval_of e22, eval_of e23, eval_of e24]
          clear hI ha ex ey hy e0 e1 e2 e3 e4 e5 e6 e7 e8 e9 e10 e11 e12 e13 e16 e17 e18 e19 e20 e21 e22 e23 e24
          go_wp2_with fail
          go_meet
          case rel => exact ⟨X, B, c, rfl, rfl, oX, ⟨lo', hi', r, qq1, qq2, qq3⟩, hX, hbk⟩
      case rest =>
        obtain ⟨X0, B0, c0, rfl, rfl, b0, ⟨lor0, hir0, r0, hlor0, hhir0, hner0⟩, hXr0, hbd⟩ := hcut
        obtain ⟨w4, rfl⟩ : ∃ W, W = wc := ⟨_, rfl⟩
        have hXlr0 := b0.lt
        have z4 := hbd.size
        replace ba := ba.grow hbd
        replace bw := bw.grow hbd
        replace bg := bg.grow hbd
        replace hb := below_trans hb hbd
        clear hbd
        obtain ⟨bac0, bac1, bac2, bac3, bac4, bac5, bac6⟩ := ba.seven
        go_wp2_with fail
        clear bac0 bac1 bac2 bac3 bac4 bac5 bac6
        refine (toQuery_w kd s st kq kk F n cf fs M m cm ms _ (HF.out _ hb) hz hn (HM.out _ hb) hy hm).mono ?_
        rintro e w5 ⟨g4, g5, mid, rfl, rx, ry, hmd1, hmd2, hb5⟩
        have z5 := hb5.size
        replace ba := ba.grow hb5
        replace bw := bw.grow hb5
        replace bg := bg.grow hb5
        replace r0 := r0.grow hb5
        replace b0 := b0.grow hb5
        replace hb := below_trans hb hb5
        clear hb5
        have bx := Own.new w5 42 (qc (.slice (some ⟨g4, 0, none⟩) n n) (.slice (some ⟨g5, 0, none⟩) m m) kd s st kq kk)
        replace ba := ba.grow (below_alloc w5 (.cells (qc (.slice (some ⟨g4, 0, none⟩) n n) (.slice (some ⟨g5, 0, none⟩) m m) kd s st kq kk).toArray 42))
        replace bw := bw.grow (below_alloc w5 (.cells (qc (.slice (some ⟨g4, 0, none⟩) n n) (.slice (some ⟨g5, 0, none⟩) m m) kd s st kq kk).toArray 42))
        replace bg := bg.grow (below_alloc w5 (.cells (qc (.slice (some ⟨g4, 0, none⟩) n n) (.slice (some ⟨g5, 0, none⟩) m m) kd s st kq kk).toArray 42))
        replace r0 := r0.grow (below_alloc w5 (.cells (qc (.slice (some ⟨g4, 0, none⟩) n n) (.slice (some ⟨g5, 0, none⟩) m m) kd s st kq kk).toArray 42))
        replace b0 := b0.grow (below_alloc w5 (.cells (qc (.slice (some ⟨g4, 0, none⟩) n n) (.slice (some ⟨g5, 0, none⟩) m m) kd s st kq kk).toArray 42))
        replace rx := rx.grow (below_alloc w5 (.cells (qc (.slice (some ⟨g4, 0, none⟩) n n) (.slice (some ⟨g5, 0, none⟩) m m) kd s st kq kk).toArray 42))
        replace ry := ry.grow (below_alloc w5 (.cells (qc (.slice (some ⟨g4, 0, none⟩) n n) (.slice (some ⟨g5, 0, none⟩) m m) kd s st kq kk).toArray 42))
        replace hb := below_trans hb (below_alloc w5 (.cells (qc (.slice (some ⟨g4, 0, none⟩) n n) (.slice (some ⟨g5, 0, none⟩) m m) kd s st kq kk).toArray 42))
        obtain ⟨bgc0, bgc1, bgc2, bgc3, bgc4, bgc5⟩ := bg.six
        go_wp2_with fail
        clear bgc0 bgc1 bgc2 bgc3 bgc4 bgc5
        refine (toAgg_w N h lw mn mx A j ca ts _ (HA.out _ hb) hx hj).mono ?_
        rintro e w6 ⟨g6, rfl, rg, hb6⟩
        have z6 := hb6.size
        rw [World.size_alloc] at z6
        rw [World.size_alloc] at rg
        replace ba := ba.grow hb6
        replace bw := bw.grow hb6
        replace bg := bg.grow hb6
        replace r0 := r0.grow hb6
        replace b0 := b0.grow hb6
        replace rx := rx.grow hb6
        replace ry := ry.grow hb6
        replace bx := bx.grow hb6
        replace hb := below_trans hb hb6
        clear hb6
        have bu := Own.new w6 72 (agc N h lw mn mx (.slice (some ⟨g6, 0, none⟩) j j))
        replace ba := ba.grow (below_alloc w6 (.cells (agc N h lw mn mx (.slice (some ⟨g6, 0, none⟩) j j)).toArray 72))
        replace bw := bw.grow (below_alloc w6 (.cells (agc N h lw mn mx (.slice (some ⟨g6, 0, none⟩) j j)).toArray 72))
        replace bg := bg.grow (below_alloc w6 (.cells (agc N h lw mn mx (.slice (some ⟨g6, 0, none⟩) j j)).toArray 72))
        replace r0 := r0.grow (below_alloc w6 (.cells (agc N h lw mn mx (.slice (some ⟨g6, 0, none⟩) j j)).toArray 72))
        replace b0 := b0.grow (below_alloc w6 (.cells (agc N h lw mn mx (.slice (some ⟨g6, 0, none⟩) j j)).toArray 72))
        replace rx := rx.grow (below_alloc w6 (.cells (agc N h lw mn mx (.slice (some ⟨g6, 0, none⟩) j j)).toArray 72))
        replace ry := ry.grow (below_alloc w6 (.cells (agc N h lw mn mx (.slice (some ⟨g6, 0, none⟩) j j)).toArray 72))
        replace bx := bx.grow (below_alloc w6 (.cells (agc N h lw mn mx (.slice (some ⟨g6, 0, none⟩) j j)).toArray 72))
        replace rg := rg.grow (below_alloc w6 (.cells (agc N h lw mn mx (.slice (some ⟨g6, 0, none⟩) j j)).toArray 72))
        replace hb := below_trans hb (below_alloc w6 (.cells (agc N h lw mn mx (.slice (some ⟨g6, 0, none⟩) j j)).toArray 72))
        go_upto_region 11 with (fail)
        obtain ⟨wv, HWV⟩ : ∃ W, W = w6.alloc (.cells (agc N h lw mn mx (.slice (some ⟨g6, 0, none⟩) j j)).toArray 72) := ⟨_, rfl⟩
        rw [← HWV] at bu ba bw bg r0 b0 rx ry bx rg hb ⊢
        have zv : wv.heap.size = w6.heap.size + 1 := by rw [HWV, World.size_alloc]
        clear HWV
        obtain ⟨w7, rfl⟩ : ∃ W, W = wv := ⟨_, rfl⟩
        go_upto_region 11 with (fail)
        go_cut [18, 19] from 25 to 141 (fun sp sq wx => ∃ (X : Nat) (B : Option Addr) (c : Nat), sp = .pointer (some ⟨X, 0, none⟩) ∧ sq = .bool rb ∧ Own wx X 31 (pac rq rk rf rt rl rn (.slice B ln c) ro) ∧ (∃ lo hi, RowAt lo hi wx 3 1 (.slice B ln c) ln (iz R) ∧ w7.heap.size ≤ lo ∧ hi ≤ wx.heap.size ∧ (X < lo ∨ hi ≤ X)) ∧ w7.heap.size ≤ X ∧ Below w7.heap.size w7 wx)
        case first =>
          refine wp_region_kinv (kPofB w7 id key f t lab kd s st kq kk N h lw mn mx rq rk rf rt rl rn n m j ln R ro rb g4 g5 g6) [(0, .int .i64 id), (1, qv (.slice F n cf) (.slice M m cm) kd s st kq kk), (2, .int .i64 key), (3, .agg #[.int .i64 f, .int .i64 t]), (4, .int .i64 lab), (5, agv N h lw mn mx (.slice A j ca)), (6, undef), (7, .pointer (some ⟨w.heap.size, 0, none⟩)), (8, undef), (9, .pointer (some ⟨w.heap.size + 1, 0, none⟩)), (10, undef), (11, .pointer (some ⟨w.heap.size + 1 + 1, 0, none⟩)), (12, .bool false), (13, .int .i64 left2), (14, .pointer (some ⟨X0, 0, none⟩)), (15, .bool rb), (16, .pointer (some ⟨w5.heap.size, 0, none⟩)), (17, .pointer (some ⟨w6.heap.size, 0, none⟩)), (20, undef), (21, undef), (22, undef), (23, undef), (24, undef)] 142 [] (fun _ W => Below w7.heap.size w7 W) (by kernel_rfl) (by kernel_rfl) (by kernel_rfl) rfl rfl ?hkeep (Below.refl _ _).drew ?hstep ?hfin
          case hkeep =>
            intro p hp
            simp only [List.mem_cons, List.not_mem_nil, or_false] at hp
            rcases hp with rfl | rfl | rfl | rfl | rfl | rfl | rfl | rfl | rfl | rfl | rfl | rfl | rfl | rfl | rfl | rfl | rfl | rfl | rfl | rfl | rfl | rfl | rfl <;> rfl
          case hstep =>
            intro L i o a W hi hLi hdep hsl hI
            have hlt : i < 14 := (Array.getElem?_eq_some_iff.1 hi).1
            have MK : ∀ {i : Nat} {W' : World}, 12 ≠ i → Below W.heap.size W W' → ∀ (jx : Nat) (ux : Value), jx ≠ i → L jx = true → kPofB w7 id key f t lab kd s st kq kk N h lw mn mx rq rk rf rt rl rn n m j ln R ro rb g4 g5 g6 jx L W ux → kPofB w7 id key f t lab kd s st kq kk N h lw mn mx rq rk rf rt rl rn n m j ln R ro rb g4 g5 g6 jx (upd L i) W' ux := fun hix hbx jx ux _ _ hk => kPofB_mono w7 id key f t lab kd s st kq kk N h lw mn mx rq rk rf rt rl rn n m j ln R ro rb g4 g5 g6 hix hbx hk
            have hbk := hI.mem
            match i, hlt with
            | 0, _ =>
              obtain rfl := Option.some.inj hi
              have hx := hI.held (s := 0) (v := .int .i64 id) (by simp)
              exact wpOp_value (v := .int .i64 id) (w' := W) hi rfl (by simp [execOp, go_sem, hx]) (hI.value hi rfl hsl hdep rfl (MK (by decide) (Below.refl _ _)) hbk)
            | 1, _ =>
              obtain rfl := Option.some.inj hi
              have hx := hI.held (s := 16) (v := .pointer (some ⟨w5.heap.size, 0, none⟩)) (by simp)
              obtain ⟨c0, c1, c2, c3, c4, c5, c6⟩ := (bx.grow hbk).seven
              exact wpOp_value (v := qv (.slice (some ⟨g4, 0, none⟩) n n) (.slice (some ⟨g5, 0, none⟩) m m) kd s st kq kk) (w' := W) hi rfl (by simp [execOp, go_sem, hx, c0, c1, c2, c3, c4, c5, c6]) (hI.value hi rfl hsl hdep rfl (MK (by decide) (Below.refl _ _)) hbk)
            | 2, _ =>
              obtain rfl := Option.some.inj hi
              have hx := hI.held (s := 2) (v := .int .i64 key) (by simp)
              exact wpOp_value (v := .int .i64 key) (w' := W) hi rfl (by simp [execOp, go_sem, hx]) (hI.value hi rfl hsl hdep rfl (MK (by decide) (Below.refl _ _)) hbk)
            | 3, _ =>
              obtain rfl := Option.some.inj hi
              have hx := hI.held (s := 9) (v := .pointer (some ⟨w.heap.size + 1, 0, none⟩)) (by simp)
              obtain ⟨c0, c1⟩ := (bw.grow hbk).two
              exact wpOp_value (v := .agg #[.int .i64 f, .int .i64 t]) (w' := W) hi rfl (by simp [execOp, go_sem, hx, c0, c1]) (hI.value hi rfl hsl hdep rfl (MK (by decide) (Below.refl _ _)) hbk)
            | 4, _ =>
              obtain rfl := Option.some.inj hi
              have d3 : L 3 = true := hdep { on := 3, ground := .data } (by simp) rfl
              obtain ⟨x, ex, kx⟩ := hI.at 3 (d := 56) rfl rfl d3
              have hx : x = .agg #[.int .i64 f, .int .i64 t] := kx
              subst hx
              refine wpOp_enter (f := 32) (args := #[.agg #[.int .i64 f, .int .i64 t]]) (w' := W) hi rfl (by simp [execOp, go_sem, ex]) ?_
              refine (toWin_any f t W).mono ?_
              rintro e W' ⟨rfl, hb1⟩
              exact ⟨_, rfl, hI.value hi rfl hsl hdep rfl (MK (by decide) hb1) (below_trans hbk hb1)⟩
            | 5, _ =>
              obtain rfl := Option.some.inj hi
              have hx := hI.held (s := 4) (v := .int .i64 lab) (by simp)
              exact wpOp_value (v := .int .i64 lab) (w' := W) hi rfl (by simp [execOp, go_sem, hx]) (hI.value hi rfl hsl hdep rfl (MK (by decide) (Below.refl _ _)) hbk)
            | 6, _ =>
              obtain rfl := Option.some.inj hi
              have hx := hI.held (s := 17) (v := .pointer (some ⟨w6.heap.size, 0, none⟩)) (by simp)
              obtain ⟨c0, c1, c2, c3, c4, c5⟩ := (bu.grow hbk).six
              exact wpOp_value (v := agv N h lw mn mx (.slice (some ⟨g6, 0, none⟩) j j)) (w' := W) hi rfl (by simp [execOp, go_sem, hx, c0, c1, c2, c3, c4, c5]) (hI.value hi rfl hsl hdep rfl (MK (by decide) (Below.refl _ _)) hbk)
            | 7, _ =>
              obtain rfl := Option.some.inj hi
              have d0 : L 0 = true := hdep { on := 0, ground := .data } (by simp) rfl
              obtain ⟨x0, ex0, kx0⟩ := hI.at 0 (d := 53) rfl rfl d0
              have d1 : L 1 = true := hdep { on := 1, ground := .data } (by simp) rfl
              obtain ⟨x1, ex1, kx1⟩ := hI.at 1 (d := 54) rfl rfl d1
              have d2 : L 2 = true := hdep { on := 2, ground := .data } (by simp) rfl
              obtain ⟨x2, ex2, kx2⟩ := hI.at 2 (d := 55) rfl rfl d2
              have d4 : L 4 = true := hdep { on := 4, ground := .data } (by simp) rfl
              obtain ⟨x4, ex4, kx4⟩ := hI.at 4 (d := 57) rfl rfl d4
              have d5 : L 5 = true := hdep { on := 5, ground := .data } (by simp) rfl
              obtain ⟨x5, ex5, kx5⟩ := hI.at 5 (d := 58) rfl rfl d5
              have d6 : L 6 = true := hdep { on := 6, ground := .data } (by simp) rfl
              obtain ⟨x6, ex6, kx6⟩ := hI.at 6 (d := 59) rfl rfl d6
              have hx0 : x0 = .int .i64 id := kx0
              subst hx0
              have hx1 : x1 = qv (.slice (some ⟨g4, 0, none⟩) n n) (.slice (some ⟨g5, 0, none⟩) m m) kd s st kq kk := kx1
              subst hx1
              have hx2 : x2 = .int .i64 key := kx2
              subst hx2
              have hx4 : x4 = .agg #[.int .i64 f, .int .i64 t] := kx4
              subst hx4
              have hx5 : x5 = .int .i64 lab := kx5
              subst hx5
              have hx6 : x6 = agv N h lw mn mx (.slice (some ⟨g6, 0, none⟩) j j) := kx6
              subst hx6
              refine wpOp_enter (f := 34) (args := #[.int .i64 id, qv (.slice (some ⟨g4, 0, none⟩) n n) (.slice (some ⟨g5, 0, none⟩) m m) kd s st kq kk, .int .i64 key, .agg #[.int .i64 f, .int .i64 t], .int .i64 lab, agv N h lw mn mx (.slice (some ⟨g6, 0, none⟩) j j)]) (w' := W) hi rfl (by simp [execOp, go_sem, ex0, ex1, ex2, ex4, ex5, ex6]) ?_
              refine (HI.out g4 g5 g6 W (rx.reads.below hbk) (ry.reads.below hbk) (rg.reads.below hbk)).mono ?_
              rintro e W' ⟨B, c, rfl, r, hb1⟩
              exact ⟨_, rfl, hI.value hi rfl hsl hdep ⟨B, c, rfl, fun _ => ⟨W.heap.size, W'.heap.size, r, hbk.size, Nat.le_refl _⟩⟩ (MK (by decide) hb1) (below_trans hbk hb1)⟩
            | 8, _ =>
              obtain rfl := Option.some.inj hi
              have d7 : L 7 = true := hdep { on := 7, ground := .data } (by simp) rfl
              obtain ⟨x, ex, kx⟩ := hI.at 7 (d := 60) rfl rfl d7
              obtain ⟨B, c, rfl, hr⟩ := kx
              exact wpOp_value (v := .tuple #[pav rq rk rf rt rl rn (.slice B ln c) ro, .bool rb]) (w' := W) hi rfl (by simp [execOp, go_sem, ex]) (hI.value hi rfl hsl hdep ⟨B, c, rfl, fun hl => hr (by rw [upd_ne (by decide)] at hl; exact hl)⟩ (MK (by decide) (Below.refl _ _)) hbk)
            | 9, _ =>
              obtain rfl := Option.some.inj hi
              have d8 : L 8 = true := hdep { on := 8, ground := .data } (by simp) rfl
              obtain ⟨x, ex, kx⟩ := hI.at 8 (d := 52) rfl rfl d8
              obtain ⟨B, c, rfl, hr⟩ := kx
              exact wpOp_value (v := pav rq rk rf rt rl rn (.slice B ln c) ro) (w' := W) hi rfl (by simp [execOp, go_sem, ex]) (hI.value hi rfl hsl hdep ⟨B, c, rfl, fun hl => hr (by rw [upd_ne (by decide)] at hl; exact hl)⟩ (MK (by decide) (Below.refl _ _)) hbk)
            | 10, _ =>
              obtain rfl := Option.some.inj hi
              have d8 : L 8 = true := hdep { on := 8, ground := .data } (by simp) rfl
              obtain ⟨x, ex, kx⟩ := hI.at 8 (d := 52) rfl rfl d8
              obtain ⟨B, c, rfl, hr⟩ := kx
              exact wpOp_value (v := .bool rb) (w' := W) hi rfl (by simp [execOp, go_sem, ex]) (hI.value hi rfl hsl hdep rfl (MK (by decide) (Below.refl _ _)) hbk)
            | 11, _ =>
              obtain rfl := Option.some.inj hi
              have hns : L 12 = false := by
                cases hs : L 12 with
                | false => rfl
                | true =>
                  have hc11 := hI.closed 12 _ rfl hs { on := 11, ground := .data } (by simp) rfl
                  have hx : L 11 = true := hc11
                  rw [hLi] at hx
                  cases hx
              refine wpOp_value (v := .pointer (some ⟨W.heap.size, 0, none⟩)) (w' := W.alloc (.cells #[.int .i64 0, .int .i64 0, .int .i64 0, .int .i64 0, .int .i64 0, .int .i64 0, .slice none 0 0, .bool false] 31)) hi rfl (by simp [execOp, go_sem]) ?_
              exact hI.value hi rfl hsl hdep ⟨W.heap.size, rfl, hbk.size, fun _ => Own.new W _ (pac 0 0 0 0 0 0 (.slice none 0 0) false), fun hl => by rw [upd_ne (by decide), hns] at hl; cases hl⟩ (MK (by decide) (below_alloc _ _)) (below_trans hbk (below_alloc _ _))
            | 12, _ =>
              obtain rfl := Option.some.inj hi
              have d11 : L 11 = true := hdep { on := 11, ground := .data } (by simp) rfl
              obtain ⟨x, ex, kx⟩ := hI.at 11 (d := 18) rfl rfl d11
              have d9 : L 9 = true := hdep { on := 9, ground := .data } (by simp) rfl
              obtain ⟨y, ey, ky⟩ := hI.at 9 (d := 61) rfl rfl d9
              obtain ⟨X, rfl, hX, hz, _⟩ := kx
              obtain ⟨B, c, rfl, hr⟩ := ky
              have qX := hz hLi
              obtain ⟨lo0, hi0, r0', q1, q2⟩ := hr hLi
              obtain ⟨lo1, hi1, r1', q3, q4, q5⟩ := row_apart r0' qX (by decide) q1 q2 hX
              obtain ⟨t0, t1, t2, t3, t4, t5, t6, t7⟩ := qX.eight
              have ft0 := qX.free 0
              have ft1 := qX.free 1
              have ft2 := qX.free 2
              have ft3 := qX.free 3
              have ft4 := qX.free 4
              have ft5 := qX.free 5
              have ft6 := qX.free 6
              have ft7 := qX.free 7
              refine wpOp_skip (w' := ((((((((W.setCell ⟨X, 0, none⟩ (.int .i64 rq)).setCell ⟨X, 1, none⟩ (.int .i64 rk)).setCell ⟨X, 2, none⟩ (.int .i64 rf)).setCell ⟨X, 3, none⟩ (.int .i64 rt)).setCell ⟨X, 4, none⟩ (.int .i64 rl)).setCell ⟨X, 5, none⟩ (.int .i64 rn)).setCell ⟨X, 6, none⟩ (.slice B ln c)).setCell ⟨X, 7, none⟩ (.bool ro))) hi rfl (by simp [execOp, go_sem, ex, ey, t0, t1, t2, t3, t4, t5, t6, t7, ft0, ft1, ft2, ft3, ft4, ft5, ft6, ft7]) ?_
              refine hI.none hi rfl hdep (fun jx o' d' ux hjx hoj hdj hau hLj hKj => ?_) ((((((((hbk.setCell (p := ⟨X, 0, none⟩) hX (.int .i64 rq)).setCell (p := ⟨X, 1, none⟩) hX (.int .i64 rk)).setCell (p := ⟨X, 2, none⟩) hX (.int .i64 rf)).setCell (p := ⟨X, 3, none⟩) hX (.int .i64 rt)).setCell (p := ⟨X, 4, none⟩) hX (.int .i64 rl)).setCell (p := ⟨X, 5, none⟩) hX (.int .i64 rn)).setCell (p := ⟨X, 6, none⟩) hX (.slice B ln c)).setCell (p := ⟨X, 7, none⟩) hX (.bool ro)) _
              by_cases ej : jx = 11
              · subst ej
                obtain rfl := Option.some.inj hoj
                obtain rfl := Option.some.inj hdj
                rw [ex] at hau
                obtain rfl := Option.some.inj hau
                refine ⟨X, rfl, hX, fun hl => (by rw [upd_at] at hl; cases hl), fun _ => ⟨B, c, lo1, hi1, ((((((((qX.set 0 (.int .i64 rq)).set 1 (.int .i64 rk)).set 2 (.int .i64 rf)).set 3 (.int .i64 rt)).set 4 (.int .i64 rl)).set 5 (.int .i64 rn)).set 6 (.slice B ln c)).set 7 (.bool ro)), ((((((((r1'.setFar ⟨X, 0, none⟩ (.int .i64 rq) q5).setFar ⟨X, 1, none⟩ (.int .i64 rk) q5).setFar ⟨X, 2, none⟩ (.int .i64 rf) q5).setFar ⟨X, 3, none⟩ (.int .i64 rt) q5).setFar ⟨X, 4, none⟩ (.int .i64 rl) q5).setFar ⟨X, 5, none⟩ (.int .i64 rn) q5).setFar ⟨X, 6, none⟩ (.slice B ln c) q5).setFar ⟨X, 7, none⟩ (.bool ro) q5), q3, ?_, q5⟩⟩
                simp only [size_set]
                exact q4
              · exact kPofB_store w7 id key f t lab kd s st kq kk N h lw mn mx rq rk rf rt rl rn n m j ln R ro rb g4 g5 g6 ej hKj
            | 13, _ =>
              obtain rfl := Option.some.inj hi
              have d10 : L 10 = true := hdep { on := 10, ground := .data } (by simp) rfl
              obtain ⟨x, ex, kx⟩ := hI.at 10 (d := 62) rfl rfl d10
              have hx : x = .bool rb := kx
              subst hx
              exact wpOp_value (v := .bool rb) (w' := W) hi rfl (by simp [execOp, go_sem, ex]) (hI.value hi rfl hsl hdep rfl (MK (by decide) (Below.refl _ _)) hbk)
          case hfin =>
            intro L a W hall hI
            obtain ⟨_, ex, X, rfl, hX, -, h2⟩ := hI.at 11 (d := 18) rfl rfl (hall 11 (by decide))
            obtain ⟨v, ey, hy⟩ := hI.at 13 (d := 19) rfl rfl (hall 13 (by decide))
            have hyy : v = .bool rb := hy
            subst hyy
            obtain ⟨B, c, lo', hi', oX, r, qq1, qq2, qq3⟩ := h2 (hall 12 (by decide))
            have hbk := hI.mem
            have e0 := hI.held (s := 0) (v := .int .i64 id) (by simp)
            have e1 := hI.held (s := 1) (v := qv (.slice F n cf) (.slice M m cm) kd s st kq kk) (by simp)
            have e2 := hI.held (s := 2) (v := .int .i64 key) (by simp)
            have e3 := hI.held (s := 3) (v := .agg #[.int .i64 f, .int .i64 t]) (by simp)
            have e4 := hI.held (s := 4) (v := .int .i64 lab) (by simp)
            have e5 := hI.held (s := 5) (v := agv N h lw mn mx (.slice A j ca)) (by simp)
            have e6 := hI.held (s := 6) (v := undef) (by simp)
            have e7 := hI.held (s := 7) (v := .pointer (some ⟨w.heap.size, 0, none⟩)) (by simp)
            have e8 := hI.held (s := 8) (v := undef) (by simp)
            have e9 := hI.held (s := 9) (v := .pointer (some ⟨w.heap.size + 1, 0, none⟩)) (by simp)
            have e10 := hI.held (s := 10) (v := undef) (by simp)
            have e11 := hI.held (s := 11) (v := .pointer (some ⟨w.heap.size + 1 + 1, 0, none⟩)) (by simp)
            have e12 := hI.held (s := 12) (v := .bool false) (by simp)
            have e13 := hI.held (s := 13) (v := .int .i64 left2) (by simp)
            have e14 := hI.held (s := 14) (v := .pointer (some ⟨X0, 0, none⟩)) (by simp)
            have e15 := hI.held (s := 15) (v := .bool rb) (by simp)
            have e16 := hI.held (s := 16) (v := .pointer (some ⟨w5.heap.size, 0, none⟩)) (by simp)
            have e17 := hI.held (s := 17) (v := .pointer (some ⟨w6.heap.size, 0, none⟩)) (by simp)
            have e20 := hI.held (s := 20) (v := undef) (by simp)
            have e21 := hI.held (s := 21) (v := undef) (by simp)
            have e22 := hI.held (s := 22) (v := undef) (by simp)
            have e23 := hI.held (s := 23) (v := undef) (by simp)
            have e24 := hI.held (s := 24) (v := undef) (by simp)
            have ha : a = ⟨#[a.eval (.tmp 0), a.eval (.tmp 1), a.eval (.tmp 2), a.eval (.tmp 3), a.eval (.tmp 4), a.eval (.tmp 5), a.eval (.tmp 6), a.eval (.tmp 7), a.eval (.tmp 8), a.eval (.tmp 9), a.eval (.tmp 10), a.eval (.tmp 11), a.eval (.tmp 12), a.eval (.tmp 13), a.eval (.tmp 14), a.eval (.tmp 15), a.eval (.tmp 16), a.eval (.tmp 17), a.eval (.tmp 18), a.eval (.tmp 19), a.eval (.tmp 20), a.eval (.tmp 21), a.eval (.tmp 22), a.eval (.tmp 23), a.eval (.tmp 24), a.eval (.tmp 25), a.eval (.tmp 26), a.eval (.tmp 27), a.eval (.tmp 28), a.eval (.tmp 29), a.eval (.tmp 30), a.eval (.tmp 31), a.eval (.tmp 32), a.eval (.tmp 33), a.eval (.tmp 34), a.eval (.tmp 35), a.eval (.tmp 36), a.eval (.tmp 37), a.eval (.tmp 38), a.eval (.tmp 39), a.eval (.tmp 40), a.eval (.tmp 41), a.eval (.tmp 42), a.eval (.tmp 43), a.eval (.tmp 44), a.eval (.tmp 45), a.eval (.tmp 46), a.eval (.tmp 47), a.eval (.tmp 48), a.eval (.tmp 49), a.eval (.tmp 50), a.eval (.tmp 51), a.eval (.tmp 52), a.eval (.tmp 53), a.eval (.tmp 54), a.eval (.tmp 55), a.eval (.tmp 56), a.eval (.tmp 57), a.eval (.tmp 58), a.eval (.tmp 59), a.eval (.tmp 60), a.eval (.tmp 61), a.eval (.tmp 62), a.eval (.tmp 63), a.eval (.tmp 64), a.eval (.tmp 65), a.eval (.tmp 66), a.eval (.tmp 67), a.eval (.tmp 68), a.eval (.tmp 69), a.eval (.tmp 70), a.eval (.tmp 71), a.eval (.tmp 72), a.eval (.tmp 73), a.eval (.tmp 74), a.eval (.tmp 75), a.eval (.tmp 76), a.eval (.tmp 77), a.eval (.tmp 78), a.eval (.tmp 79), a.eval (.tmp 80), a.eval (.tmp 81), a.eval (.tmp 82), a.eval (.tmp 83), a.eval (.tmp 84), a.eval (.tmp 85), a.eval (.tmp 86), a.eval (.tmp 87), a.eval (.tmp 88), a.eval (.tmp 89), a.eval (.tmp 90), a.eval (.tmp 91), a.eval (.tmp 92), a.eval (.tmp 93), a.eval (.tmp 94), a.eval (.tmp 95), a.eval (.tmp 96), a.eval (.tmp 97), a.eval (.tmp 98), a.eval (.tmp 99), a.eval (.tmp 100), a.eval (.tmp 101), a.eval (.tmp 102), a.eval (.tmp 103), a.eval (.tmp 104), a.eval (.tmp 105), a.eval (.tmp 106), a.eval (.tmp 107), a.eval (.tmp 108), a.eval (.tmp 109), a.eval (.tmp 110), a.eval (.tmp 111), a.eval (.tmp 112), a.eval (.tmp 113), a.eval (.tmp 114), a.eval (.tmp 115), a.eval (.tmp 116), a.eval (.tmp 117), a.eval (.tmp 118), a.eval (.tmp 119), a.eval (.tmp 120), a.eval (.tmp 121), a.eval (.tmp 122), a.eval (.tmp 123), a.eval (.tmp 124), a.eval (.tmp 125), a.eval (.tmp 126), a.eval (.tmp 127), a.eval (.tmp 128), a.eval (.tmp 129), a.eval (.tmp 130), a.eval (.tmp 131), a.eval (.tmp 132), a.eval (.tmp 133), a.eval (.tmp 134), a.eval (.tmp 135), a.eval (.tmp 136), a.eval (.tmp 137), a.eval (.tmp 138), a.eval (.tmp 139), a.eval (.tmp 140), a.eval (.tmp 141)], []⟩ := act_list hI.size hI.defers
            rw [ha, eval_of ex, eval_of ey, eval_of e0, eval_of e1, eval_of e2, eval_of e3, eval_of e4, eval_of e5, eval_of e6, eval_of e7, eval_of e8, eval_of e9, eval_of e10, eval_of e11, eval_of e12, eval_of e13, eval_of e14, eval_of e15, eval_of e16, eval_of e17, eval_of e20, eval_of e21, eval_of e22, eval_of e23, eval_of e24]
            clear hI ha ex ey hy e0 e1 e2 e3 e4 e5 e6 e7 e8 e9 e10 e11 e12 e13 e14 e15 e16 e17 e20 e21 e22 e23 e24
            go_wp2_with fail
            go_meet
            case rel => exact ⟨X, B, c, rfl, rfl, oX, ⟨lo', hi', r, qq1, qq2, qq3⟩, hX, hbk⟩
        case rest =>
          obtain ⟨X1, B1, c1, rfl, rfl, b1, ⟨lor1, hir1, r1, hlor1, hhir1, hner1⟩, hXr1, hbd⟩ := hcut
          obtain ⟨w8, rfl⟩ : ∃ W, W = wc := ⟨_, rfl⟩
          have hXlr1 := b1.lt
          have z8 := hbd.size
          replace ba := ba.grow hbd
          replace bw := bw.grow hbd
          replace bg := bg.grow hbd
          replace r0 := r0.grow hbd
          replace b0 := b0.grow hbd
          replace rx := rx.grow hbd
          replace ry := ry.grow hbd
          replace bx := bx.grow hbd
          replace rg := rg.grow hbd
          replace bu := bu.grow hbd
          replace hb := below_trans hb hbd
          clear hbd
          obtain ⟨b1c0, b1c1, b1c2, b1c3, b1c4, b1c5, b1c6, b1c7⟩ := b1.eight
          obtain ⟨b0c0, b0c1, b0c2, b0c3, b0c4, b0c5, b0c6, b0c7⟩ := b0.eight
          go_wp2_with fail
          clear b1c0 b1c1 b1c2 b1c3 b1c4 b1c5 b1c6 b1c7 b0c0 b0c1 b0c2 b0c3 b0c4 b0c5 b0c6 b0c7
          refine (eqPane_same rq rk rf rt rl rn ro B1 B0 ln c1 c0 R _ r1.reads r0.reads HMM.out hln).mono ?_
          rintro e w9 ⟨rfl, hb9⟩
          have z9 := hb9.size
          replace ba := ba.grow hb9
          replace bw := bw.grow hb9
          replace bg := bg.grow hb9
          replace r0 := r0.grow hb9
          replace b0 := b0.grow hb9
          replace rx := rx.grow hb9
          replace ry := ry.grow hb9
          replace bx := bx.grow hb9
          replace rg := rg.grow hb9
          replace bu := bu.grow hb9
          replace r1 := r1.grow hb9
          replace b1 := b1.grow hb9
          replace hb := below_trans hb hb9
          clear hb9
          have HRd := Lib.hid (fun W (h : Below w9.heap.size w9 W) => And.intro (rx.reads.below h) (ry.reads.below h))
          have kbx0 := fun W (hW : Below w9.heap.size w9 W) => (bx.grow hW).seven.1
          have kbx1 := fun W (hW : Below w9.heap.size w9 W) => (bx.grow hW).seven.2.1
          have kbx2 := fun W (hW : Below w9.heap.size w9 W) => (bx.grow hW).seven.2.2.1
          have kbx3 := fun W (hW : Below w9.heap.size w9 W) => (bx.grow hW).seven.2.2.2.1
          have kbx4 := fun W (hW : Below w9.heap.size w9 W) => (bx.grow hW).seven.2.2.2.2.1
          have kbx5 := fun W (hW : Below w9.heap.size w9 W) => (bx.grow hW).seven.2.2.2.2.2.1
          have kbx6 := fun W (hW : Below w9.heap.size w9 W) => (bx.grow hW).seven.2.2.2.2.2.2
          have kba0 := fun W (hW : Below w9.heap.size w9 W) => (ba.grow hW).seven.1
          have kba1 := fun W (hW : Below w9.heap.size w9 W) => (ba.grow hW).seven.2.1
          have kba2 := fun W (hW : Below w9.heap.size w9 W) => (ba.grow hW).seven.2.2.1
          have kba3 := fun W (hW : Below w9.heap.size w9 W) => (ba.grow hW).seven.2.2.2.1
          have kba4 := fun W (hW : Below w9.heap.size w9 W) => (ba.grow hW).seven.2.2.2.2.1
          have kba5 := fun W (hW : Below w9.heap.size w9 W) => (ba.grow hW).seven.2.2.2.2.2.1
          have kba6 := fun W (hW : Below w9.heap.size w9 W) => (ba.grow hW).seven.2.2.2.2.2.2
          have HBd := Lib.hid (fun W (h : Below w9.heap.size w9 W) => below_trans hb h)
          go_wp2_with fail
          go_region_held3 (fun W => Below w9.heap.size w9 W) (first | exact (Below.refl _ _).drew | exact below_trans (by assumption) (by assumption))
            (first
              | (go_at_call 18; refine (toQuery_w kd s st kq kk F n cf fs M m cm ms _ (HF.out _ (HBd.out _ (by assumption))) hz hn (HM.out _ (HBd.out _ (by assumption))) hy hm).mono ?_; rintro e wt0 ⟨gt, gt2, mt, rfl, rt, rt2, -, -, hbt⟩)
              | (go_at_call 20; refine (eqQuery_same kd s st kq kk _ _ n _ _ fs _ _ m _ _ ms _ (HRd.out _ (by assumption)).1 rt.reads hz hn (HRd.out _ (by assumption)).2 rt2.reads hy hm).mono ?_; rintro e w10 ⟨rfl, hbe⟩))
          have hB10 : Below w9.heap.size w9 w10 := by assumption
          clear hbt hbe rt rt2 HRd HBd kbx0 kbx1 kbx2 kbx3 kbx4 kbx5 kbx6 kba0 kba1 kba2 kba3 kba4 kba5 kba6
          have z10 := hB10.size
          replace ba := ba.grow hB10
          replace bw := bw.grow hB10
          replace bg := bg.grow hB10
          replace r0 := r0.grow hB10
          replace b0 := b0.grow hB10
          replace rx := rx.grow hB10
          replace ry := ry.grow hB10
          replace bx := bx.grow hB10
          replace rg := rg.grow hB10
          replace bu := bu.grow hB10
          replace r1 := r1.grow hB10
          replace b1 := b1.grow hB10
          replace hb := below_trans hb hB10
          clear hB10
          have HRd := Lib.hid (fun W (h : Below w10.heap.size w10 W) => rg.reads.below h)
          have kbu0 := fun W (hW : Below w10.heap.size w10 W) => (bu.grow hW).six.1
          have kbu1 := fun W (hW : Below w10.heap.size w10 W) => (bu.grow hW).six.2.1
          have kbu2 := fun W (hW : Below w10.heap.size w10 W) => (bu.grow hW).six.2.2.1
          have kbu3 := fun W (hW : Below w10.heap.size w10 W) => (bu.grow hW).six.2.2.2.1
          have kbu4 := fun W (hW : Below w10.heap.size w10 W) => (bu.grow hW).six.2.2.2.2.1
          have kbu5 := fun W (hW : Below w10.heap.size w10 W) => (bu.grow hW).six.2.2.2.2.2
          have kbg0 := fun W (hW : Below w10.heap.size w10 W) => (bg.grow hW).six.1
          have kbg1 := fun W (hW : Below w10.heap.size w10 W) => (bg.grow hW).six.2.1
          have kbg2 := fun W (hW : Below w10.heap.size w10 W) => (bg.grow hW).six.2.2.1
          have kbg3 := fun W (hW : Below w10.heap.size w10 W) => (bg.grow hW).six.2.2.2.1
          have kbg4 := fun W (hW : Below w10.heap.size w10 W) => (bg.grow hW).six.2.2.2.2.1
          have kbg5 := fun W (hW : Below w10.heap.size w10 W) => (bg.grow hW).six.2.2.2.2.2
          have HBd := Lib.hid (fun W (h : Below w10.heap.size w10 W) => below_trans hb h)
          go_wp2_with fail
          go_region_held3 (fun W => Below w10.heap.size w10 W) (first | exact (Below.refl _ _).drew | exact below_trans (by assumption) (by assumption))
            (first
              | (go_at_call 33; refine (toAgg_w N h lw mn mx A j ca ts _ (HA.out _ (HBd.out _ (by assumption))) hx hj).mono ?_; rintro e wt0 ⟨gt, rfl, rt, hbt⟩)
              | (go_at_call 35; refine (eqAgg_same N h lw mn mx _ _ j _ _ ts _ (HRd.out _ (by assumption)) rt.reads hx hj).mono ?_; rintro e w11 ⟨rfl, hbe⟩))
          have hB11 : Below w10.heap.size w10 w11 := by assumption
          clear hbt hbe rt HRd HBd kbu0 kbu1 kbu2 kbu3 kbu4 kbu5 kbg0 kbg1 kbg2 kbg3 kbg4 kbg5
          have z11 := hB11.size
          replace ba := ba.grow hB11
          replace bw := bw.grow hB11
          replace bg := bg.grow hB11
          replace r0 := r0.grow hB11
          replace b0 := b0.grow hB11
          replace rx := rx.grow hB11
          replace ry := ry.grow hB11
          replace bx := bx.grow hB11
          replace rg := rg.grow hB11
          replace bu := bu.grow hB11
          replace r1 := r1.grow hB11
          replace b1 := b1.grow hB11
          replace hb := below_trans hb hB11
          clear hB11
          obtain ⟨bxc0, bxc1, bxc2, bxc3, bxc4, bxc5, bxc6⟩ := bx.seven
          go_wp2_with fail
          clear bxc0 bxc1 bxc2 bxc3 bxc4 bxc5 bxc6
          refine (markQuery_at _ _ n _ m _ kd s st kq kk _ _ _ fs ms 1 k1 k2 _ rx ry (by omega) (by omega) (by omega) (by omega) (by omega) HK1.out HK2.out hz hn hy hm).mono ?_
          rintro e w12 ⟨rfl, hO⟩
          have z12 := hO.size
          replace ba := ba.only hO (.inl (by omega))
          replace bw := bw.only hO (.inl (by omega))
          replace bg := bg.only hO (.inl (by omega))
          replace r0 := r0.move (hO.same (.inl (by omega)) (by omega))
          replace b0 := b0.only hO (.inl (by omega))
          replace bx := bx.only hO (.inr (by omega))
          replace rg := rg.move (hO.same (.inr (by omega)) (by omega))
          replace bu := bu.only hO (.inr (by omega))
          replace r1 := r1.move (hO.same (.inr (by omega)) (by omega))
          replace b1 := b1.only hO (.inr (by omega))
          replace hb := below_only hb hO (by omega) (by omega)
          clear hO rx ry
          obtain ⟨buc0, buc1, buc2, buc3, buc4, buc5⟩ := bu.six
          go_wp2_with fail
          clear buc0 buc1 buc2 buc3 buc4 buc5
          refine (as_int HK3.out (markAgg_at N h lw mn mx _ _ _ _ j ts k2 _ rg hk20 hk21 hx hj)).mono ?_
          rintro e w13 ⟨rfl, rgm, hO⟩
          have z13 := hO.size
          replace ba := ba.only hO (.inl (by omega))
          replace bw := bw.only hO (.inl (by omega))
          replace bg := bg.only hO (.inl (by omega))
          replace r0 := r0.move (hO.same (.inl (by omega)) (by omega))
          replace b0 := b0.only hO (.inl (by omega))
          replace bx := bx.only hO (.inl (by omega))
          replace bu := bu.only hO (.inr (by omega))
          replace r1 := r1.move (hO.same (.inr (by omega)) (by omega))
          replace b1 := b1.only hO (.inr (by omega))
          replace hb := below_only hb hO (by omega) (by omega)
          clear hO rg
          clear rgm
          obtain ⟨b1c0, b1c1, b1c2, b1c3, b1c4, b1c5, b1c6, b1c7⟩ := b1.eight
          obtain ⟨b0c0, b0c1, b0c2, b0c3, b0c4, b0c5, b0c6, b0c7⟩ := b0.eight
          go_wp2_with fail
          clear b1c0 b1c1 b1c2 b1c3 b1c4 b1c5 b1c6 b1c7 b0c0 b0c1 b0c2 b0c3 b0c4 b0c5 b0c6 b0c7
          refine (eqPane_same rq rk rf rt rl rn ro B1 B0 ln c1 c0 R _ r1.reads r0.reads HMM.out hln).mono ?_
          rintro e w14 ⟨rfl, hb14⟩
          have z14 := hb14.size
          replace ba := ba.grow hb14
          replace bw := bw.grow hb14
          replace bg := bg.grow hb14
          replace r0 := r0.grow hb14
          replace b0 := b0.grow hb14
          replace bx := bx.grow hb14
          replace bu := bu.grow hb14
          replace r1 := r1.grow hb14
          replace b1 := b1.grow hb14
          replace hb := below_trans hb hb14
          clear hb14
          obtain ⟨b1c0, b1c1, b1c2, b1c3, b1c4, b1c5, b1c6, b1c7⟩ := b1.eight
          go_wp2_with fail
          clear b1c0 b1c1 b1c2 b1c3 b1c4 b1c5 b1c6 b1c7
          refine (as_int HQ.out (markPane_at rq rk rf rt rl rn ro B1 ln c1 _ _ R 1 _ r1 (by omega) (by omega) HMM.out hln)).mono ?_
          rintro e w15 ⟨rfl, r1m, hO⟩
          have z15 := hO.size
          replace ba := ba.only hO (.inl (by omega))
          replace bw := bw.only hO (.inl (by omega))
          replace bg := bg.only hO (.inl (by omega))
          replace r0 := r0.move (hO.same (.inl (by omega)) (by omega))
          replace b0 := b0.only hO (.inl (by omega))
          replace bx := bx.only hO (.inl (by omega))
          replace bu := bu.only hO (.inl (by omega))
          replace b1 := b1.only hO hner1
          replace hb := below_only hb hO (by omega) (by omega)
          clear hO r1
          obtain ⟨b1c0, b1c1, b1c2, b1c3, b1c4, b1c5, b1c6, b1c7⟩ := b1.eight
          go_wp2_with fail
          clear b1c0 b1c1 b1c2 b1c3 b1c4 b1c5 b1c6 b1c7
          refine (as_int HQ.out (heldPane_any rq rk rf rt rl rn ro B1 ln c1 1 _ r1m.reads (by omega) (by omega) hln)).mono ?_
          rintro e w16 ⟨rfl, hb16⟩
          have z16 := hb16.size
          replace ba := ba.grow hb16
          replace bw := bw.grow hb16
          replace bg := bg.grow hb16
          replace r0 := r0.grow hb16
          replace b0 := b0.grow hb16
          replace bx := bx.grow hb16
          replace bu := bu.grow hb16
          replace b1 := b1.grow hb16
          replace r1m := r1m.grow hb16
          replace hb := below_trans hb hb16
          clear hb16
          go_upto_region 31 with (fail)
          go_cut [23, 24] from 25 to 141 (fun sp sq wx => ∃ (X : Nat) (B : Option Addr) (c : Nat), sp = .pointer (some ⟨X, 0, none⟩) ∧ sq = .bool rb ∧ Own wx X 31 (pac rq rk rf rt rl rn (.slice B ln c) ro) ∧ (∃ lo hi, RowAt lo hi wx 3 1 (.slice B ln c) ln (iz R) ∧ w16.heap.size ≤ lo ∧ hi ≤ wx.heap.size ∧ (X < lo ∨ hi ≤ X)) ∧ w16.heap.size ≤ X ∧ Below w16.heap.size w16 wx)
          case first =>
            have TQ := Lib.hid (fun W (hx0 : Below w16.heap.size w16 W) => toQuery_w kd s st kq kk F n cf fs M m cm ms _ (HF.out _ (below_trans hb hx0)) hz hn (HM.out _ (below_trans hb hx0)) hy hm)
            have TA := Lib.hid (fun W (hx0 : Below w16.heap.size w16 W) => toAgg_w N h lw mn mx A j ca ts _ (HA.out _ (below_trans hb hx0)) hx hj)
            refine wp_region_kinv (kPofA w16 id key f t lab kd s st kq kk N h lw mn mx rq rk rf rt rl rn F M A n cf m cm j ca ln fs ms ts R ro rb) [(0, .int .i64 id), (1, qv (.slice F n cf) (.slice M m cm) kd s st kq kk), (2, .int .i64 key), (3, .agg #[.int .i64 f, .int .i64 t]), (4, .int .i64 lab), (5, agv N h lw mn mx (.slice A j ca)), (6, undef), (7, .pointer (some ⟨w.heap.size, 0, none⟩)), (8, undef), (9, .pointer (some ⟨w.heap.size + 1, 0, none⟩)), (10, undef), (11, .pointer (some ⟨w.heap.size + 1 + 1, 0, none⟩)), (12, .bool false), (13, .int .i64 left2), (14, .pointer (some ⟨X0, 0, none⟩)), (15, .bool rb), (16, .pointer (some ⟨w5.heap.size, 0, none⟩)), (17, .pointer (some ⟨w6.heap.size, 0, none⟩)), (18, .pointer (some ⟨X1, 0, none⟩)), (19, .bool rb), (20, .int .i64 k3), (21, .int .i64 q1), (22, .int .i64 q1)] 142 [] (fun _ W => Below w16.heap.size w16 W) (by kernel_rfl) (by kernel_rfl) (by kernel_rfl) rfl rfl ?hkeep (Below.refl _ _).drew ?hstep ?hfin
            case hkeep =>
              intro p hp
              simp only [List.mem_cons, List.not_mem_nil, or_false] at hp
              rcases hp with rfl | rfl | rfl | rfl | rfl | rfl | rfl | rfl | rfl | rfl | rfl | rfl | rfl | rfl | rfl | rfl | rfl | rfl | rfl | rfl | rfl | rfl | rfl <;> rfl
            case hstep =>
              intro L i o a W hi hLi hdep hsl hI
              have hlt : i < 16 := (Array.getElem?_eq_some_iff.1 hi).1
              have MK : ∀ {i : Nat} {W' : World}, 14 ≠ i → Below W.heap.size W W' → ∀ (jx : Nat) (ux : Value), jx ≠ i → L jx = true → kPofA w16 id key f t lab kd s st kq kk N h lw mn mx rq rk rf rt rl rn F M A n cf m cm j ca ln fs ms ts R ro rb jx L W ux → kPofA w16 id key f t lab kd s st kq kk N h lw mn mx rq rk rf rt rl rn F M A n cf m cm j ca ln fs ms ts R ro rb jx (upd L i) W' ux := fun hix hbx jx ux _ _ hk => kPofA_mono w16 id key f t lab kd s st kq kk N h lw mn mx rq rk rf rt rl rn F M A n cf m cm j ca ln fs ms ts R ro rb hix hbx hk
              have hbk := hI.mem
              match i, hlt with
              | 0, _ =>
                obtain rfl := Option.some.inj hi
                have hx := hI.held (s := 0) (v := .int .i64 id) (by simp)
                exact wpOp_value (v := .int .i64 id) (w' := W) hi rfl (by simp [execOp, go_sem, hx]) (hI.value hi rfl hsl hdep rfl (MK (by decide) (Below.refl _ _)) hbk)
              | 1, _ =>
                obtain rfl := Option.some.inj hi
                have hx := hI.held (s := 7) (v := .pointer (some ⟨w.heap.size, 0, none⟩)) (by simp)
                obtain ⟨c0, c1, c2, c3, c4, c5, c6⟩ := (ba.grow hbk).seven
                exact wpOp_value (v := qv (.slice F n cf) (.slice M m cm) kd s st kq kk) (w' := W) hi rfl (by simp [execOp, go_sem, hx, c0, c1, c2, c3, c4, c5, c6]) (hI.value hi rfl hsl hdep rfl (MK (by decide) (Below.refl _ _)) hbk)
              | 2, _ =>
                obtain rfl := Option.some.inj hi
                have d1 : L 1 = true := hdep { on := 1, ground := .data } (by simp) rfl
                obtain ⟨x, ex, kx⟩ := hI.at 1 (d := 114) rfl rfl d1
                have hx : x = qv (.slice F n cf) (.slice M m cm) kd s st kq kk := kx
                subst hx
                refine wpOp_enter (f := 18) (args := #[qv (.slice F n cf) (.slice M m cm) kd s st kq kk]) (w' := W) hi rfl (by simp [execOp, go_sem, ex]) ?_
                refine (TQ.out W hbk).mono ?_
                rintro e W' ⟨g, g', mid, rfl, r, r', -, -, hb1⟩
                exact ⟨_, rfl, hI.value hi rfl hsl hdep ⟨g, g', rfl, fun _ => ⟨r.reads, r'.reads⟩⟩ (MK (by decide) hb1) (below_trans hbk hb1)⟩
              | 3, _ =>
                obtain rfl := Option.some.inj hi
                have hx := hI.held (s := 2) (v := .int .i64 key) (by simp)
                exact wpOp_value (v := .int .i64 key) (w' := W) hi rfl (by simp [execOp, go_sem, hx]) (hI.value hi rfl hsl hdep rfl (MK (by decide) (Below.refl _ _)) hbk)
              | 4, _ =>
                obtain rfl := Option.some.inj hi
                have hx := hI.held (s := 9) (v := .pointer (some ⟨w.heap.size + 1, 0, none⟩)) (by simp)
                obtain ⟨c0, c1⟩ := (bw.grow hbk).two
                exact wpOp_value (v := .agg #[.int .i64 f, .int .i64 t]) (w' := W) hi rfl (by simp [execOp, go_sem, hx, c0, c1]) (hI.value hi rfl hsl hdep rfl (MK (by decide) (Below.refl _ _)) hbk)
              | 5, _ =>
                obtain rfl := Option.some.inj hi
                have d4 : L 4 = true := hdep { on := 4, ground := .data } (by simp) rfl
                obtain ⟨x, ex, kx⟩ := hI.at 4 (d := 117) rfl rfl d4
                have hx : x = .agg #[.int .i64 f, .int .i64 t] := kx
                subst hx
                refine wpOp_enter (f := 32) (args := #[.agg #[.int .i64 f, .int .i64 t]]) (w' := W) hi rfl (by simp [execOp, go_sem, ex]) ?_
                refine (toWin_any f t W).mono ?_
                rintro e W' ⟨rfl, hb1⟩
                exact ⟨_, rfl, hI.value hi rfl hsl hdep rfl (MK (by decide) hb1) (below_trans hbk hb1)⟩
              | 6, _ =>
                obtain rfl := Option.some.inj hi
                have hx := hI.held (s := 4) (v := .int .i64 lab) (by simp)
                exact wpOp_value (v := .int .i64 lab) (w' := W) hi rfl (by simp [execOp, go_sem, hx]) (hI.value hi rfl hsl hdep rfl (MK (by decide) (Below.refl _ _)) hbk)
              | 7, _ =>
                obtain rfl := Option.some.inj hi
                have hx := hI.held (s := 11) (v := .pointer (some ⟨w.heap.size + 1 + 1, 0, none⟩)) (by simp)
                obtain ⟨c0, c1, c2, c3, c4, c5⟩ := (bg.grow hbk).six
                exact wpOp_value (v := agv N h lw mn mx (.slice A j ca)) (w' := W) hi rfl (by simp [execOp, go_sem, hx, c0, c1, c2, c3, c4, c5]) (hI.value hi rfl hsl hdep rfl (MK (by decide) (Below.refl _ _)) hbk)
              | 8, _ =>
                obtain rfl := Option.some.inj hi
                have d7 : L 7 = true := hdep { on := 7, ground := .data } (by simp) rfl
                obtain ⟨x, ex, kx⟩ := hI.at 7 (d := 120) rfl rfl d7
                have hx : x = agv N h lw mn mx (.slice A j ca) := kx
                subst hx
                refine wpOp_enter (f := 33) (args := #[agv N h lw mn mx (.slice A j ca)]) (w' := W) hi rfl (by simp [execOp, go_sem, ex]) ?_
                refine (TA.out W hbk).mono ?_
                rintro e W' ⟨g, rfl, r, hb1⟩
                exact ⟨_, rfl, hI.value hi rfl hsl hdep ⟨g, rfl, fun _ => r.reads⟩ (MK (by decide) hb1) (below_trans hbk hb1)⟩
              | 9, _ =>
                obtain rfl := Option.some.inj hi
                have d0 : L 0 = true := hdep { on := 0, ground := .data } (by simp) rfl
                obtain ⟨x0, ex0, kx0⟩ := hI.at 0 (d := 113) rfl rfl d0
                have d2 : L 2 = true := hdep { on := 2, ground := .data } (by simp) rfl
                obtain ⟨x2, ex2, kx2⟩ := hI.at 2 (d := 115) rfl rfl d2
                have d3 : L 3 = true := hdep { on := 3, ground := .data } (by simp) rfl
                obtain ⟨x3, ex3, kx3⟩ := hI.at 3 (d := 116) rfl rfl d3
                have d5 : L 5 = true := hdep { on := 5, ground := .data } (by simp) rfl
                obtain ⟨x5, ex5, kx5⟩ := hI.at 5 (d := 118) rfl rfl d5
                have d6 : L 6 = true := hdep { on := 6, ground := .data } (by simp) rfl
                obtain ⟨x6, ex6, kx6⟩ := hI.at 6 (d := 119) rfl rfl d6
                have d8 : L 8 = true := hdep { on := 8, ground := .data } (by simp) rfl
                obtain ⟨x8, ex8, kx8⟩ := hI.at 8 (d := 121) rfl rfl d8
                have h0 : x0 = .int .i64 id := kx0
                subst h0
                obtain ⟨g1, g2, rfl, hq⟩ := kx2
                have h3 : x3 = .int .i64 key := kx3
                subst h3
                have h5 : x5 = .agg #[.int .i64 f, .int .i64 t] := kx5
                subst h5
                have h6 : x6 = .int .i64 lab := kx6
                subst h6
                obtain ⟨g3, rfl, hg⟩ := kx8
                have hns : L 14 = false := by
                  cases hs : L 14 with
                  | false => rfl
                  | true =>
                    have hc11 := hI.closed 14 _ rfl hs { on := 11, ground := .data } (by simp) rfl
                    have hc10 := hI.closed 11 _ rfl hc11 { on := 10, ground := .data } (by simp) rfl
                    have hc9 := hI.closed 10 _ rfl hc10 { on := 9, ground := .data } (by simp) rfl
                    have hx : L 9 = true := hc9
                    rw [hLi] at hx
                    cases hx
                refine wpOp_enter (f := 34) (args := #[.int .i64 id, qv (.slice (some ⟨g1, 0, none⟩) n n) (.slice (some ⟨g2, 0, none⟩) m m) kd s st kq kk, .int .i64 key, .agg #[.int .i64 f, .int .i64 t], .int .i64 lab, agv N h lw mn mx (.slice (some ⟨g3, 0, none⟩) j j)]) (w' := W) hi rfl (by simp [execOp, go_sem, ex0, ex2, ex3, ex5, ex6, ex8]) ?_
                refine (HI.out g1 g2 g3 W (hq hns).1 (hq hns).2 (hg hns)).mono ?_
                rintro e W' ⟨B, c, rfl, r, hb1⟩
                exact ⟨_, rfl, hI.value hi rfl hsl hdep ⟨B, c, rfl, fun _ => ⟨W.heap.size, W'.heap.size, r, hbk.size, Nat.le_refl _⟩⟩ (MK (by decide) hb1) (below_trans hbk hb1)⟩
              | 10, _ =>
                obtain rfl := Option.some.inj hi
                have d9 : L 9 = true := hdep { on := 9, ground := .data } (by simp) rfl
                obtain ⟨x, ex, kx⟩ := hI.at 9 (d := 122) rfl rfl d9
                obtain ⟨B, c, rfl, hr⟩ := kx
                exact wpOp_value (v := .tuple #[pav rq rk rf rt rl rn (.slice B ln c) ro, .bool rb]) (w' := W) hi rfl (by simp [execOp, go_sem, ex]) (hI.value hi rfl hsl hdep ⟨B, c, rfl, fun hl => hr (by rw [upd_ne (by decide)] at hl; exact hl)⟩ (MK (by decide) (Below.refl _ _)) hbk)
              | 11, _ =>
                obtain rfl := Option.some.inj hi
                have d10 : L 10 = true := hdep { on := 10, ground := .data } (by simp) rfl
                obtain ⟨x, ex, kx⟩ := hI.at 10 (d := 112) rfl rfl d10
                obtain ⟨B, c, rfl, hr⟩ := kx
                exact wpOp_value (v := pav rq rk rf rt rl rn (.slice B ln c) ro) (w' := W) hi rfl (by simp [execOp, go_sem, ex]) (hI.value hi rfl hsl hdep ⟨B, c, rfl, fun hl => hr (by rw [upd_ne (by decide)] at hl; exact hl)⟩ (MK (by decide) (Below.refl _ _)) hbk)
              | 12, _ =>
                obtain rfl := Option.some.inj hi
                have d10 : L 10 = true := hdep { on := 10, ground := .data } (by simp) rfl
                obtain ⟨x, ex, kx⟩ := hI.at 10 (d := 112) rfl rfl d10
                obtain ⟨B, c, rfl, hr⟩ := kx
                exact wpOp_value (v := .bool rb) (w' := W) hi rfl (by simp [execOp, go_sem, ex]) (hI.value hi rfl hsl hdep rfl (MK (by decide) (Below.refl _ _)) hbk)
              | 13, _ =>
                obtain rfl := Option.some.inj hi
                have hns : L 14 = false := by
                  cases hs : L 14 with
                  | false => rfl
                  | true =>
                    have hc13 := hI.closed 14 _ rfl hs { on := 13, ground := .data } (by simp) rfl
                    have hx : L 13 = true := hc13
                    rw [hLi] at hx
                    cases hx
                refine wpOp_value (v := .pointer (some ⟨W.heap.size, 0, none⟩)) (w' := W.alloc (.cells #[.int .i64 0, .int .i64 0, .int .i64 0, .int .i64 0, .int .i64 0, .int .i64 0, .slice none 0 0, .bool false] 31)) hi rfl (by simp [execOp, go_sem]) ?_
                exact hI.value hi rfl hsl hdep ⟨W.heap.size, rfl, hbk.size, fun _ => Own.new W _ (pac 0 0 0 0 0 0 (.slice none 0 0) false), fun hl => by rw [upd_ne (by decide), hns] at hl; cases hl⟩ (MK (by decide) (below_alloc _ _)) (below_trans hbk (below_alloc _ _))
              | 14, _ =>
                obtain rfl := Option.some.inj hi
                have d13 : L 13 = true := hdep { on := 13, ground := .data } (by simp) rfl
                obtain ⟨x, ex, kx⟩ := hI.at 13 (d := 23) rfl rfl d13
                have d11 : L 11 = true := hdep { on := 11, ground := .data } (by simp) rfl
                obtain ⟨y, ey, ky⟩ := hI.at 11 (d := 123) rfl rfl d11
                obtain ⟨X, rfl, hX, hz, _⟩ := kx
                obtain ⟨B, c, rfl, hr⟩ := ky
                have qX := hz hLi
                obtain ⟨lo0, hi0, r0', q1, q2⟩ := hr hLi
                obtain ⟨lo1, hi1, r1', q3, q4, q5⟩ := row_apart r0' qX (by decide) q1 q2 hX
                obtain ⟨t0, t1, t2, t3, t4, t5, t6, t7⟩ := qX.eight
                have ft0 := qX.free 0
                have ft1 := qX.free 1
                have ft2 := qX.free 2
                have ft3 := qX.free 3
                have ft4 := qX.free 4
                have ft5 := qX.free 5
                have ft6 := qX.free 6
                have ft7 := qX.free 7
                refine wpOp_skip (w' := ((((((((W.setCell ⟨X, 0, none⟩ (.int .i64 rq)).setCell ⟨X, 1, none⟩ (.int .i64 rk)).setCell ⟨X, 2, none⟩ (.int .i64 rf)).setCell ⟨X, 3, none⟩ (.int .i64 rt)).setCell ⟨X, 4, none⟩ (.int .i64 rl)).setCell ⟨X, 5, none⟩ (.int .i64 rn)).setCell ⟨X, 6, none⟩ (.slice B ln c)).setCell ⟨X, 7, none⟩ (.bool ro))) hi rfl (by simp [execOp, go_sem, ex, ey, t0, t1, t2, t3, t4, t5, t6, t7, ft0, ft1, ft2, ft3, ft4, ft5, ft6, ft7]) ?_
                refine hI.none hi rfl hdep (fun jx o' d' ux hjx hoj hdj hau hLj hKj => ?_) ((((((((hbk.setCell (p := ⟨X, 0, none⟩) hX (.int .i64 rq)).setCell (p := ⟨X, 1, none⟩) hX (.int .i64 rk)).setCell (p := ⟨X, 2, none⟩) hX (.int .i64 rf)).setCell (p := ⟨X, 3, none⟩) hX (.int .i64 rt)).setCell (p := ⟨X, 4, none⟩) hX (.int .i64 rl)).setCell (p := ⟨X, 5, none⟩) hX (.int .i64 rn)).setCell (p := ⟨X, 6, none⟩) hX (.slice B ln c)).setCell (p := ⟨X, 7, none⟩) hX (.bool ro)) _
                by_cases ej : jx = 13
                · subst ej
                  obtain rfl := Option.some.inj hoj
                  obtain rfl := Option.some.inj hdj
                  rw [ex] at hau
                  obtain rfl := Option.some.inj hau
                  refine ⟨X, rfl, hX, fun hl => (by rw [upd_at] at hl; cases hl), fun _ => ⟨B, c, lo1, hi1, ((((((((qX.set 0 (.int .i64 rq)).set 1 (.int .i64 rk)).set 2 (.int .i64 rf)).set 3 (.int .i64 rt)).set 4 (.int .i64 rl)).set 5 (.int .i64 rn)).set 6 (.slice B ln c)).set 7 (.bool ro)), ((((((((r1'.setFar ⟨X, 0, none⟩ (.int .i64 rq) q5).setFar ⟨X, 1, none⟩ (.int .i64 rk) q5).setFar ⟨X, 2, none⟩ (.int .i64 rf) q5).setFar ⟨X, 3, none⟩ (.int .i64 rt) q5).setFar ⟨X, 4, none⟩ (.int .i64 rl) q5).setFar ⟨X, 5, none⟩ (.int .i64 rn) q5).setFar ⟨X, 6, none⟩ (.slice B ln c) q5).setFar ⟨X, 7, none⟩ (.bool ro) q5), q3, ?_, q5⟩⟩
                  simp only [size_set]
                  exact q4
                · exact kPofA_store w16 id key f t lab kd s st kq kk N h lw mn mx rq rk rf rt rl rn F M A n cf m cm j ca ln fs ms ts R ro rb ej hKj
              | 15, _ =>
                obtain rfl := Option.some.inj hi
                have d12 : L 12 = true := hdep { on := 12, ground := .data } (by simp) rfl
                obtain ⟨x, ex, kx⟩ := hI.at 12 (d := 124) rfl rfl d12
                have hx : x = .bool rb := kx
                subst hx
                exact wpOp_value (v := .bool rb) (w' := W) hi rfl (by simp [execOp, go_sem, ex]) (hI.value hi rfl hsl hdep rfl (MK (by decide) (Below.refl _ _)) hbk)
            case hfin =>
              intro L a W hall hI
              obtain ⟨_, ex, X, rfl, hX, -, h2⟩ := hI.at 13 (d := 23) rfl rfl (hall 13 (by decide))
              obtain ⟨v, ey, hy⟩ := hI.at 15 (d := 24) rfl rfl (hall 15 (by decide))
              have hyy : v = .bool rb := hy
              subst hyy
              obtain ⟨B, c, lo', hi', oX, r, qq1, qq2, qq3⟩ := h2 (hall 14 (by decide))
              have hbk := hI.mem
              have e0 := hI.held (s := 0) (v := .int .i64 id) (by simp)
              have e1 := hI.held (s := 1) (v := qv (.slice F n cf) (.slice M m cm) kd s st kq kk) (by simp)
              have e2 := hI.held (s := 2) (v := .int .i64 key) (by simp)
              have e3 := hI.held (s := 3) (v := .agg #[.int .i64 f, .int .i64 t]) (by simp)
              have e4 := hI.held (s := 4) (v := .int .i64 lab) (by simp)
              have e5 := hI.held (s := 5) (v := agv N h lw mn mx (.slice A j ca)) (by simp)
              have e6 := hI.held (s := 6) (v := undef) (by simp)
              have e7 := hI.held (s := 7) (v := .pointer (some ⟨w.heap.size, 0, none⟩)) (by simp)
              have e8 := hI.held (s := 8) (v := undef) (by simp)
              have e9 := hI.held (s := 9) (v := .pointer (some ⟨w.heap.size + 1, 0, none⟩)) (by simp)
              have e10 := hI.held (s := 10) (v := undef) (by simp)
              have e11 := hI.held (s := 11) (v := .pointer (some ⟨w.heap.size + 1 + 1, 0, none⟩)) (by simp)
              have e12 := hI.held (s := 12) (v := .bool false) (by simp)
              have e13 := hI.held (s := 13) (v := .int .i64 left2) (by simp)
              have e14 := hI.held (s := 14) (v := .pointer (some ⟨X0, 0, none⟩)) (by simp)
              have e15 := hI.held (s := 15) (v := .bool rb) (by simp)
              have e16 := hI.held (s := 16) (v := .pointer (some ⟨w5.heap.size, 0, none⟩)) (by simp)
              have e17 := hI.held (s := 17) (v := .pointer (some ⟨w6.heap.size, 0, none⟩)) (by simp)
              have e18 := hI.held (s := 18) (v := .pointer (some ⟨X1, 0, none⟩)) (by simp)
              have e19 := hI.held (s := 19) (v := .bool rb) (by simp)
              have e20 := hI.held (s := 20) (v := .int .i64 k3) (by simp)
              have e21 := hI.held (s := 21) (v := .int .i64 q1) (by simp)
              have e22 := hI.held (s := 22) (v := .int .i64 q1) (by simp)
              have ha : a = ⟨#[a.eval (.tmp 0), a.eval (.tmp 1), a.eval (.tmp 2), a.eval (.tmp 3), a.eval (.tmp 4), a.eval (.tmp 5), a.eval (.tmp 6), a.eval (.tmp 7), a.eval (.tmp 8), a.eval (.tmp 9), a.eval (.tmp 10), a.eval (.tmp 11), a.eval (.tmp 12), a.eval (.tmp 13), a.eval (.tmp 14), a.eval (.tmp 15), a.eval (.tmp 16), a.eval (.tmp 17), a.eval (.tmp 18), a.eval (.tmp 19), a.eval (.tmp 20), a.eval (.tmp 21), a.eval (.tmp 22), a.eval (.tmp 23), a.eval (.tmp 24), a.eval (.tmp 25), a.eval (.tmp 26), a.eval (.tmp 27), a.eval (.tmp 28), a.eval (.tmp 29), a.eval (.tmp 30), a.eval (.tmp 31), a.eval (.tmp 32), a.eval (.tmp 33), a.eval (.tmp 34), a.eval (.tmp 35), a.eval (.tmp 36), a.eval (.tmp 37), a.eval (.tmp 38), a.eval (.tmp 39), a.eval (.tmp 40), a.eval (.tmp 41), a.eval (.tmp 42), a.eval (.tmp 43), a.eval (.tmp 44), a.eval (.tmp 45), a.eval (.tmp 46), a.eval (.tmp 47), a.eval (.tmp 48), a.eval (.tmp 49), a.eval (.tmp 50), a.eval (.tmp 51), a.eval (.tmp 52), a.eval (.tmp 53), a.eval (.tmp 54), a.eval (.tmp 55), a.eval (.tmp 56), a.eval (.tmp 57), a.eval (.tmp 58), a.eval (.tmp 59), a.eval (.tmp 60), a.eval (.tmp 61), a.eval (.tmp 62), a.eval (.tmp 63), a.eval (.tmp 64), a.eval (.tmp 65), a.eval (.tmp 66), a.eval (.tmp 67), a.eval (.tmp 68), a.eval (.tmp 69), a.eval (.tmp 70), a.eval (.tmp 71), a.eval (.tmp 72), a.eval (.tmp 73), a.eval (.tmp 74), a.eval (.tmp 75), a.eval (.tmp 76), a.eval (.tmp 77), a.eval (.tmp 78), a.eval (.tmp 79), a.eval (.tmp 80), a.eval (.tmp 81), a.eval (.tmp 82), a.eval (.tmp 83), a.eval (.tmp 84), a.eval (.tmp 85), a.eval (.tmp 86), a.eval (.tmp 87), a.eval (.tmp 88), a.eval (.tmp 89), a.eval (.tmp 90), a.eval (.tmp 91), a.eval (.tmp 92), a.eval (.tmp 93), a.eval (.tmp 94), a.eval (.tmp 95), a.eval (.tmp 96), a.eval (.tmp 97), a.eval (.tmp 98), a.eval (.tmp 99), a.eval (.tmp 100), a.eval (.tmp 101), a.eval (.tmp 102), a.eval (.tmp 103), a.eval (.tmp 104), a.eval (.tmp 105), a.eval (.tmp 106), a.eval (.tmp 107), a.eval (.tmp 108), a.eval (.tmp 109), a.eval (.tmp 110), a.eval (.tmp 111), a.eval (.tmp 112), a.eval (.tmp 113), a.eval (.tmp 114), a.eval (.tmp 115), a.eval (.tmp 116), a.eval (.tmp 117), a.eval (.tmp 118), a.eval (.tmp 119), a.eval (.tmp 120), a.eval (.tmp 121), a.eval (.tmp 122), a.eval (.tmp 123), a.eval (.tmp 124), a.eval (.tmp 125), a.eval (.tmp 126), a.eval (.tmp 127), a.eval (.tmp 128), a.eval (.tmp 129), a.eval (.tmp 130), a.eval (.tmp 131), a.eval (.tmp 132), a.eval (.tmp 133), a.eval (.tmp 134), a.eval (.tmp 135), a.eval (.tmp 136), a.eval (.tmp 137), a.eval (.tmp 138), a.eval (.tmp 139), a.eval (.tmp 140), a.eval (.tmp 141)], []⟩ := act_list hI.size hI.defers
              rw [ha, eval_of ex, eval_of ey, eval_of e0, eval_of e1, eval_of e2, eval_of e3, eval_of e4, eval_of e5, eval_of e6, eval_of e7, eval_of e8, eval_of e9, eval_of e10, eval_of e11, eval_of e12, eval_of e13, eval_of e14, eval_of e15, eval_of e16, eval_of e17, eval_of e18, eval_of e19, eval_of e20, eval_of e21, eval_of e22]
              clear hI ha ex ey hy e0 e1 e2 e3 e4 e5 e6 e7 e8 e9 e10 e11 e12 e13 e14 e15 e16 e17 e18 e19 e20 e21 e22
              go_wp2_with fail
              go_meet
              case rel => exact ⟨X, B, c, rfl, rfl, oX, ⟨lo', hi', r, qq1, qq2, qq3⟩, hX, hbk⟩
          case rest =>
            obtain ⟨X2, B2, c2, rfl, rfl, b2, ⟨lor2, hir2, r2, hlor2, hhir2, hner2⟩, hXr2, hbd⟩ := hcut
            obtain ⟨w17, rfl⟩ : ∃ W, W = wc := ⟨_, rfl⟩
            have hXlr2 := b2.lt
            have z17 := hbd.size
            replace ba := ba.grow hbd
            replace bw := bw.grow hbd
            replace bg := bg.grow hbd
            replace r0 := r0.grow hbd
            replace b0 := b0.grow hbd
            replace bx := bx.grow hbd
            replace bu := bu.grow hbd
            replace b1 := b1.grow hbd
            replace r1m := r1m.grow hbd
            replace hb := below_trans hb hbd
            clear hbd
            obtain ⟨b2c0, b2c1, b2c2, b2c3, b2c4, b2c5, b2c6, b2c7⟩ := b2.eight
            obtain ⟨b0c0, b0c1, b0c2, b0c3, b0c4, b0c5, b0c6, b0c7⟩ := b0.eight
            go_wp2_with fail
            clear b2c0 b2c1 b2c2 b2c3 b2c4 b2c5 b2c6 b2c7 b0c0 b0c1 b0c2 b0c3 b0c4 b0c5 b0c6 b0c7
            refine (eqPane_same rq rk rf rt rl rn ro B2 B0 ln c2 c0 R _ r2.reads r0.reads HMM.out hln).mono ?_
            rintro e w18 ⟨rfl, hb18⟩
            have z18 := hb18.size
            replace ba := ba.grow hb18
            replace bw := bw.grow hb18
            replace bg := bg.grow hb18
            replace r0 := r0.grow hb18
            replace b0 := b0.grow hb18
            replace bx := bx.grow hb18
            replace bu := bu.grow hb18
            replace b1 := b1.grow hb18
            replace r1m := r1m.grow hb18
            replace r2 := r2.grow hb18
            replace b2 := b2.grow hb18
            replace hb := below_trans hb hb18
            clear hb18
            obtain ⟨b1c0, b1c1, b1c2, b1c3, b1c4, b1c5, b1c6, b1c7⟩ := b1.eight
            go_wp2_with fail
            clear b1c0 b1c1 b1c2 b1c3 b1c4 b1c5 b1c6 b1c7
            refine (as_int HQ.out (heldPane_any rq rk rf rt rl rn ro B1 ln c1 1 _ r1m.reads (by omega) (by omega) hln)).mono ?_
            rintro e w19 ⟨rfl, hb19⟩
            have z19 := hb19.size
            replace ba := ba.grow hb19
            replace bw := bw.grow hb19
            replace bg := bg.grow hb19
            replace r0 := r0.grow hb19
            replace b0 := b0.grow hb19
            replace bx := bx.grow hb19
            replace bu := bu.grow hb19
            replace b1 := b1.grow hb19
            replace r1m := r1m.grow hb19
            replace r2 := r2.grow hb19
            replace b2 := b2.grow hb19
            replace hb := below_trans hb hb19
            clear hb19
            clear ba bw bg r0 b0 bx bu b1 r1m r2 b2
            go_wp2
            go_ret
            exact ⟨rfl, hb⟩
    · go_enter Try.func8, Try.ntmps8
      obtain ⟨ba, bw, bg, hb0, -⟩ := box_three (w := w) (c1 := qc (.slice F n cf) (.slice M m cm) kd s st kq kk) (c2 := [.int .i64 f, .int .i64 t]) (c3 := agc N h lw mn mx (.slice A j ca)) (t1 := 36) (t2 := 59) (t3 := 64)
      replace hb := below_trans hb hb0
      clear hb0
      obtain ⟨bac0, bac1, bac2, bac3, bac4, bac5, bac6⟩ := ba.seven
      go_wp2_with fail
      clear bac0 bac1 bac2 bac3 bac4 bac5 bac6
      refine (szQuery_fits F M n cf m cm kd s st kq kk _ hs).mono ?_
      rintro e w2 ⟨left, rfl, hlf, hb2⟩
      have z2 := hb2.size
      rw [World.size_alloc, World.size_alloc, World.size_alloc] at z2
      replace ba := ba.grow hb2
      replace bw := bw.grow hb2
      replace bg := bg.grow hb2
      replace hb := below_trans hb hb2
      clear hb2
      have hlt : ¬ left < 0 := by omega
      have hle := Lib.hid (show lessF left j = -1 by simp [lessF]; omega)
      have HL := Lib.hid (show 0 ≤ left ∧ left ≤ 1048576 by omega)
      clear hlf
      obtain ⟨bgc0, bgc1, bgc2, bgc3, bgc4, bgc5⟩ := bg.six
      go_wp2_with fail
      clear bgc0 bgc1 bgc2 bgc3 bgc4 bgc5
      refine (as_int hle.out (szAgg_any N h lw mn mx A j ca left _ HL.out.1 HL.out.2 hj0)).mono ?_
      rintro e w3 ⟨rfl, hb3⟩
      have z3 := hb3.size
      replace ba := ba.grow hb3
      replace bw := bw.grow hb3
      replace bg := bg.grow hb3
      replace hb := below_trans hb hb3
      clear hb3
      clear ba bw bg
      go_wp2
      go_ret
      exact ⟨rfl, hb⟩
  · go_enter Try.func8, Try.ntmps8
    obtain ⟨ba, bw, bg, hb0, -⟩ := box_three (w := w) (c1 := qc (.slice F n cf) (.slice M m cm) kd s st kq kk) (c2 := [.int .i64 f, .int .i64 t]) (c3 := agc N h lw mn mx (.slice A j ca)) (t1 := 36) (t2 := 59) (t3 := 64)
    replace hb := below_trans hb hb0
    clear hb0
    obtain ⟨bac0, bac1, bac2, bac3, bac4, bac5, bac6⟩ := ba.seven
    go_wp2_with fail
    clear bac0 bac1 bac2 bac3 bac4 bac5 bac6
    refine (szQuery_big F M n cf m cm kd s st kq kk _ hs hn0 hm0).mono ?_
    rintro e w2 ⟨rfl, hb2⟩
    have z2 := hb2.size
    rw [World.size_alloc, World.size_alloc, World.size_alloc] at z2
    replace ba := ba.grow hb2
    replace bw := bw.grow hb2
    replace bg := bg.grow hb2
    replace hb := below_trans hb hb2
    clear hb2
    clear ba bw bg
    go_wp2
    go_ret
    exact ⟨rfl, hb⟩
end Go.Proofs.Ytlmlckgnmkjkdaa
