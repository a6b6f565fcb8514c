/-
  What the laws' own helpers on Pane (six ints, a row of ints, a truth value) return. WRITTEN BY tools/genkitq.py.
-/
import Derived.Test.YtlmlckgnmkjkdaaPaneA
import Derived.Test.YtlmlckgnmkjkdaaKitAgg
namespace Go.Proofs.Ytlmlckgnmkjkdaa
open Go.RowKit

set_option maxHeartbeats 1000000 in
theorem eqPane_same (q k f t l n : Int) (o : Bool) (A B : Option Addr) (m ca cb : Nat) (zs : List Int) (w : World) (hA : Rd w A (iz zs)) (hB : Rd w B (iz zs)) (hz : zs.length = m) (hm : m ≤ 1048576) :
    Calls Try.prog 28 #[pav q k f t l n (.slice A m ca) o, pav q k f t l n (.slice B m cb) o] w fun e w' => e = .returned (.bool true) ∧ Below w.heap.size w w' := by
  have t0 : (q != q) = false := by simp
  have t1 : (k != k) = false := by simp
  have t2 : (f != f) = false := by simp
  have t3 : (t != t) = false := by simp
  have t4 : (l != l) = false := by simp
  have t5 : (n != n) = false := by simp
  have t6 : (o != o) = false := by simp
  obtain ⟨o1, o2, hb⟩ := boxes_two (w := w) (cs := pac q k f t l n (.slice A m ca) o) (ds := pac q k f t l n (.slice B m cb) o) (t := 31) (s := 31)
  have HA := Lib.hid (hA.below hb)
  have HB := Lib.hid (hB.below hb)
  clear hA hB
  obtain ⟨a0, a1, a2, a3, a4, a5, a6, a7⟩ := o1.eight
  obtain ⟨b0, b1, b2, b3, b4, b5, b6, b7⟩ := o2.eight
  go_enter Try.func28, Try.ntmps28
  go_wp2_with fail
  refine (eqIntS_same A B m ca cb zs _ HA.out HB.out hz hm).mono ?_
  clear a0 a1 a2 a3 a4 a5 a6 a7 b0 b1 b2 b3 b4 b5 b6 b7
  rintro e w2 ⟨rfl, h2⟩
  replace hb := below_trans hb h2
  obtain ⟨a0, a1, a2, a3, a4, a5, a6, a7⟩ := (o1.grow h2).eight
  obtain ⟨b0, b1, b2, b3, b4, b5, b6, b7⟩ := (o2.grow h2).eight
  clear o1 o2 h2
  go_wp2
  go_ret
  exact ⟨rfl, hb⟩

set_option maxHeartbeats 4000000 in
theorem toPane_w (q k f t l n : Int) (o : Bool) (A : Option Addr) (m ca : Nat) (zs : List Int) (w : World) (hA : Rd w A (iz zs)) (hz : zs.length = m) (hm : m ≤ 1048576) :
    Calls Try.prog 26 #[pav q k f t l n (.slice A m ca) o] w fun e w' => ∃ g, e = .returned (pav q k f t l n (.slice (some ⟨g, 0, none⟩) m m) o) ∧
      RowAt w.heap.size w'.heap.size w' 3 1 (.slice (some ⟨g, 0, none⟩) m m) m (iz zs) ∧ Below w.heap.size w w' := by
  obtain ⟨o1, o2, o3, hb0, hsz⟩ := box_three (w := w) (c1 := pac q k f t l n (.slice A m ca) o) (c2 := pac 0 0 0 0 0 0 (.slice none 0 0) false) (c3 := pac q k f t l n (.slice none 0 0) false) (t1 := 52) (t2 := 31) (t3 := 31)
  have HSZ := Lib.hid hsz
  clear hsz
  have HA := Lib.hid (hA.below hb0)
  clear hA
  obtain ⟨a0, a1, a2, a3, a4, a5, a6, a7⟩ := o1.eight
  go_enter Try.func26, Try.ntmps26
  go_wp2_with fail
  clear a0 a1 a2 a3 a4 a5 a6 a7
  refine (toIntS_w A m ca zs _ HA.out hz hm).mono ?_
  rintro e w1 ⟨g, rfl, r, hb⟩
  replace r := r.base (lo' := w.heap.size + 1 + 1 + 1) (by have := HSZ.out; omega)
  replace o1 := o1.grow hb
  replace o2 := o2.grow hb
  replace o3 := o3.grow hb
  replace hb0 := below_trans hb0 hb
  clear hb
  obtain ⟨a0, a1, a2, a3, a4, a5, a6, a7⟩ := o1.eight
  obtain ⟨b0, b1, b2, b3, b4, b5, b6, b7⟩ := o2.eight
  obtain ⟨c0, c1, c2, c3, c4, c5, c6, c7⟩ := o3.eight
  have f6 := o3.free 6
  have f7 := o3.free 7
  have fb0 := o2.free 0
  have fb1 := o2.free 1
  have fb2 := o2.free 2
  have fb3 := o2.free 3
  have fb4 := o2.free 4
  have fb5 := o2.free 5
  have fb6 := o2.free 6
  have fb7 := o2.free 7
  have HR := Lib.hid (And.intro r hb0)
  clear o1 o2 o3 r hb0
  go_wp2
  refine bodyPost_ret (v := pav q k f t l n (.slice (some ⟨g, 0, none⟩) m m) o) (by simp [results, Try.results26, go_sem, b0, b1, b2, b3, b4, b5, b6, b7]) rfl ⟨g, rfl, ?_, ?_⟩
  · simp only [size_set]
    exact RowAt.base ((((((((((HR.out.1.set ⟨w.heap.size + 1 + 1, 6, none⟩ (.slice (some ⟨g, 0, none⟩) m m) (show w.heap.size + 1 + 1 < w.heap.size + 1 + 1 + 1 by omega)).set ⟨w.heap.size + 1 + 1, 7, none⟩ (.bool o) (show w.heap.size + 1 + 1 < w.heap.size + 1 + 1 + 1 by omega)).set ⟨w.heap.size + 1, 0, none⟩ (.int .i64 q) (show w.heap.size + 1 < w.heap.size + 1 + 1 + 1 by omega)).set ⟨w.heap.size + 1, 1, none⟩ (.int .i64 k) (show w.heap.size + 1 < w.heap.size + 1 + 1 + 1 by omega)).set ⟨w.heap.size + 1, 2, none⟩ (.int .i64 f) (show w.heap.size + 1 < w.heap.size + 1 + 1 + 1 by omega)).set ⟨w.heap.size + 1, 3, none⟩ (.int .i64 t) (show w.heap.size + 1 < w.heap.size + 1 + 1 + 1 by omega)).set ⟨w.heap.size + 1, 4, none⟩ (.int .i64 l) (show w.heap.size + 1 < w.heap.size + 1 + 1 + 1 by omega)).set ⟨w.heap.size + 1, 5, none⟩ (.int .i64 n) (show w.heap.size + 1 < w.heap.size + 1 + 1 + 1 by omega)).set ⟨w.heap.size + 1, 6, none⟩ (.slice (some ⟨g, 0, none⟩) m m) (show w.heap.size + 1 < w.heap.size + 1 + 1 + 1 by omega)).set ⟨w.heap.size + 1, 7, none⟩ (.bool o) (show w.heap.size + 1 < w.heap.size + 1 + 1 + 1 by omega)) (by omega)
  · exact ((((((((((HR.out.2.setCell (p := ⟨w.heap.size + 1 + 1, 6, none⟩) (show w.heap.size ≤ w.heap.size + 1 + 1 by omega) (.slice (some ⟨g, 0, none⟩) m m)).setCell (p := ⟨w.heap.size + 1 + 1, 7, none⟩) (show w.heap.size ≤ w.heap.size + 1 + 1 by omega) (.bool o)).setCell (p := ⟨w.heap.size + 1, 0, none⟩) (show w.heap.size ≤ w.heap.size + 1 by omega) (.int .i64 q)).setCell (p := ⟨w.heap.size + 1, 1, none⟩) (show w.heap.size ≤ w.heap.size + 1 by omega) (.int .i64 k)).setCell (p := ⟨w.heap.size + 1, 2, none⟩) (show w.heap.size ≤ w.heap.size + 1 by omega) (.int .i64 f)).setCell (p := ⟨w.heap.size + 1, 3, none⟩) (show w.heap.size ≤ w.heap.size + 1 by omega) (.int .i64 t)).setCell (p := ⟨w.heap.size + 1, 4, none⟩) (show w.heap.size ≤ w.heap.size + 1 by omega) (.int .i64 l)).setCell (p := ⟨w.heap.size + 1, 5, none⟩) (show w.heap.size ≤ w.heap.size + 1 by omega) (.int .i64 n)).setCell (p := ⟨w.heap.size + 1, 6, none⟩) (show w.heap.size ≤ w.heap.size + 1 by omega) (.slice (some ⟨g, 0, none⟩) m m)).setCell (p := ⟨w.heap.size + 1, 7, none⟩) (show w.heap.size ≤ w.heap.size + 1 by omega) (.bool o))

set_option maxHeartbeats 400000 in
theorem szPane_any (q k f t l n : Int) (o : Bool) (A : Option Addr) (m ca : Nat) (left : Int) (w : World) (h0 : 0 ≤ left) (h1 : left ≤ 1048576) (hn : m ≤ 9223372036854775807) :
    Calls Try.prog 24 #[pav q k f t l n (.slice A m ca) o, .int .i64 left] w fun e w' => e = .returned (.int .i64 (lessF left m)) ∧ Below w.heap.size w w' := by
  have o1 := Own.new w 52 (pac q k f t l n (.slice A m ca) o)
  have hb := below_alloc w (.cells (pac q k f t l n (.slice A m ca) o).toArray 52)
  obtain ⟨a0, a1, a2, a3, a4, a5, a6, a7⟩ := o1.eight
  clear o1
  by_cases h : left - (m : Int) < 0
  · have e1 : lessF left m = -1 := by simp [lessF, h]
    go_enter Try.func24, Try.ntmps24
    go_wp2_with (go_at_call 71; refine (as_int e1 (szIntS_any A m ca left _ h0 h1 hn)).mono ?_; rintro e w' ⟨rfl, rfl⟩)
    go_ret
    exact ⟨ret_int e1.symm, hb⟩
  · have e1 : lessF left m = left - m := by simp [lessF]; omega
    have hp : 0 ≤ left - (m : Int) := by omega
    have E1 := Lib.hid e1
    clear e1
    go_enter Try.func24, Try.ntmps24
    go_wp2_with (go_at_call 71; refine (as_int E1.out (szIntS_any A m ca left _ h0 h1 hn)).mono ?_; rintro e w' ⟨rfl, rfl⟩)
    go_ret
    exact ⟨ret_int E1.out.symm, hb⟩
set_option maxHeartbeats 400000 in
theorem markPane_at (q k f t l n : Int) (o : Bool) (A : Option Addr) (m ca lo hi : Nat) (zs : List Int) (j : Int) (w : World) (hr : RowAt lo hi w 3 1 (.slice A m ca) m (iz zs)) (h0 : 0 ≤ j) (h1 : j ≤ 4611686018427387904) (hz : zs.length = m) (hm : m ≤ 1048576) :
    Calls Try.prog 38 #[pav q k f t l n (.slice A m ca) o, .int .i64 j] w fun e w' => e = .returned (.int .i64 (j + m)) ∧ RowAt lo hi w' 3 1 (.slice A m ca) m (iz (marks j m)) ∧ Only lo hi w w' := by
  have o1 := Own.new w 31 (pac q k f t l n (.slice A m ca) o)
  have hb := below_alloc w (.cells (pac q k f t l n (.slice A m ca) o).toArray 31)
  obtain ⟨a0, a1, a2, a3, a4, a5, a6, a7⟩ := o1.eight
  have HR := Lib.hid (hr.grow hb)
  clear hr o1
  go_enter Try.func38, Try.ntmps38
  go_wp2_with fail
  clear a0 a1 a2 a3 a4 a5 a6 a7
  refine (markIntS_at (.slice A m ca) lo hi m zs j _ HR.out h0 h1 hz hm).mono ?_
  rintro e w1 ⟨rfl, hr2, hO⟩
  have HO := Lib.hid (Only.trans (Only.of_below hb lo hi) hO)
  have HR2 := Lib.hid hr2
  clear HR hO hr2 hb
  go_wp2
  go_ret
  exact ⟨rfl, HR2.out, HO.out⟩
set_option maxHeartbeats 400000 in
theorem heldPane_any (q k f t l n : Int) (o : Bool) (A : Option Addr) (m ca : Nat) (j : Int) (w : World) (hA : Rd w A (iz (marks j m))) (h0 : 0 ≤ j) (h1 : j ≤ 4611686018427387904) (hm : m ≤ 1048576) :
    Calls Try.prog 39 #[pav q k f t l n (.slice A m ca) o, .int .i64 j] w fun e w' => e = .returned (.int .i64 (j + m)) ∧ Below w.heap.size w w' := by
  have o1 := Own.new w 31 (pac q k f t l n (.slice A m ca) o)
  have hb := below_alloc w (.cells (pac q k f t l n (.slice A m ca) o).toArray 31)
  obtain ⟨a0, a1, a2, a3, a4, a5, a6, a7⟩ := o1.eight
  have HA := Lib.hid (hA.below hb)
  clear hA o1
  have hp : decide (j + (m : Int) < 0) = false := by simp; omega
  go_enter Try.func39, Try.ntmps39
  go_wp2_with (go_at_call 85; refine (heldIntS_any A ca m j _ HA.out h0 h1 hm).mono ?_; rintro e w' ⟨rfl, rfl⟩)
  go_ret
  exact ⟨rfl, hb⟩
end Go.Proofs.Ytlmlckgnmkjkdaa
