/-
  What the laws' own helpers on Agg (a struct of an int, a 128-bit integer, two ints and a row of ints) return.
-/
import Derived.Test.YtlmlckgnmkjkdaaIntsW
import Derived.Test.YtlmlckgnmkjkdaaWideT
import Derived.Test.YtlmlckgnmkjkdaaFlat
namespace Go.Proofs.Ytlmlckgnmkjkdaa
open Go.RowKit

/-- an aggregate as a value, and as cells -/
abbrev agv (N h l mn mx : Int) (v : Value) : Value := .agg #[.int .i64 N, .int .i64 h, .int .u64 l, .int .i64 mn, .int .i64 mx, v]
abbrev agc (N h l mn mx : Int) (v : Value) : List Value := [.int .i64 N, .int .i64 h, .int .u64 l, .int .i64 mn, .int .i64 mx, v]
theorem Own.six {w : World} {g : Nat} {t : TypeId} {c0 c1 c2 c3 c4 c5 : Value} (h : Own w g t [c0, c1, c2, c3, c4, c5]) :
    w.cell? ⟨g, 0, none⟩ = some c0 ∧ w.cell? ⟨g, 1, none⟩ = some c1 ∧ w.cell? ⟨g, 2, none⟩ = some c2 ∧ w.cell? ⟨g, 3, none⟩ = some c3 ∧ w.cell? ⟨g, 4, none⟩ = some c4 ∧ w.cell? ⟨g, 5, none⟩ = some c5 :=
  ⟨h.cell 0, h.cell 1, h.cell 2, h.cell 3, h.cell 4, h.cell 5⟩

set_option maxHeartbeats 400000 in
theorem eqWide_same (h l : Int) (w : World) :
    Calls Try.prog 82 #[.agg #[.int .i64 h, .int .u64 l], .agg #[.int .i64 h, .int .u64 l]] w fun e w' => e = .returned (.bool true) ∧ Below w.heap.size w w' := by
  have t0 : (h != h) = false := by simp
  have t1 : (l != l) = false := by simp
  go_enter Try.func82, Try.ntmps82
  go_wp2
  go_ret
  exact ⟨rfl, below2 _ _ _⟩

set_option maxHeartbeats 1000000 in
theorem eqAgg_same (N h l mn mx : Int) (A B : Option Addr) (n ca cb : Nat) (zs : List Int) (w : World) (hA : Rd w A (iz zs)) (hB : Rd w B (iz zs)) (hz : zs.length = n) (hn : n ≤ 1048576) :
    Calls Try.prog 35 #[agv N h l mn mx (.slice A n ca), agv N h l mn mx (.slice B n cb)] w fun e w' => e = .returned (.bool true) ∧ Below w.heap.size w w' := by
  have t0 : (N != N) = false := by simp
  have t1 : (mn != mn) = false := by simp
  have t2 : (mx != mx) = false := by simp
  have hb0 := below2 w (.cells (agc N h l mn mx (.slice A n ca)).toArray 72) (.cells (agc N h l mn mx (.slice B n cb)).toArray 72)
  have HA := Lib.hid (hA.below hb0)
  have HB := Lib.hid (hB.below hb0)
  have o1 := (Own.new w 72 (agc N h l mn mx (.slice A n ca))).alloc (.cells (agc N h l mn mx (.slice B n cb)).toArray 72)
  have o2 := new_second w (.cells (agc N h l mn mx (.slice A n ca)).toArray 72) 72 (agc N h l mn mx (.slice B n cb))
  clear hA hB
  go_enter Try.func35, Try.ntmps35
  go_wp2_with fail
  refine (eqWide_same h l _).mono ?_
  rintro e w1 ⟨rfl, hb⟩
  replace o1 := o1.grow hb
  replace o2 := o2.grow hb
  have HA1 := Lib.hid (HA.out.below hb)
  have HB1 := Lib.hid (HB.out.below hb)
  replace hb0 := below_trans hb0 hb
  clear hb HA HB
  obtain ⟨a0, a1, a2, a3, a4, a5⟩ := o1.six
  obtain ⟨b0, b1, b2, b3, b4, b5⟩ := o2.six
  clear o1 o2
  go_wp2_with fail
  refine (eqIntS_same A B n ca cb zs _ HA1.out HB1.out hz hn).mono ?_
  rintro e w2 ⟨rfl, hb⟩
  replace hb0 := below_trans hb0 hb
  go_wp2
  go_ret
  exact ⟨rfl, hb0⟩

theorem RowAt.set {lo hi s n : Nat} {w : World} {t : TypeId} {v : Value} {cs : List Value} (h : RowAt lo hi w t s v n cs) (p : Addr) (u : Value) (hp : p.block < lo) : RowAt lo hi (w.setCell p u) t s v n cs :=
  h.move (fun k h1 _ => Below.heap_setCell w p u k (by omega))
theorem RowAt.base {lo lo' hi s n : Nat} {w : World} {t : TypeId} {v : Value} {cs : List Value} (h : RowAt lo hi w t s v n cs) (hl : lo' ≤ lo) : RowAt lo' hi w t s v n cs := ⟨owns_base h.1 hl, h.2⟩
theorem size_set (w : World) (p : Addr) (u : Value) : (w.setCell p u).heap.size = w.heap.size := by simp

set_option maxHeartbeats 2000000 in
theorem toAgg_w (N h l mn mx : Int) (A : Option Addr) (n ca : Nat) (zs : List Int) (w : World) (hA : Rd w A (iz zs)) (hz : zs.length = n) (hn : n ≤ 1048576) :
    Calls Try.prog 33 #[agv N h l mn mx (.slice A n ca)] w fun e w' => ∃ g, e = .returned (agv N h l mn mx (.slice (some ⟨g, 0, none⟩) n n)) ∧
      RowAt w.heap.size w'.heap.size w' 3 1 (.slice (some ⟨g, 0, none⟩) n n) n (iz zs) ∧ Below w.heap.size w w' := by
  obtain ⟨o1, o2, o3, hb0, -⟩ := box_three (w := w) (c1 := agc N h l mn mx (.slice A n ca)) (c2 := agc 0 0 0 0 0 (.slice none 0 0)) (c3 := agc N 0 0 0 0 (.slice none 0 0)) (t1 := 64) (t2 := 72) (t3 := 72)
  have HA := Lib.hid hA
  clear hA
  go_enter Try.func33, Try.ntmps33
  go_wp2_with fail
  refine (toWide_any h l _).mono ?_
  rintro e w1 ⟨rfl, hb⟩
  replace o1 := o1.grow hb
  replace o2 := o2.grow hb
  replace o3 := o3.grow hb
  replace hb0 := below_trans hb0 hb
  clear hb
  have s2 := (((o3.set 1 (.int .i64 h)).set 2 (.int .u64 l)).set 3 (.int .i64 mn)).set 4 (.int .i64 mx)
  have HS3 := Lib.hid (show Own ((((w1.setCell ⟨w.heap.size + 1 + 1, 1, none⟩ (.int .i64 h)).setCell ⟨w.heap.size + 1 + 1, 2, none⟩ (.int .u64 l)).setCell ⟨w.heap.size + 1 + 1, 3, none⟩ (.int .i64 mn)).setCell ⟨w.heap.size + 1 + 1, 4, none⟩ (.int .i64 mx)) (w.heap.size + 1 + 1) 72 (agc N h l mn mx (.slice none 0 0)) from s2)
  have HS1 := Lib.hid ((((o1.far (p := ⟨w.heap.size + 1 + 1, 1, none⟩) (show w.heap.size ≠ w.heap.size + 1 + 1 by omega) (.int .i64 h)).far (p := ⟨w.heap.size + 1 + 1, 2, none⟩) (show w.heap.size ≠ w.heap.size + 1 + 1 by omega) (.int .u64 l)).far (p := ⟨w.heap.size + 1 + 1, 3, none⟩) (show w.heap.size ≠ w.heap.size + 1 + 1 by omega) (.int .i64 mn)).far (p := ⟨w.heap.size + 1 + 1, 4, none⟩) (show w.heap.size ≠ w.heap.size + 1 + 1 by omega) (.int .i64 mx))
  have HS2 := Lib.hid ((((o2.far (p := ⟨w.heap.size + 1 + 1, 1, none⟩) (show w.heap.size + 1 ≠ w.heap.size + 1 + 1 by omega) (.int .i64 h)).far (p := ⟨w.heap.size + 1 + 1, 2, none⟩) (show w.heap.size + 1 ≠ w.heap.size + 1 + 1 by omega) (.int .u64 l)).far (p := ⟨w.heap.size + 1 + 1, 3, none⟩) (show w.heap.size + 1 ≠ w.heap.size + 1 + 1 by omega) (.int .i64 mn)).far (p := ⟨w.heap.size + 1 + 1, 4, none⟩) (show w.heap.size + 1 ≠ w.heap.size + 1 + 1 by omega) (.int .i64 mx))
  have HB := Lib.hid ((((hb0.setCell (p := ⟨w.heap.size + 1 + 1, 1, none⟩) (show w.heap.size ≤ w.heap.size + 1 + 1 by omega) (.int .i64 h)).setCell (p := ⟨w.heap.size + 1 + 1, 2, none⟩) (show w.heap.size ≤ w.heap.size + 1 + 1 by omega) (.int .u64 l)).setCell (p := ⟨w.heap.size + 1 + 1, 3, none⟩) (show w.heap.size ≤ w.heap.size + 1 + 1 by omega) (.int .i64 mn)).setCell (p := ⟨w.heap.size + 1 + 1, 4, none⟩) (show w.heap.size ≤ w.heap.size + 1 + 1 by omega) (.int .i64 mx))
  obtain ⟨a0, a1, a2, a3, a4, a5⟩ := o1.six
  obtain ⟨c0, c1, c2, c3, c4, c5⟩ := o3.six
  have f1 := o3.free 1
  have f2 := o3.free 2
  have f3 := o3.free 3
  have f4 := o3.free 4
  clear s2 o1 o2 o3 hb0
  go_wp2_with fail
  refine (toIntS_w A n ca zs _ (HA.out.below HB.out) hz hn).mono ?_
  clear a0 a1 a2 a3 a4 a5 c0 c1 c2 c3 c4 c5 f1 f2 f3 f4
  rintro e w2 ⟨g, rfl, r, hb⟩
  have hlt := HS3.out.lt
  have o2 := HS2.out.grow hb
  have o3 := HS3.out.grow hb
  have hb2 := below_trans HB.out hb
  replace r := r.base (lo' := w.heap.size + 1 + 1 + 1) hlt
  clear HS1 HS2 HS3 HB HA hb hlt
  obtain ⟨d0, d1, d2, d3, d4, d5⟩ := o3.six
  obtain ⟨e0, e1, e2, e3, e4, e5⟩ := o2.six
  have f5 := o3.free 5
  have g0 := o2.free 0
  have g1 := o2.free 1
  have g2 := o2.free 2
  have g3 := o2.free 3
  have g4 := o2.free 4
  have g5 := o2.free 5
  have HR := Lib.hid (And.intro r hb2)
  clear o2 o3 r hb2
  go_wp2
  refine bodyPost_ret (v := agv N h l mn mx (.slice (some ⟨g, 0, none⟩) n n)) (by simp [results, Try.results33, go_sem, e0, e1, e2, e3, e4, e5]) rfl ⟨g, rfl, ?_, ?_⟩
  · simp only [size_set]
    exact (((((((HR.out.1.set _ _ (by simp)).set _ _ (by simp)).set _ _ (by simp)).set _ _ (by simp)).set _ _ (by simp)).set _ _ (by simp)).set _ _ (by simp)).base (by omega)
  · exact ((((((HR.out.2.setCell (by simp; omega) _).setCell (by simp) _).setCell (by simp) _).setCell (by simp) _).setCell (by simp) _).setCell (by simp) _).setCell (by simp) _

set_option maxHeartbeats 400000 in
theorem szIntS_any (A : Option Addr) (n ca : Nat) (left : Int) (w : World) (h0 : 0 ≤ left) (h1 : left ≤ 1048576) (hn : n ≤ 9223372036854775807) :
    Calls Try.prog 71 #[.slice A n ca, .int .i64 left] w fun e w' => e = .returned (.int .i64 (lessF left n)) ∧ w = w' := by
  by_cases h : left - (n : Int) < 0
  · go_enter Try.func71, Try.ntmps71
    go_wp2
    go_ret
    exact ⟨ret_int (by simp [lessF, h]), rfl⟩
  · go_enter Try.func71, Try.ntmps71
    go_wp2
    go_ret
    exact ⟨ret_int (by simp [lessF]; omega), rfl⟩
set_option maxHeartbeats 400000 in
theorem szAgg_any (N h l mn mx : Int) (A : Option Addr) (n ca : Nat) (left : Int) (w : World) (h0 : 0 ≤ left) (h1 : left ≤ 1048576) (hn : n ≤ 9223372036854775807) :
    Calls Try.prog 30 #[agv N h l mn mx (.slice A n ca), .int .i64 left] w fun e w' => e = .returned (.int .i64 (lessF left n)) ∧ Below w.heap.size w w' := by
  by_cases h : left - (n : Int) < 0
  · have e1 : lessF left n = -1 := by simp [lessF, h]
    go_enter Try.func30, Try.ntmps30
    go_wp2_with (go_at_call 71; refine (as_int e1 (szIntS_any A n ca left _ h0 h1 hn)).mono ?_; rintro e w' ⟨rfl, rfl⟩)
    go_ret
    exact ⟨ret_int e1.symm, below_alloc _ _⟩
  · have e1 : lessF left n = left - n := by simp [lessF]; omega
    have hp : 0 ≤ left - (n : Int) := by omega
    have E1 := Lib.hid e1
    clear e1
    go_enter Try.func30, Try.ntmps30
    go_wp2_with (go_at_call 71; refine (as_int E1.out (szIntS_any A n ca left _ h0 h1 hn)).mono ?_; rintro e w' ⟨rfl, rfl⟩)
    go_ret
    exact ⟨ret_int E1.out.symm, below_alloc _ _⟩
set_option maxHeartbeats 400000 in
theorem markAgg_at (N h l mn mx : Int) (A : Option Addr) (c lo hi n : Nat) (zs : List Int) (k : Int) (w : World) (hr : RowAt lo hi w 3 1 (.slice A n c) n (iz zs)) (h0 : 0 ≤ k) (h1 : k ≤ 4611686018427387904) (hz : zs.length = n) (hn : n ≤ 1048576) :
    Calls Try.prog 37 #[agv N h l mn mx (.slice A n c), .int .i64 k] w fun e w' => e = .returned (.int .i64 (k + n)) ∧ RowAt lo hi w' 3 1 (.slice A n c) n (iz (marks k n)) ∧ Only lo hi w w' := by
  have HR := Lib.hid (hr.grow (below_alloc w (.cells (agc N h l mn mx (.slice A n c)).toArray 72)))
  clear hr
  go_enter Try.func37, Try.ntmps37
  go_wp2_with fail
  refine (markIntS_at (.slice A n c) lo hi n zs k _ HR.out h0 h1 hz hn).mono ?_
  rintro e w1 ⟨rfl, hr2, hO⟩
  have HO := Lib.hid (Only.trans (Only.of_below (below_alloc w (.cells (agc N h l mn mx (.slice A n c)).toArray 72)) lo hi) hO)
  have HR2 := Lib.hid hr2
  clear HR hO hr2
  go_wp2
  go_ret
  exact ⟨rfl, HR2.out, HO.out⟩
end Go.Proofs.Ytlmlckgnmkjkdaa
