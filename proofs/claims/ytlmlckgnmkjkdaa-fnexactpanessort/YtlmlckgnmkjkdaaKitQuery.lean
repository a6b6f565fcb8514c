/-
  What the laws' own helpers on Query (two rows of tokens, a window definition of three ints, two ints) return. WRITTEN BY tools/genkitq.py.
-/
import Derived.Test.YtlmlckgnmkjkdaaTokKit
import Derived.Test.YtlmlckgnmkjkdaaTokMark
import Derived.Test.YtlmlckgnmkjkdaaKitWinDef
import Derived.Test.YtlmlckgnmkjkdaaKitAgg
namespace Go.Proofs.Ytlmlckgnmkjkdaa
open Go.RowKit

/-- a query as a value, and as cells -/
abbrev qv (F M : Value) (k s t q kk : Int) : Value := .agg #[F, M, .int .i64 k, .int .i64 s, .int .i64 t, .int .i64 q, .int .i64 kk]
abbrev qc (F M : Value) (k s t q kk : Int) : List Value := [F, M, .int .i64 k, .int .i64 s, .int .i64 t, .int .i64 q, .int .i64 kk]
theorem Own.seven {w : World} {g : Nat} {t : TypeId} {c0 c1 c2 c3 c4 c5 c6 : Value} (h : Own w g t [c0, c1, c2, c3, c4, c5, c6]) :
    w.cell? ⟨g, 0, none⟩ = some c0 ∧ w.cell? ⟨g, 1, none⟩ = some c1 ∧ w.cell? ⟨g, 2, none⟩ = some c2 ∧ w.cell? ⟨g, 3, none⟩ = some c3 ∧ w.cell? ⟨g, 4, none⟩ = some c4 ∧ w.cell? ⟨g, 5, none⟩ = some c5 ∧ w.cell? ⟨g, 6, none⟩ = some c6 :=
  ⟨h.cell 0, h.cell 1, h.cell 2, h.cell 3, h.cell 4, h.cell 5, h.cell 6⟩
theorem toTokS_w (A : Option Addr) (n ca : Nat) (es : List (Int × Int)) (w : World) (hA : Rd w A (ez es)) (hz : es.length = n) (hn : n ≤ 1048576) :
    Calls Try.prog 58 #[.slice A n ca] w fun e w' => ∃ g, e = .returned (.slice (some ⟨g, 0, none⟩) n n) ∧ RowAt w.heap.size w'.heap.size w' 125 2 (.slice (some ⟨g, 0, none⟩) n n) n (ez es) ∧ Below w.heap.size w w' := by
  subst hz
  exact (toTokS_any A ca es w hA hn).mono fun _ _ ⟨g, he, hg, hown, hb⟩ => ⟨g, he, RowAt.of (hown.ownsS hg (by rw [ez_flat, iz_length, flat_length]) hn), hb⟩

set_option maxHeartbeats 400000 in
theorem eqWinDef_same (a b c : Int) (w : World) :
    Calls Try.prog 64 #[.agg #[.int .i64 a, .int .i64 b, .int .i64 c], .agg #[.int .i64 a, .int .i64 b, .int .i64 c]] w fun e w' => e = .returned (.bool true) ∧ Below w.heap.size w w' := by
  have t0 : (a != a) = false := by simp
  have t1 : (b != b) = false := by simp
  have t2 : (c != c) = false := by simp
  go_enter Try.func64, Try.ntmps64
  go_wp2
  go_ret
  exact ⟨rfl, below2 _ _ _⟩

set_option maxHeartbeats 1000000 in
theorem eqQuery_same (k s t q kk : Int) (F F' : Option Addr) (n cf cf' : Nat) (fs : List (Int × Int)) (M M' : Option Addr) (m cm cm' : Nat) (ms : List (Int × Int)) (w : World)
    (hF : Rd w F (ez fs)) (hF' : Rd w F' (ez fs)) (hz : fs.length = n) (hn : n ≤ 1048576) (hM : Rd w M (ez ms)) (hM' : Rd w M' (ez ms)) (hy : ms.length = m) (hm : m ≤ 1048576) :
    Calls Try.prog 20 #[qv (.slice F n cf) (.slice M m cm) k s t q kk, qv (.slice F' n cf') (.slice M' m cm') k s t q kk] w fun e w' => e = .returned (.bool true) ∧ Below w.heap.size w w' := by
  have t0 : (q != q) = false := by simp
  have t1 : (kk != kk) = false := by simp
  have hb := below2 w (.cells (qc (.slice F n cf) (.slice M m cm) k s t q kk).toArray 42) (.cells (qc (.slice F' n cf') (.slice M' m cm') k s t q kk).toArray 42)
  have HF := Lib.hid (fun W (h : Below w.heap.size w W) => hF.below h)
  have HF' := Lib.hid (fun W (h : Below w.heap.size w W) => hF'.below h)
  have HM := Lib.hid (fun W (h : Below w.heap.size w W) => hM.below h)
  have HM' := Lib.hid (fun W (h : Below w.heap.size w W) => hM'.below h)
  have o1 := (Own.new w 42 (qc (.slice F n cf) (.slice M m cm) k s t q kk)).alloc (.cells (qc (.slice F' n cf') (.slice M' m cm') k s t q kk).toArray 42)
  have o2 := new_second w (.cells (qc (.slice F n cf) (.slice M m cm) k s t q kk).toArray 42) 42 (qc (.slice F' n cf') (.slice M' m cm') k s t q kk)
  clear hF hF' hM hM'
  obtain ⟨a0, a1, a2, a3, a4, a5, a6⟩ := o1.seven
  obtain ⟨b0, b1, b2, b3, b4, b5, b6⟩ := o2.seven
  go_enter Try.func20, Try.ntmps20
  go_wp2_with fail
  refine (eqTokS_same F F' n cf cf' fs _ (HF.out _ hb) (HF'.out _ hb) hz hn).mono ?_
  clear a0 a1 a2 a3 a4 a5 a6 b0 b1 b2 b3 b4 b5 b6
  rintro e w1 ⟨rfl, h1⟩
  replace o1 := o1.grow h1
  replace o2 := o2.grow h1
  replace hb := below_trans hb h1
  clear h1
  obtain ⟨a0, a1, a2, a3, a4, a5, a6⟩ := o1.seven
  obtain ⟨b0, b1, b2, b3, b4, b5, b6⟩ := o2.seven
  go_wp2_with fail
  refine (eqTokS_same M M' m cm cm' ms _ (HM.out _ hb) (HM'.out _ hb) hy hm).mono ?_
  clear a0 a1 a2 a3 a4 a5 a6 b0 b1 b2 b3 b4 b5 b6
  rintro e w2 ⟨rfl, h2⟩
  replace o1 := o1.grow h2
  replace o2 := o2.grow h2
  replace hb := below_trans hb h2
  clear h2
  obtain ⟨a0, a1, a2, a3, a4, a5, a6⟩ := o1.seven
  obtain ⟨b0, b1, b2, b3, b4, b5, b6⟩ := o2.seven
  go_wp2_with fail
  refine (eqWinDef_same k s t _).mono ?_
  clear a0 a1 a2 a3 a4 a5 a6 b0 b1 b2 b3 b4 b5 b6
  rintro e w3 ⟨rfl, h3⟩
  replace o1 := o1.grow h3
  replace o2 := o2.grow h3
  replace hb := below_trans hb h3
  clear h3
  obtain ⟨a0, a1, a2, a3, a4, a5, a6⟩ := o1.seven
  obtain ⟨b0, b1, b2, b3, b4, b5, b6⟩ := o2.seven
  clear o1 o2
  go_wp2
  go_ret
  exact ⟨rfl, hb⟩

set_option maxHeartbeats 4000000 in
theorem toQuery_w (k s t q kk : Int) (F : Option Addr) (n cf : Nat) (fs : List (Int × Int)) (M : Option Addr) (m cm : Nat) (ms : List (Int × Int)) (w : World)
    (hF : Rd w F (ez fs)) (hz : fs.length = n) (hn : n ≤ 1048576) (hM : Rd w M (ez ms)) (hy : ms.length = m) (hm : m ≤ 1048576) :
    Calls Try.prog 18 #[qv (.slice F n cf) (.slice M m cm) k s t q kk] w fun e w' => ∃ g1 g2 mid, e = .returned (qv (.slice (some ⟨g1, 0, none⟩) n n) (.slice (some ⟨g2, 0, none⟩) m m) k s t q kk) ∧
      RowAt w.heap.size mid w' 125 2 (.slice (some ⟨g1, 0, none⟩) n n) n (ez fs) ∧ RowAt mid w'.heap.size w' 125 2 (.slice (some ⟨g2, 0, none⟩) m m) m (ez ms) ∧ w.heap.size ≤ mid ∧ mid ≤ w'.heap.size ∧ Below w.heap.size w w' := by
  obtain ⟨o1, o2, o3, hb0, hsz⟩ := box_three (w := w) (c1 := qc (.slice F n cf) (.slice M m cm) k s t q kk) (c2 := qc (.slice none 0 0) (.slice none 0 0) 0 0 0 0 0) (c3 := qc (.slice none 0 0) (.slice none 0 0) 0 0 0 0 0) (t1 := 36) (t2 := 42) (t3 := 42)
  have HSZ := Lib.hid hsz
  clear hsz
  have HF := Lib.hid (fun W (h : Below w.heap.size w W) => hF.below h)
  have HM := Lib.hid (fun W (h : Below w.heap.size w W) => hM.below h)
  clear hF hM
  obtain ⟨a0, a1, a2, a3, a4, a5, a6⟩ := o1.seven
  go_enter Try.func18, Try.ntmps18
  go_wp2_with fail
  clear a0 a1 a2 a3 a4 a5 a6
  refine (toTokS_w F n cf fs _ (HF.out _ hb0) hz hn).mono ?_
  rintro e w1 ⟨g1, rfl, r1, hb⟩
  replace r1 := r1.base (lo' := w.heap.size + 1 + 1 + 1) (by have := HSZ.out; omega)
  have hmid := hb.size
  rw [HSZ.out] at hmid
  replace o1 := o1.grow hb
  replace o2 := o2.grow hb
  replace o3 := o3.grow hb
  replace hb0 := below_trans hb0 hb
  clear hb
  obtain ⟨a0, a1, a2, a3, a4, a5, a6⟩ := o1.seven
  obtain ⟨c0, c1, c2, c3, c4, c5, c6⟩ := o3.seven
  have f0 := o3.free 0
  replace o3 := (o3.set 0 (.slice (some ⟨g1, 0, none⟩) n n))
  have H1 := Lib.hid (o1.far (p := ⟨w.heap.size + 1 + 1, 0, none⟩) (show w.heap.size ≠ w.heap.size + 1 + 1 by omega) (.slice (some ⟨g1, 0, none⟩) n n))
  have H2 := Lib.hid (o2.far (p := ⟨w.heap.size + 1 + 1, 0, none⟩) (show w.heap.size + 1 ≠ w.heap.size + 1 + 1 by omega) (.slice (some ⟨g1, 0, none⟩) n n))
  have H3 := Lib.hid o3
  have HR := Lib.hid (r1.set ⟨w.heap.size + 1 + 1, 0, none⟩ (.slice (some ⟨g1, 0, none⟩) n n) (show w.heap.size + 1 + 1 < w.heap.size + 1 + 1 + 1 by omega))
  have HB := Lib.hid (hb0.setCell (p := ⟨w.heap.size + 1 + 1, 0, none⟩) (show w.heap.size ≤ w.heap.size + 1 + 1 by omega) (.slice (some ⟨g1, 0, none⟩) n n))
  clear o1 o2 o3 r1 hb0
  go_wp2_with fail
  clear a0 a1 a2 a3 a4 a5 a6 c0 c1 c2 c3 c4 c5 c6 f0
  refine (toTokS_w M m cm ms _ (HM.out _ HB.out) hy hm).mono ?_
  rintro e w2 ⟨g2, rfl, r2, hb⟩
  rw [size_set] at r2
  have hmid2 := hb.size
  rw [size_set] at hmid2
  have o1 := H1.out.grow hb
  have o2 := H2.out.grow hb
  have o3 := H3.out.grow hb
  have r1 := HR.out.grow hb
  have hb0 := below_trans HB.out hb
  clear H1 H2 H3 HR HB hb
  obtain ⟨a0, a1, a2, a3, a4, a5, a6⟩ := o1.seven
  obtain ⟨c0, c1, c2, c3, c4, c5, c6⟩ := o3.seven
  have f1 := o3.free 1
  replace o3 := (o3.set 1 (.slice (some ⟨g2, 0, none⟩) m m))
  have H1 := Lib.hid (o1.far (p := ⟨w.heap.size + 1 + 1, 1, none⟩) (show w.heap.size ≠ w.heap.size + 1 + 1 by omega) (.slice (some ⟨g2, 0, none⟩) m m))
  have H2 := Lib.hid (o2.far (p := ⟨w.heap.size + 1 + 1, 1, none⟩) (show w.heap.size + 1 ≠ w.heap.size + 1 + 1 by omega) (.slice (some ⟨g2, 0, none⟩) m m))
  have H3 := Lib.hid o3
  have HR := Lib.hid (r1.set ⟨w.heap.size + 1 + 1, 1, none⟩ (.slice (some ⟨g2, 0, none⟩) m m) (show w.heap.size + 1 + 1 < w.heap.size + 1 + 1 + 1 by omega))
  have HR2 := Lib.hid (r2.set ⟨w.heap.size + 1 + 1, 1, none⟩ (.slice (some ⟨g2, 0, none⟩) m m) (show w.heap.size + 1 + 1 < w1.heap.size by omega))
  have HB := Lib.hid (hb0.setCell (p := ⟨w.heap.size + 1 + 1, 1, none⟩) (show w.heap.size ≤ w.heap.size + 1 + 1 by omega) (.slice (some ⟨g2, 0, none⟩) m m))
  clear o1 o2 o3 r1 r2 hb0
  go_wp2_with fail
  clear a0 a1 a2 a3 a4 a5 a6 c0 c1 c2 c3 c4 c5 c6 f1
  refine (toWinDef_any k s t _).mono ?_
  rintro e w3 ⟨rfl, hb⟩
  have hmid3 := hb.size
  rw [size_set] at hmid3
  have o1 := H1.out.grow hb
  have o2 := H2.out.grow hb
  have o3 := H3.out.grow hb
  have r1 := HR.out.grow hb
  have r2 := HR2.out.grow hb
  have hb0 := below_trans HB.out hb
  clear H1 H2 H3 HR HR2 HB hb
  obtain ⟨a0, a1, a2, a3, a4, a5, a6⟩ := o1.seven
  obtain ⟨b0, b1, b2, b3, b4, b5, b6⟩ := o2.seven
  obtain ⟨c0, c1, c2, c3, c4, c5, c6⟩ := o3.seven
  have f2 := o3.free 2
  have f3 := o3.free 3
  have f4 := o3.free 4
  have f5 := o3.free 5
  have f6 := o3.free 6
  have fb0 := o2.free 0
  have fb1 := o2.free 1
  have fb2 := o2.free 2
  have fb3 := o2.free 3
  have fb4 := o2.free 4
  have fb5 := o2.free 5
  have fb6 := o2.free 6
  have HR := Lib.hid (And.intro (And.intro r1 r2) (And.intro hb0 (And.intro hmid (And.intro hmid2 hmid3))))
  clear o1 o2 o3 r1 r2 hb0 hmid hmid2 hmid3
  go_wp2
  refine bodyPost_ret (v := qv (.slice (some ⟨g1, 0, none⟩) n n) (.slice (some ⟨g2, 0, none⟩) m m) k s t q kk) (by simp [results, Try.results18, go_sem, b0, b1, b2, b3, b4, b5, b6]) rfl ⟨g1, g2, w1.heap.size, rfl, ?_, ?_, ?_, ?_, ?_⟩
  · exact RowAt.base ((((((((((((HR.out.1.1.set ⟨w.heap.size + 1 + 1, 2, none⟩ (.int .i64 k) (show w.heap.size + 1 + 1 < w.heap.size + 1 + 1 + 1 by omega)).set ⟨w.heap.size + 1 + 1, 3, none⟩ (.int .i64 s) (show w.heap.size + 1 + 1 < w.heap.size + 1 + 1 + 1 by omega)).set ⟨w.heap.size + 1 + 1, 4, none⟩ (.int .i64 t) (show w.heap.size + 1 + 1 < w.heap.size + 1 + 1 + 1 by omega)).set ⟨w.heap.size + 1 + 1, 5, none⟩ (.int .i64 q) (show w.heap.size + 1 + 1 < w.heap.size + 1 + 1 + 1 by omega)).set ⟨w.heap.size + 1 + 1, 6, none⟩ (.int .i64 kk) (show w.heap.size + 1 + 1 < w.heap.size + 1 + 1 + 1 by omega)).set ⟨w.heap.size + 1, 0, none⟩ (.slice (some ⟨g1, 0, none⟩) n n) (show w.heap.size + 1 < w.heap.size + 1 + 1 + 1 by omega)).set ⟨w.heap.size + 1, 1, none⟩ (.slice (some ⟨g2, 0, none⟩) m m) (show w.heap.size + 1 < w.heap.size + 1 + 1 + 1 by omega)).set ⟨w.heap.size + 1, 2, none⟩ (.int .i64 k) (show w.heap.size + 1 < w.heap.size + 1 + 1 + 1 by omega)).set ⟨w.heap.size + 1, 3, none⟩ (.int .i64 s) (show w.heap.size + 1 < w.heap.size + 1 + 1 + 1 by omega)).set ⟨w.heap.size + 1, 4, none⟩ (.int .i64 t) (show w.heap.size + 1 < w.heap.size + 1 + 1 + 1 by omega)).set ⟨w.heap.size + 1, 5, none⟩ (.int .i64 q) (show w.heap.size + 1 < w.heap.size + 1 + 1 + 1 by omega)).set ⟨w.heap.size + 1, 6, none⟩ (.int .i64 kk) (show w.heap.size + 1 < w.heap.size + 1 + 1 + 1 by omega)) (by omega)
  · have r := ((((((((((((HR.out.1.2.set ⟨w.heap.size + 1 + 1, 2, none⟩ (.int .i64 k) (show w.heap.size + 1 + 1 < w1.heap.size by have := HR.out.2.2.1; omega)).set ⟨w.heap.size + 1 + 1, 3, none⟩ (.int .i64 s) (show w.heap.size + 1 + 1 < w1.heap.size by have := HR.out.2.2.1; omega)).set ⟨w.heap.size + 1 + 1, 4, none⟩ (.int .i64 t) (show w.heap.size + 1 + 1 < w1.heap.size by have := HR.out.2.2.1; omega)).set ⟨w.heap.size + 1 + 1, 5, none⟩ (.int .i64 q) (show w.heap.size + 1 + 1 < w1.heap.size by have := HR.out.2.2.1; omega)).set ⟨w.heap.size + 1 + 1, 6, none⟩ (.int .i64 kk) (show w.heap.size + 1 + 1 < w1.heap.size by have := HR.out.2.2.1; omega)).set ⟨w.heap.size + 1, 0, none⟩ (.slice (some ⟨g1, 0, none⟩) n n) (show w.heap.size + 1 < w1.heap.size by have := HR.out.2.2.1; omega)).set ⟨w.heap.size + 1, 1, none⟩ (.slice (some ⟨g2, 0, none⟩) m m) (show w.heap.size + 1 < w1.heap.size by have := HR.out.2.2.1; omega)).set ⟨w.heap.size + 1, 2, none⟩ (.int .i64 k) (show w.heap.size + 1 < w1.heap.size by have := HR.out.2.2.1; omega)).set ⟨w.heap.size + 1, 3, none⟩ (.int .i64 s) (show w.heap.size + 1 < w1.heap.size by have := HR.out.2.2.1; omega)).set ⟨w.heap.size + 1, 4, none⟩ (.int .i64 t) (show w.heap.size + 1 < w1.heap.size by have := HR.out.2.2.1; omega)).set ⟨w.heap.size + 1, 5, none⟩ (.int .i64 q) (show w.heap.size + 1 < w1.heap.size by have := HR.out.2.2.1; omega)).set ⟨w.heap.size + 1, 6, none⟩ (.int .i64 kk) (show w.heap.size + 1 < w1.heap.size by have := HR.out.2.2.1; omega))
    simp only [size_set]
    exact ⟨r.1, fun j hj => Nat.lt_of_lt_of_le (r.2 j hj) HR.out.2.2.2.2⟩
  · have := HR.out.2.2.1; omega
  · simp only [size_set]
    have := HR.out.2.2.2
    omega
  · exact ((((((((((((HR.out.2.1.setCell (p := ⟨w.heap.size + 1 + 1, 2, none⟩) (show w.heap.size ≤ w.heap.size + 1 + 1 by omega) (.int .i64 k)).setCell (p := ⟨w.heap.size + 1 + 1, 3, none⟩) (show w.heap.size ≤ w.heap.size + 1 + 1 by omega) (.int .i64 s)).setCell (p := ⟨w.heap.size + 1 + 1, 4, none⟩) (show w.heap.size ≤ w.heap.size + 1 + 1 by omega) (.int .i64 t)).setCell (p := ⟨w.heap.size + 1 + 1, 5, none⟩) (show w.heap.size ≤ w.heap.size + 1 + 1 by omega) (.int .i64 q)).setCell (p := ⟨w.heap.size + 1 + 1, 6, none⟩) (show w.heap.size ≤ w.heap.size + 1 + 1 by omega) (.int .i64 kk)).setCell (p := ⟨w.heap.size + 1, 0, none⟩) (show w.heap.size ≤ w.heap.size + 1 by omega) (.slice (some ⟨g1, 0, none⟩) n n)).setCell (p := ⟨w.heap.size + 1, 1, none⟩) (show w.heap.size ≤ w.heap.size + 1 by omega) (.slice (some ⟨g2, 0, none⟩) m m)).setCell (p := ⟨w.heap.size + 1, 2, none⟩) (show w.heap.size ≤ w.heap.size + 1 by omega) (.int .i64 k)).setCell (p := ⟨w.heap.size + 1, 3, none⟩) (show w.heap.size ≤ w.heap.size + 1 by omega) (.int .i64 s)).setCell (p := ⟨w.heap.size + 1, 4, none⟩) (show w.heap.size ≤ w.heap.size + 1 by omega) (.int .i64 t)).setCell (p := ⟨w.heap.size + 1, 5, none⟩) (show w.heap.size ≤ w.heap.size + 1 by omega) (.int .i64 q)).setCell (p := ⟨w.heap.size + 1, 6, none⟩) (show w.heap.size ≤ w.heap.size + 1 by omega) (.int .i64 kk))

theorem lessT_no {a : Int} {n : Nat} (h : a - n < 0) : lessT a n = -1 := by simp [lessT]; omega
theorem lessT_yes {a : Int} {n : Nat} (h : 0 ≤ a - n) : lessT a n = a - n := by simp [lessT]; omega
set_option maxHeartbeats 400000 in
/-- the measure of a query that fits -/
theorem szQuery_fits (F M : Option Addr) (n cf m cm : Nat) (k s t q kk : Int) (w : World) (h : n + m ≤ 1048576) :
    Calls Try.prog 16 #[qv (.slice F n cf) (.slice M m cm) k s t q kk, .int .i64 1048576] w fun e w' => ∃ z : Int, e = .returned (.int .i64 z) ∧ z = 1048576 - n - m ∧ Below w.heap.size w w' := by
  have e1 : lessT 1048576 n = 1048576 - (n : Int) := lessT_yes (by omega)
  have e2 : lessT (1048576 - (n : Int)) m = 1048576 - (n : Int) - m := lessT_yes (by omega)
  have E1 := Lib.hid e1
  have E2 := Lib.hid e2
  clear e1 e2
  have hp : ¬ 1048576 - (n : Int) < 0 := by omega
  have hp2 : ¬ 1048576 - (n : Int) - m < 0 := by omega
  have o1 := Own.new w 36 (qc (.slice F n cf) (.slice M m cm) k s t q kk)
  have hb := below_alloc w (.cells (qc (.slice F n cf) (.slice M m cm) k s t q kk).toArray 36)
  obtain ⟨a0, a1, a2, a3, a4, a5, a6⟩ := o1.seven
  clear o1
  obtain ⟨z, hz⟩ : ∃ z : Int, 1048576 - (n : Int) = z := ⟨_, rfl⟩
  rw [hz] at E1 E2 hp hp2
  go_enter Try.func16, Try.ntmps16
  go_wp2_with fail
  refine (as_int E1.out (szTokS_any F n cf 1048576 _ (by omega) (by omega) (by omega))).mono ?_
  rintro e _ ⟨rfl, rfl⟩
  go_wp2_with fail
  refine (as_int E2.out (szTokS_any M m cm z _ (by omega) (by omega) (by omega))).mono ?_
  rintro e _ ⟨rfl, rfl⟩
  go_wp2
  go_ret
  exact ⟨z - m, rfl, by omega, hb⟩
set_option maxHeartbeats 400000 in
/-- .. and of one that does not -/
theorem szQuery_big (F M : Option Addr) (n cf m cm : Nat) (k s t q kk : Int) (w : World) (h : ¬ n + m ≤ 1048576) (hn : n ≤ 9223372036854775807) (hm : m ≤ 9223372036854775807) :
    Calls Try.prog 16 #[qv (.slice F n cf) (.slice M m cm) k s t q kk, .int .i64 1048576] w fun e w' => e = .returned (.int .i64 (-1)) ∧ Below w.heap.size w w' := by
  have o1 := Own.new w 36 (qc (.slice F n cf) (.slice M m cm) k s t q kk)
  have hb := below_alloc w (.cells (qc (.slice F n cf) (.slice M m cm) k s t q kk).toArray 36)
  obtain ⟨a0, a1, a2, a3, a4, a5, a6⟩ := o1.seven
  clear o1
  by_cases h1 : n ≤ 1048576
  · obtain ⟨z, hz⟩ : ∃ z : Int, 1048576 - (n : Int) = z := ⟨_, rfl⟩
    have E1 := Lib.hid (show lessT 1048576 n = z by rw [← hz]; exact lessT_yes (by omega))
    have E2 := Lib.hid (show lessT z m = -1 from lessT_no (by omega))
    have hp : ¬ z < 0 := by omega
    have HM := Lib.hid (And.intro hm (show 0 ≤ z ∧ z ≤ 1048576 by omega))
    clear hz h h1 hm
    go_enter Try.func16, Try.ntmps16
    go_wp2_with fail
    refine (as_int E1.out (szTokS_any F n cf 1048576 _ (by omega) (by omega) hn)).mono ?_
    rintro e _ ⟨rfl, rfl⟩
    go_wp2_with fail
    refine (as_int E2.out (szTokS_any M m cm z _ HM.out.2.1 HM.out.2.2 HM.out.1)).mono ?_
    rintro e _ ⟨rfl, rfl⟩
    go_wp2
    go_ret
    exact ⟨rfl, hb⟩
  · have E1 := Lib.hid (show lessT 1048576 n = -1 from lessT_no (by omega))
    have HN := Lib.hid hn
    clear h h1 hn hm
    go_enter Try.func16, Try.ntmps16
    go_wp2_with fail
    refine (as_int E1.out (szTokS_any F n cf 1048576 _ (by omega) (by omega) HN.out)).mono ?_
    rintro e _ ⟨rfl, rfl⟩
    go_wp2
    go_ret
    exact ⟨rfl, hb⟩

set_option maxHeartbeats 400000 in
theorem markQuery_at (F M : Option Addr) (n cf m cm : Nat) (k s t q kk : Int) (lo mid hi : Nat) (fs ms : List (Int × Int)) (j j1 j2 : Int) (w : World)
    (hr : RowAt lo mid w 125 2 (.slice F n cf) n (ez fs)) (hr2 : RowAt mid hi w 125 2 (.slice M m cm) m (ez ms)) (hl : lo ≤ mid) (hh : mid ≤ hi) (hs : hi ≤ w.heap.size) (h0 : 0 ≤ j) (h1 : j ≤ 1048576) (e1 : j + (n * 2 : Nat) = j1) (e2 : j1 + (m * 2 : Nat) = j2)
    (hz : fs.length = n) (hn : n ≤ 1048576) (hy : ms.length = m) (hm : m ≤ 1048576) :
    Calls Try.prog 36 #[qv (.slice F n cf) (.slice M m cm) k s t q kk, .int .i64 j] w fun e w' => e = .returned (.int .i64 j2) ∧ Only lo hi w w' := by
  have o1 := Own.new w 42 (qc (.slice F n cf) (.slice M m cm) k s t q kk)
  have hb := below_alloc w (.cells (qc (.slice F n cf) (.slice M m cm) k s t q kk).toArray 42)
  have HR := Lib.hid (hr.grow hb)
  have HR2 := Lib.hid (hr2.grow hb)
  have HO := Lib.hid (Only.of_below hb lo hi)
  have HS := Lib.hid hs
  have HE := Lib.hid (And.intro e1 e2)
  clear hr hr2 hb e1 e2 hs
  obtain ⟨a0, a1, a2, a3, a4, a5, a6⟩ := o1.seven
  go_enter Try.func36, Try.ntmps36
  go_wp2_with fail
  clear a0 a1 a2 a3 a4 a5 a6
  refine (as_int HE.out.1 (markTokS_at (.slice F n cf) lo mid n fs j _ HR.out h0 (by omega) hz hn)).mono ?_
  rintro e w1 ⟨rfl, _, hO⟩
  have hsz := HS.out
  replace o1 := o1.only hO (.inr (by omega))
  have HR3 := Lib.hid (HR2.out.move (hO.same (.inr (Nat.le_refl _)) (by simp; omega)))
  have HO2 := Lib.hid (Only.trans HO.out (show Only lo hi _ _ from ⟨hO.os, hO.tape, hO.output, hO.size, fun i h1 h2 => hO.block i h1 (by omega)⟩))
  clear hO HR HR2 HO hsz
  obtain ⟨a0, a1, a2, a3, a4, a5, a6⟩ := o1.seven
  clear o1
  go_wp2_with fail
  clear a0 a1 a2 a3 a4 a5 a6
  refine (as_int HE.out.2 (markTokS_at (.slice M m cm) mid hi m ms j1 _ HR3.out (by have := HE.out.1; omega) (by have := HE.out.1; omega) hy hm)).mono ?_
  rintro e w2 ⟨rfl, _, hO⟩
  have HO3 := Lib.hid (Only.trans HO2.out (show Only lo hi _ _ from ⟨hO.os, hO.tape, hO.output, hO.size, fun i h1 h2 => hO.block i h1 (by omega)⟩))
  clear hO HR3 HO2
  go_wp2
  go_ret
  exact ⟨rfl, HO3.out⟩
end Go.Proofs.Ytlmlckgnmkjkdaa
