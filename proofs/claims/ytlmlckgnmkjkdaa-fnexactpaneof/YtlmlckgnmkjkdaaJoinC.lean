import Derived.Test.YtlmlckgnmkjkdaaTokKit
import Derived.Test.YtlmlckgnmkjkdaaKitWinDef
import Derived.Test.YtlmlckgnmkjkdaaKitAgg
import Derived.Test.YtlmlckgnmkjkdaaBase
import Derived.Test.YtlmlckgnmkjkdaaExprS
import Derived.Test.YtlmlckgnmkjkdaaExprE
import Derived.Test.YtlmlckgnmkjkdaaWinS
import Derived.Test.YtlmlckgnmkjkdaaCmpInt
import Derived.Test.YtlmlckgnmkjkdaaFlat
import Derived.Test.YtlmlckgnmkjkdaaOwnsS

/-
  Tokens: marks.
-/
namespace Go.Proofs.Ytlmlckgnmkjkdaa
open Go.RowKit

set_option maxHeartbeats 1000000 in
theorem markTokS_any (v : Value) (base n : Nat) (zs : List Int) (k : Int) (w : World) (hown : w.ownsRow base 125 2 v n (iz zs)) (hz : zs.length = n * 2) (h0 : 0 ≤ k) (h1 : k ≤ 4611686018427387904) (hn : n ≤ 1048576) :
    Calls Try.prog 83 #[v, .int .i64 k] w fun e w' => e = .returned (.int .i64 (k + (n * 2 : Nat))) ∧ w'.ownsRow base 125 2 v n (iz (marks k (n * 2))) ∧ w.grownBy w' v.ownBlock := by
  obtain ⟨A, c, rfl, _⟩ := owns_rd hown
  have HZ := Lib.hid hz
  clear hz
  go_enter Try.func83, Try.ntmps83
  go_wp2
  go_loopw [1, 5] (fun q i wr => ∃ j : Nat, j ≤ n ∧ i = .int .i64 j ∧ q = .int .i64 (k + j * 2) ∧ wr.ownsRow base 125 2 (.slice A n c) n (iz (markTo zs k (j * 2))) ∧ w.grownBy wr (Value.slice A n c).ownBlock) (fun _ i _ => n - (intOf i).toNat)
  case atStart => exact ⟨0, Nat.zero_le _, rfl, by simp, by rw [Nat.zero_mul, markTo_zero]; exact hown, World.grownBy.refl _ _⟩
  case round =>
    obtain ⟨j, hj, rfl, rfl, ho, hg⟩ := hrel
    by_cases hlt : j < n
    · obtain ⟨g, rfl⟩ : ∃ g, A = some ⟨g, 0, none⟩ := by
        rcases ho.2 with ⟨h, h'⟩ | ⟨g, cap, cur, h, _⟩
        · omega
        · injection h with h; exact ⟨g, h⟩
      have hl0 : j * 2 < zs.length := by rw [HZ.out]; omega
      have hl1 : j * 2 + 1 < zs.length := by rw [HZ.out]; omega
      have c0 : wr.cell? ⟨g, j * 2, none⟩ = some (.int .i64 (iat (markTo zs k (j * 2)) (j * 2))) := by
        rw [ho.cellAt (j * 2) (by omega), iz_iat (by rw [markTo_length (by omega)]; exact hl0)]
      have c1 : wr.cell? ⟨g, j * 2 + 1, none⟩ = some (.int .i64 (iat (markTo zs k (j * 2)) (j * 2 + 1))) := by
        rw [ho.cellAt (j * 2 + 1) (by omega), iz_iat (by rw [markTo_length (by omega)]; exact hl1)]
      have f0 := ho.frozenAt (j * 2)
      have f1 := ho.frozenAt (j * 2 + 1)
      have s1 := ho.stored (j * 2) (.int .i64 (k + j * 2))
      have s2 := s1.1.stored (j * 2 + 1) (.int .i64 (k + j * 2 + 1))
      have e1 : (iz (markTo zs k (j * 2))).set (j * 2) (.int .i64 (k + j * 2)) = iz (markTo zs k (j * 2 + 1)) := by
        rw [show (k + j * 2 : Int) = k + (j * 2 : Nat) by omega, iz_set, markTo_set hl0]
      have e2 : (iz (markTo zs k (j * 2 + 1))).set (j * 2 + 1) (.int .i64 (k + j * 2 + 1)) = iz (markTo zs k ((j + 1) * 2)) := by
        rw [show (k + j * 2 + 1 : Int) = k + (j * 2 + 1 : Nat) by omega, iz_set, markTo_set hl1, show (j + 1) * 2 = j * 2 + 1 + 1 by omega]
      rw [e1, e2] at s2
      have HO := Lib.hid s2.1
      have HG := Lib.hid (grownBy_trans hg (grownBy_trans s1.2 s2.2))
      clear s1 s2 e1 e2
      go_wp2
      go_roundw
      case rel =>
        exact ⟨j + 1, by omega, by go_num, by first | rfl | (congr 1; omega), HO.out, HG.out⟩
      case measure => simp [intOf]; omega
    · go_wp2
      go_ret
      have hjn : j = n := by omega
      subst hjn
      refine ⟨ret_int (by omega), ?_, hg⟩
      have := ho
      rw [← HZ.out, markTo_all, HZ.out] at this
      exact this

theorem markTokS_at (v : Value) (lo hi n : Nat) (es : List (Int × Int)) (k : Int) (w : World) (hr : RowAt lo hi w 125 2 v n (ez es)) (h0 : 0 ≤ k) (h1 : k ≤ 4611686018427387904) (hl : es.length = n) (hn : n ≤ 1048576) :
    Calls Try.prog 83 #[v, .int .i64 k] w fun e w' => e = .returned (.int .i64 (k + (n * 2 : Nat))) ∧ RowAt lo hi w' 125 2 v n (iz (marks k (n * 2))) ∧ Only lo hi w w' := by
  have hr' := hr
  rw [ez_flat] at hr'
  exact (markTokS_any v lo n (flat es) k w hr'.1 (by rw [flat_length, hl]) h0 h1 hn).mono fun _ _ ⟨he, ho, hg⟩ => ⟨he, ⟨ho, hr.2⟩, Only.of_row hr hg⟩

end Go.Proofs.Ytlmlckgnmkjkdaa

/-
  What the laws' own helpers on Query (two rows of tokens, a window definition of three ints, two ints) return. WRITTEN BY tools/genkitq.py.
-/
namespace Go.Proofs.Ytlmlckgnmkjkdaa
open Go.RowKit

/-- a query as a value, and as cells -/
abbrev qv (F M : Value) (k s t q kk : Int) : Value := .agg #[F, M, .int .i64 k, .int .i64 s, .int .i64 t, .int .i64 q, .int .i64 kk]
abbrev qc (F M : Value) (k s t q kk : Int) : List Value := [F, M, .int .i64 k, .int .i64 s, .int .i64 t, .int .i64 q, .int .i64 kk]
theorem Own.seven {w : World} {g : Nat} {t : TypeId} {c0 c1 c2 c3 c4 c5 c6 : Value} (h : Own w g t [c0, c1, c2, c3, c4, c5, c6]) :
    w.cell? ⟨g, 0, none⟩ = some c0 ∧ w.cell? ⟨g, 1, none⟩ = some c1 ∧ w.cell? ⟨g, 2, none⟩ = some c2 ∧ w.cell? ⟨g, 3, none⟩ = some c3 ∧ w.cell? ⟨g, 4, none⟩ = some c4 ∧ w.cell? ⟨g, 5, none⟩ = some c5 ∧ w.cell? ⟨g, 6, none⟩ = some c6 :=
  ⟨h.cell 0, h.cell 1, h.cell 2, h.cell 3, h.cell 4, h.cell 5, h.cell 6⟩
theorem toTokS_w (A : Option Addr) (n ca : Nat) (es : List (Int × Int)) (w : World) (hA : Rd w A (ez es)) (hz : es.length = n) (hn : n ≤ 1048576) :
    Calls Try.prog 58 #[.slice A n ca] w fun e w' => ∃ g, e = .returned (.slice (some ⟨g, 0, none⟩) n n) ∧ RowAt w.heap.size w'.heap.size w' 125 2 (.slice (some ⟨g, 0, none⟩) n n) n (ez es) ∧ Below w.heap.size w w' := by
  subst hz
  exact (toTokS_any A ca es w hA hn).mono fun _ _ ⟨g, he, hg, hown, hb⟩ => ⟨g, he, RowAt.of (hown.ownsS hg (by rw [ez_flat, iz_length, flat_length]) hn), hb⟩

set_option maxHeartbeats 400000 in
theorem eqWinDef_same (a b c : Int) (w : World) :
    Calls Try.prog 64 #[.agg #[.int .i64 a, .int .i64 b, .int .i64 c], .agg #[.int .i64 a, .int .i64 b, .int .i64 c]] w fun e w' => e = .returned (.bool true) ∧ Below w.heap.size w w' := by
  have t0 : (a != a) = false := by simp
  have t1 : (b != b) = false := by simp
  have t2 : (c != c) = false := by simp
  go_enter Try.func64, Try.ntmps64
  go_wp2
  go_ret
  exact ⟨rfl, below2 _ _ _⟩

set_option maxHeartbeats 1000000 in
theorem eqQuery_same (k s t q kk : Int) (F F' : Option Addr) (n cf cf' : Nat) (fs : List (Int × Int)) (M M' : Option Addr) (m cm cm' : Nat) (ms : List (Int × Int)) (w : World)
    (hF : Rd w F (ez fs)) (hF' : Rd w F' (ez fs)) (hz : fs.length = n) (hn : n ≤ 1048576) (hM : Rd w M (ez ms)) (hM' : Rd w M' (ez ms)) (hy : ms.length = m) (hm : m ≤ 1048576) :
    Calls Try.prog 20 #[qv (.slice F n cf) (.slice M m cm) k s t q kk, qv (.slice F' n cf') (.slice M' m cm') k s t q kk] w fun e w' => e = .returned (.bool true) ∧ Below w.heap.size w w' := by
  have t0 : (q != q) = false := by simp
  have t1 : (kk != kk) = false := by simp
  have hb := below2 w (.cells (qc (.slice F n cf) (.slice M m cm) k s t q kk).toArray 42) (.cells (qc (.slice F' n cf') (.slice M' m cm') k s t q kk).toArray 42)
  have HF := Lib.hid (fun W (h : Below w.heap.size w W) => hF.below h)
  have HF' := Lib.hid (fun W (h : Below w.heap.size w W) => hF'.below h)
  have HM := Lib.hid (fun W (h : Below w.heap.size w W) => hM.below h)
  have HM' := Lib.hid (fun W (h : Below w.heap.size w W) => hM'.below h)
  have o1 := (Own.new w 42 (qc (.slice F n cf) (.slice M m cm) k s t q kk)).alloc (.cells (qc (.slice F' n cf') (.slice M' m cm') k s t q kk).toArray 42)
  have o2 := new_second w (.cells (qc (.slice F n cf) (.slice M m cm) k s t q kk).toArray 42) 42 (qc (.slice F' n cf') (.slice M' m cm') k s t q kk)
  clear hF hF' hM hM'
  obtain ⟨a0, a1, a2, a3, a4, a5, a6⟩ := o1.seven
  obtain ⟨b0, b1, b2, b3, b4, b5, b6⟩ := o2.seven
  go_enter Try.func20, Try.ntmps20
  go_wp2_with fail
  refine (eqTokS_same F F' n cf cf' fs _ (HF.out _ hb) (HF'.out _ hb) hz hn).mono ?_
  clear a0 a1 a2 a3 a4 a5 a6 b0 b1 b2 b3 b4 b5 b6
  rintro e w1 ⟨rfl, h1⟩
  replace o1 := o1.grow h1
  replace o2 := o2.grow h1
  replace hb := below_trans hb h1
  clear h1
  obtain ⟨a0, a1, a2, a3, a4, a5, a6⟩ := o1.seven
  obtain ⟨b0, b1, b2, b3, b4, b5, b6⟩ := o2.seven
  go_wp2_with fail
  refine (eqTokS_same M M' m cm cm' ms _ (HM.out _ hb) (HM'.out _ hb) hy hm).mono ?_
  clear a0 a1 a2 a3 a4 a5 a6 b0 b1 b2 b3 b4 b5 b6
  rintro e w2 ⟨rfl, h2⟩
  replace o1 := o1.grow h2
  replace o2 := o2.grow h2
  replace hb := below_trans hb h2
  clear h2
  obtain ⟨a0, a1, a2, a3, a4, a5, a6⟩ := o1.seven
  obtain ⟨b0, b1, b2, b3, b4, b5, b6⟩ := o2.seven
  go_wp2_with fail
  refine (eqWinDef_same k s t _).mono ?_
  clear a0 a1 a2 a3 a4 a5 a6 b0 b1 b2 b3 b4 b5 b6
  rintro e w3 ⟨rfl, h3⟩
  replace o1 := o1.grow h3
  replace o2 := o2.grow h3
  replace hb := below_trans hb h3
  clear h3
  obtain ⟨a0, a1, a2, a3, a4, a5, a6⟩ := o1.seven
  obtain ⟨b0, b1, b2, b3, b4, b5, b6⟩ := o2.seven
  clear o1 o2
  go_wp2
  go_ret
  exact ⟨rfl, hb⟩

set_option maxHeartbeats 4000000 in
theorem toQuery_w (k s t q kk : Int) (F : Option Addr) (n cf : Nat) (fs : List (Int × Int)) (M : Option Addr) (m cm : Nat) (ms : List (Int × Int)) (w : World)
    (hF : Rd w F (ez fs)) (hz : fs.length = n) (hn : n ≤ 1048576) (hM : Rd w M (ez ms)) (hy : ms.length = m) (hm : m ≤ 1048576) :
    Calls Try.prog 18 #[qv (.slice F n cf) (.slice M m cm) k s t q kk] w fun e w' => ∃ g1 g2 mid, e = .returned (qv (.slice (some ⟨g1, 0, none⟩) n n) (.slice (some ⟨g2, 0, none⟩) m m) k s t q kk) ∧
      RowAt w.heap.size mid w' 125 2 (.slice (some ⟨g1, 0, none⟩) n n) n (ez fs) ∧ RowAt mid w'.heap.size w' 125 2 (.slice (some ⟨g2, 0, none⟩) m m) m (ez ms) ∧ w.heap.size ≤ mid ∧ mid ≤ w'.heap.size ∧ Below w.heap.size w w' := by
  obtain ⟨o1, o2, o3, hb0, hsz⟩ := box_three (w := w) (c1 := qc (.slice F n cf) (.slice M m cm) k s t q kk) (c2 := qc (.slice none 0 0) (.slice none 0 0) 0 0 0 0 0) (c3 := qc (.slice none 0 0) (.slice none 0 0) 0 0 0 0 0) (t1 := 36) (t2 := 42) (t3 := 42)
  have HSZ := Lib.hid hsz
  clear hsz
  have HF := Lib.hid (fun W (h : Below w.heap.size w W) => hF.below h)
  have HM := Lib.hid (fun W (h : Below w.heap.size w W) => hM.below h)
  clear hF hM
  obtain ⟨a0, a1, a2, a3, a4, a5, a6⟩ := o1.seven
  go_enter Try.func18, Try.ntmps18
  go_wp2_with fail
  clear a0 a1 a2 a3 a4 a5 a6
  refine (toTokS_w F n cf fs _ (HF.out _ hb0) hz hn).mono ?_
  rintro e w1 ⟨g1, rfl, r1, hb⟩
  replace r1 := r1.base (lo' := w.heap.size + 1 + 1 + 1) (by have := HSZ.out; omega)
  have hmid := hb.size
  rw [HSZ.out] at hmid
  replace o1 := o1.grow hb
  replace o2 := o2.grow hb
  replace o3 := o3.grow hb
  replace hb0 := below_trans hb0 hb
  clear hb
  obtain ⟨a0, a1, a2, a3, a4, a5, a6⟩ := o1.seven
  obtain ⟨c0, c1, c2, c3, c4, c5, c6⟩ := o3.seven
  have f0 := o3.free 0
  replace o3 := (o3.set 0 (.slice (some ⟨g1, 0, none⟩) n n))
  have H1 := Lib.hid (o1.far (p := ⟨w.heap.size + 1 + 1, 0, none⟩) (show w.heap.size ≠ w.heap.size + 1 + 1 by omega) (.slice (some ⟨g1, 0, none⟩) n n))
  have H2 := Lib.hid (o2.far (p := ⟨w.heap.size + 1 + 1, 0, none⟩) (show w.heap.size + 1 ≠ w.heap.size + 1 + 1 by omega) (.slice (some ⟨g1, 0, none⟩) n n))
  have H3 := Lib.hid o3
  have HR := Lib.hid (r1.set ⟨w.heap.size + 1 + 1, 0, none⟩ (.slice (some ⟨g1, 0, none⟩) n n) (show w.heap.size + 1 + 1 < w.heap.size + 1 + 1 + 1 by omega))
  have HB := Lib.hid (hb0.setCell (p := ⟨w.heap.size + 1 + 1, 0, none⟩) (show w.heap.size ≤ w.heap.size + 1 + 1 by omega) (.slice (some ⟨g1, 0, none⟩) n n))
  clear o1 o2 o3 r1 hb0
  go_wp2_with fail
  clear a0 a1 a2 a3 a4 a5 a6 c0 c1 c2 c3 c4 c5 c6 f0
  refine (toTokS_w M m cm ms _ (HM.out _ HB.out) hy hm).mono ?_
  rintro e w2 ⟨g2, rfl, r2, hb⟩
  rw [size_set] at r2
  have hmid2 := hb.size
  rw [size_set] at hmid2
  have o1 := H1.out.grow hb
  have o2 := H2.out.grow hb
  have o3 := H3.out.grow hb
  have r1 := HR.out.grow hb
  have hb0 := below_trans HB.out hb
  clear H1 H2 H3 HR HB hb
  obtain ⟨a0, a1, a2, a3, a4, a5, a6⟩ := o1.seven
  obtain ⟨c0, c1, c2, c3, c4, c5, c6⟩ := o3.seven
  have f1 := o3.free 1
  replace o3 := (o3.set 1 (.slice (some ⟨g2, 0, none⟩) m m))
  have H1 := Lib.hid (o1.far (p := ⟨w.heap.size + 1 + 1, 1, none⟩) (show w.heap.size ≠ w.heap.size + 1 + 1 by omega) (.slice (some ⟨g2, 0, none⟩) m m))
  have H2 := Lib.hid (o2.far (p := ⟨w.heap.size + 1 + 1, 1, none⟩) (show w.heap.size + 1 ≠ w.heap.size + 1 + 1 by omega) (.slice (some ⟨g2, 0, none⟩) m m))
  have H3 := Lib.hid o3
  have HR := Lib.hid (r1.set ⟨w.heap.size + 1 + 1, 1, none⟩ (.slice (some ⟨g2, 0, none⟩) m m) (show w.heap.size + 1 + 1 < w.heap.size + 1 + 1 + 1 by omega))
  have HR2 := Lib.hid (r2.set ⟨w.heap.size + 1 + 1, 1, none⟩ (.slice (some ⟨g2, 0, none⟩) m m) (show w.heap.size + 1 + 1 < w1.heap.size by omega))
  have HB := Lib.hid (hb0.setCell (p := ⟨w.heap.size + 1 + 1, 1, none⟩) (show w.heap.size ≤ w.heap.size + 1 + 1 by omega) (.slice (some ⟨g2, 0, none⟩) m m))
  clear o1 o2 o3 r1 r2 hb0
  go_wp2_with fail
  clear a0 a1 a2 a3 a4 a5 a6 c0 c1 c2 c3 c4 c5 c6 f1
  refine (toWinDef_any k s t _).mono ?_
  rintro e w3 ⟨rfl, hb⟩
  have hmid3 := hb.size
  rw [size_set] at hmid3
  have o1 := H1.out.grow hb
  have o2 := H2.out.grow hb
  have o3 := H3.out.grow hb
  have r1 := HR.out.grow hb
  have r2 := HR2.out.grow hb
  have hb0 := below_trans HB.out hb
  clear H1 H2 H3 HR HR2 HB hb
  obtain ⟨a0, a1, a2, a3, a4, a5, a6⟩ := o1.seven
  obtain ⟨b0, b1, b2, b3, b4, b5, b6⟩ := o2.seven
  obtain ⟨c0, c1, c2, c3, c4, c5, c6⟩ := o3.seven
  have f2 := o3.free 2
  have f3 := o3.free 3
  have f4 := o3.free 4
  have f5 := o3.free 5
  have f6 := o3.free 6
  have fb0 := o2.free 0
  have fb1 := o2.free 1
  have fb2 := o2.free 2
  have fb3 := o2.free 3
  have fb4 := o2.free 4
  have fb5 := o2.free 5
  have fb6 := o2.free 6
  have HR := Lib.hid (And.intro (And.intro r1 r2) (And.intro hb0 (And.intro hmid (And.intro hmid2 hmid3))))
  clear o1 o2 o3 r1 r2 hb0 hmid hmid2 hmid3
  go_wp2
  refine bodyPost_ret (v := qv (.slice (some ⟨g1, 0, none⟩) n n) (.slice (some ⟨g2, 0, none⟩) m m) k s t q kk) (by simp [results, Try.results18, go_sem, b0, b1, b2, b3, b4, b5, b6]) rfl ⟨g1, g2, w1.heap.size, rfl, ?_, ?_, ?_, ?_, ?_⟩
  · exact RowAt.base ((((((((((((HR.out.1.1.set ⟨w.heap.size + 1 + 1, 2, none⟩ (.int .i64 k) (show w.heap.size + 1 + 1 < w.heap.size + 1 + 1 + 1 by omega)).set ⟨w.heap.size + 1 + 1, 3, none⟩ (.int .i64 s) (show w.heap.size + 1 + 1 < w.heap.size + 1 + 1 + 1 by omega)).set ⟨w.heap.size + 1 + 1, 4, none⟩ (.int .i64 t) (show w.heap.size + 1 + 1 < w.heap.size + 1 + 1 + 1 by omega)).set ⟨w.heap.size + 1 + 1, 5, none⟩ (.int .i64 q) (show w.heap.size + 1 + 1 < w.heap.size + 1 + 1 + 1 by omega)).set ⟨w.heap.size + 1 + 1, 6, none⟩ (.int .i64 kk) (show w.heap.size + 1 + 1 < w.heap.size + 1 + 1 + 1 by omega)).set ⟨w.heap.size + 1, 0, none⟩ (.slice (some ⟨g1, 0, none⟩) n n) (show w.heap.size + 1 < w.heap.size + 1 + 1 + 1 by omega)).set ⟨w.heap.size + 1, 1, none⟩ (.slice (some ⟨g2, 0, none⟩) m m) (show w.heap.size + 1 < w.heap.size + 1 + 1 + 1 by omega)).set ⟨w.heap.size + 1, 2, none⟩ (.int .i64 k) (show w.heap.size + 1 < w.heap.size + 1 + 1 + 1 by omega)).set ⟨w.heap.size + 1, 3, none⟩ (.int .i64 s) (show w.heap.size + 1 < w.heap.size + 1 + 1 + 1 by omega)).set ⟨w.heap.size + 1, 4, none⟩ (.int .i64 t) (show w.heap.size + 1 < w.heap.size + 1 + 1 + 1 by omega)).set ⟨w.heap.size + 1, 5, none⟩ (.int .i64 q) (show w.heap.size + 1 < w.heap.size + 1 + 1 + 1 by omega)).set ⟨w.heap.size + 1, 6, none⟩ (.int .i64 kk) (show w.heap.size + 1 < w.heap.size + 1 + 1 + 1 by omega)) (by omega)
  · have r := ((((((((((((HR.out.1.2.set ⟨w.heap.size + 1 + 1, 2, none⟩ (.int .i64 k) (show w.heap.size + 1 + 1 < w1.heap.size by have := HR.out.2.2.1; omega)).set ⟨w.heap.size + 1 + 1, 3, none⟩ (.int .i64 s) (show w.heap.size + 1 + 1 < w1.heap.size by have := HR.out.2.2.1; omega)).set ⟨w.heap.size + 1 + 1, 4, none⟩ (.int .i64 t) (show w.heap.size + 1 + 1 < w1.heap.size by have := HR.out.2.2.1; omega)).set ⟨w.heap.size + 1 + 1, 5, none⟩ (.int .i64 q) (show w.heap.size + 1 + 1 < w1.heap.size by have := HR.out.2.2.1; omega)).set ⟨w.heap.size + 1 + 1, 6, none⟩ (.int .i64 kk) (show w.heap.size + 1 + 1 < w1.heap.size by have := HR.out.2.2.1; omega)).set ⟨w.heap.size + 1, 0, none⟩ (.slice (some ⟨g1, 0, none⟩) n n) (show w.heap.size + 1 < w1.heap.size by have := HR.out.2.2.1; omega)).set ⟨w.heap.size + 1, 1, none⟩ (.slice (some ⟨g2, 0, none⟩) m m) (show w.heap.size + 1 < w1.heap.size by have := HR.out.2.2.1; omega)).set ⟨w.heap.size + 1, 2, none⟩ (.int .i64 k) (show w.heap.size + 1 < w1.heap.size by have := HR.out.2.2.1; omega)).set ⟨w.heap.size + 1, 3, none⟩ (.int .i64 s) (show w.heap.size + 1 < w1.heap.size by have := HR.out.2.2.1; omega)).set ⟨w.heap.size + 1, 4, none⟩ (.int .i64 t) (show w.heap.size + 1 < w1.heap.size by have := HR.out.2.2.1; omega)).set ⟨w.heap.size + 1, 5, none⟩ (.int .i64 q) (show w.heap.size + 1 < w1.heap.size by have := HR.out.2.2.1; omega)).set ⟨w.heap.size + 1, 6, none⟩ (.int .i64 kk) (show w.heap.size + 1 < w1.heap.size by have := HR.out.2.2.1; omega))
    simp only [size_set]
    exact ⟨r.1, fun j hj => Nat.lt_of_lt_of_le (r.2 j hj) HR.out.2.2.2.2⟩
  · have := HR.out.2.2.1; omega
  · simp only [size_set]
    have := HR.out.2.2.2
    omega
  · exact ((((((((((((HR.out.2.1.setCell (p := ⟨w.heap.size + 1 + 1, 2, none⟩) (show w.heap.size ≤ w.heap.size + 1 + 1 by omega) (.int .i64 k)).setCell (p := ⟨w.heap.size + 1 + 1, 3, none⟩) (show w.heap.size ≤ w.heap.size + 1 + 1 by omega) (.int .i64 s)).setCell (p := ⟨w.heap.size + 1 + 1, 4, none⟩) (show w.heap.size ≤ w.heap.size + 1 + 1 by omega) (.int .i64 t)).setCell (p := ⟨w.heap.size + 1 + 1, 5, none⟩) (show w.heap.size ≤ w.heap.size + 1 + 1 by omega) (.int .i64 q)).setCell (p := ⟨w.heap.size + 1 + 1, 6, none⟩) (show w.heap.size ≤ w.heap.size + 1 + 1 by omega) (.int .i64 kk)).setCell (p := ⟨w.heap.size + 1, 0, none⟩) (show w.heap.size ≤ w.heap.size + 1 by omega) (.slice (some ⟨g1, 0, none⟩) n n)).setCell (p := ⟨w.heap.size + 1, 1, none⟩) (show w.heap.size ≤ w.heap.size + 1 by omega) (.slice (some ⟨g2, 0, none⟩) m m)).setCell (p := ⟨w.heap.size + 1, 2, none⟩) (show w.heap.size ≤ w.heap.size + 1 by omega) (.int .i64 k)).setCell (p := ⟨w.heap.size + 1, 3, none⟩) (show w.heap.size ≤ w.heap.size + 1 by omega) (.int .i64 s)).setCell (p := ⟨w.heap.size + 1, 4, none⟩) (show w.heap.size ≤ w.heap.size + 1 by omega) (.int .i64 t)).setCell (p := ⟨w.heap.size + 1, 5, none⟩) (show w.heap.size ≤ w.heap.size + 1 by omega) (.int .i64 q)).setCell (p := ⟨w.heap.size + 1, 6, none⟩) (show w.heap.size ≤ w.heap.size + 1 by omega) (.int .i64 kk))

theorem lessT_no {a : Int} {n : Nat} (h : a - n < 0) : lessT a n = -1 := by simp [lessT]; omega
theorem lessT_yes {a : Int} {n : Nat} (h : 0 ≤ a - n) : lessT a n = a - n := by simp [lessT]; omega
set_option maxHeartbeats 400000 in
/-- the measure of a query that fits -/
theorem szQuery_fits (F M : Option Addr) (n cf m cm : Nat) (k s t q kk : Int) (w : World) (h : n + m ≤ 1048576) :
    Calls Try.prog 16 #[qv (.slice F n cf) (.slice M m cm) k s t q kk, .int .i64 1048576] w fun e w' => ∃ z : Int, e = .returned (.int .i64 z) ∧ z = 1048576 - n - m ∧ Below w.heap.size w w' := by
  have e1 : lessT 1048576 n = 1048576 - (n : Int) := lessT_yes (by omega)
  have e2 : lessT (1048576 - (n : Int)) m = 1048576 - (n : Int) - m := lessT_yes (by omega)
  have E1 := Lib.hid e1
  have E2 := Lib.hid e2
  clear e1 e2
  have hp : ¬ 1048576 - (n : Int) < 0 := by omega
  have hp2 : ¬ 1048576 - (n : Int) - m < 0 := by omega
  have o1 := Own.new w 36 (qc (.slice F n cf) (.slice M m cm) k s t q kk)
  have hb := below_alloc w (.cells (qc (.slice F n cf) (.slice M m cm) k s t q kk).toArray 36)
  obtain ⟨a0, a1, a2, a3, a4, a5, a6⟩ := o1.seven
  clear o1
  obtain ⟨z, hz⟩ : ∃ z : Int, 1048576 - (n : Int) = z := ⟨_, rfl⟩
  rw [hz] at E1 E2 hp hp2
  go_enter Try.func16, Try.ntmps16
  go_wp2_with fail
  refine (as_int E1.out (szTokS_any F n cf 1048576 _ (by omega) (by omega) (by omega))).mono ?_
  rintro e _ ⟨rfl, rfl⟩
  go_wp2_with fail
  refine (as_int E2.out (szTokS_any M m cm z _ (by omega) (by omega) (by omega))).mono ?_
  rintro e _ ⟨rfl, rfl⟩
  go_wp2
  go_ret
  exact ⟨z - m, rfl, by omega, hb⟩
set_option maxHeartbeats 400000 in
/-- .. and of one that does not -/
theorem szQuery_big (F M : Option Addr) (n cf m cm : Nat) (k s t q kk : Int) (w : World) (h : ¬ n + m ≤ 1048576) (hn : n ≤ 9223372036854775807) (hm : m ≤ 9223372036854775807) :
    Calls Try.prog 16 #[qv (.slice F n cf) (.slice M m cm) k s t q kk, .int .i64 1048576] w fun e w' => e = .returned (.int .i64 (-1)) ∧ Below w.heap.size w w' := by
  have o1 := Own.new w 36 (qc (.slice F n cf) (.slice M m cm) k s t q kk)
  have hb := below_alloc w (.cells (qc (.slice F n cf) (.slice M m cm) k s t q kk).toArray 36)
  obtain ⟨a0, a1, a2, a3, a4, a5, a6⟩ := o1.seven
  clear o1
  by_cases h1 : n ≤ 1048576
  · obtain ⟨z, hz⟩ : ∃ z : Int, 1048576 - (n : Int) = z := ⟨_, rfl⟩
    have E1 := Lib.hid (show lessT 1048576 n = z by rw [← hz]; exact lessT_yes (by omega))
    have E2 := Lib.hid (show lessT z m = -1 from lessT_no (by omega))
    have hp : ¬ z < 0 := by omega
    have HM := Lib.hid (And.intro hm (show 0 ≤ z ∧ z ≤ 1048576 by omega))
    clear hz h h1 hm
    go_enter Try.func16, Try.ntmps16
    go_wp2_with fail
    refine (as_int E1.out (szTokS_any F n cf 1048576 _ (by omega) (by omega) hn)).mono ?_
    rintro e _ ⟨rfl, rfl⟩
    go_wp2_with fail
    refine (as_int E2.out (szTokS_any M m cm z _ HM.out.2.1 HM.out.2.2 HM.out.1)).mono ?_
    rintro e _ ⟨rfl, rfl⟩
    go_wp2
    go_ret
    exact ⟨rfl, hb⟩
  · have E1 := Lib.hid (show lessT 1048576 n = -1 from lessT_no (by omega))
    have HN := Lib.hid hn
    clear h h1 hn hm
    go_enter Try.func16, Try.ntmps16
    go_wp2_with fail
    refine (as_int E1.out (szTokS_any F n cf 1048576 _ (by omega) (by omega) HN.out)).mono ?_
    rintro e _ ⟨rfl, rfl⟩
    go_wp2
    go_ret
    exact ⟨rfl, hb⟩

set_option maxHeartbeats 400000 in
theorem markQuery_at (F M : Option Addr) (n cf m cm : Nat) (k s t q kk : Int) (lo mid hi : Nat) (fs ms : List (Int × Int)) (j j1 j2 : Int) (w : World)
    (hr : RowAt lo mid w 125 2 (.slice F n cf) n (ez fs)) (hr2 : RowAt mid hi w 125 2 (.slice M m cm) m (ez ms)) (hl : lo ≤ mid) (hh : mid ≤ hi) (hs : hi ≤ w.heap.size) (h0 : 0 ≤ j) (h1 : j ≤ 1048576) (e1 : j + (n * 2 : Nat) = j1) (e2 : j1 + (m * 2 : Nat) = j2)
    (hz : fs.length = n) (hn : n ≤ 1048576) (hy : ms.length = m) (hm : m ≤ 1048576) :
    Calls Try.prog 36 #[qv (.slice F n cf) (.slice M m cm) k s t q kk, .int .i64 j] w fun e w' => e = .returned (.int .i64 j2) ∧ Only lo hi w w' := by
  have o1 := Own.new w 42 (qc (.slice F n cf) (.slice M m cm) k s t q kk)
  have hb := below_alloc w (.cells (qc (.slice F n cf) (.slice M m cm) k s t q kk).toArray 42)
  have HR := Lib.hid (hr.grow hb)
  have HR2 := Lib.hid (hr2.grow hb)
  have HO := Lib.hid (Only.of_below hb lo hi)
  have HS := Lib.hid hs
  have HE := Lib.hid (And.intro e1 e2)
  clear hr hr2 hb e1 e2 hs
  obtain ⟨a0, a1, a2, a3, a4, a5, a6⟩ := o1.seven
  go_enter Try.func36, Try.ntmps36
  go_wp2_with fail
  clear a0 a1 a2 a3 a4 a5 a6
  refine (as_int HE.out.1 (markTokS_at (.slice F n cf) lo mid n fs j _ HR.out h0 (by omega) hz hn)).mono ?_
  rintro e w1 ⟨rfl, _, hO⟩
  have hsz := HS.out
  replace o1 := o1.only hO (.inr (by omega))
  have HR3 := Lib.hid (HR2.out.move (hO.same (.inr (Nat.le_refl _)) (by simp; omega)))
  have HO2 := Lib.hid (Only.trans HO.out (show Only lo hi _ _ from ⟨hO.os, hO.tape, hO.output, hO.size, fun i h1 h2 => hO.block i h1 (by omega)⟩))
  clear hO HR HR2 HO hsz
  obtain ⟨a0, a1, a2, a3, a4, a5, a6⟩ := o1.seven
  clear o1
  go_wp2_with fail
  clear a0 a1 a2 a3 a4 a5 a6
  refine (as_int HE.out.2 (markTokS_at (.slice M m cm) mid hi m ms j1 _ HR3.out (by have := HE.out.1; omega) (by have := HE.out.1; omega) hy hm)).mono ?_
  rintro e w2 ⟨rfl, _, hO⟩
  have HO3 := Lib.hid (Only.trans HO2.out (show Only lo hi _ _ from ⟨hO.os, hO.tape, hO.output, hO.size, fun i h1 h2 => hO.block i h1 (by omega)⟩))
  clear hO HR3 HO2
  go_wp2
  go_ret
  exact ⟨rfl, HO3.out⟩
end Go.Proofs.Ytlmlckgnmkjkdaa

/-
  AggKind, the program's and the model's: what they return.
-/
namespace Go.Proofs.Ytlmlckgnmkjkdaa
open Go.RowKit

/-- the kinds and their k -/
def kindOk (q k : Int) : Prop := q = 6 ∧ 1 ≤ k ∧ k ≤ 4 ∨ 1 ≤ q ∧ q ≤ 5 ∧ k = 0

set_option maxHeartbeats 400000 in
theorem specAggKind_any (q k : Int) (w : World) :
    Calls Try.prog 57 #[.int .i64 q, .int .i64 k] w fun e w' => e = .returned (.bool (tf (kindOk q k))) ∧ w = w' := by
  by_cases h6 : q = 6
  · by_cases h1 : 1 ≤ k
    · go_enter Try.func57, Try.ntmps57
      go_wp2
      go_ret
      refine ⟨ret_bool ?_, rfl⟩
      by_cases h4 : k ≤ 4
      · rw [← tf_yes (show kindOk q k from .inl ⟨h6, h1, h4⟩)]; simp [h4]
      · rw [← tf_no (show ¬ kindOk q k from fun h => by unfold kindOk at h; omega)]; simp; omega
    · go_enter Try.func57, Try.ntmps57
      go_wp2
      go_ret
      exact ⟨ret_bool (tf_no (fun h => by unfold kindOk at h; omega)), rfl⟩
  · by_cases h1 : 1 ≤ q
    · by_cases h5 : q < 6
      · go_enter Try.func57, Try.ntmps57
        go_wp2
        go_ret
        refine ⟨ret_bool ?_, rfl⟩
        by_cases h4 : k = 0
        · rw [← tf_yes (show kindOk q k from .inr ⟨h1, by omega, h4⟩)]; simp [h4]
        · rw [← tf_no (show ¬ kindOk q k from fun h => by unfold kindOk at h; omega)]; simp; omega
      · go_enter Try.func57, Try.ntmps57
        go_wp2
        go_ret
        exact ⟨ret_bool (tf_no (fun h => by unfold kindOk at h; omega)), rfl⟩
    · go_enter Try.func57, Try.ntmps57
      go_wp2
      go_ret
      exact ⟨ret_bool (tf_no (fun h => by unfold kindOk at h; omega)), rfl⟩

theorem kind_of {q k : Int} (h : 1 ≤ q ∧ q ≤ 5) : (k == 0) = tf (kindOk q k) := by
  by_cases h4 : k = 0
  · rw [← tf_yes (show kindOk q k from .inr ⟨h.1, h.2, h4⟩)]; simp [h4]
  · rw [← tf_no (show ¬ kindOk q k from fun h => by unfold kindOk at h; omega)]; simp; omega

set_option maxHeartbeats 400000 in
theorem implAggKind_any (q k : Int) (w : World) :
    Calls Try.prog 62 #[.int .i64 q, .int .i64 k] w fun e w' => e = .returned (.bool (tf (kindOk q k))) ∧ w = w' := by
  by_cases h6 : q = 6
  · subst h6
    by_cases h1 : 1 ≤ k
    · go_enter Try.func62, Try.ntmps62
      go_wp2
      go_ret
      refine ⟨ret_bool ?_, rfl⟩
      by_cases h4 : k ≤ 4
      · rw [← tf_yes (show kindOk 6 k from .inl ⟨rfl, h1, h4⟩)]; simp [h4]
      · rw [← tf_no (show ¬ kindOk 6 k from fun h => by unfold kindOk at h; omega)]; simp; omega
    · go_enter Try.func62, Try.ntmps62
      go_wp2
      go_ret
      exact ⟨ret_bool (tf_no (fun h => by unfold kindOk at h; omega)), rfl⟩
  · by_cases h : 1 ≤ q ∧ q ≤ 5
    · have HK := Lib.hid (kind_of (k := k) h)
      have h' : q = 1 ∨ q = 2 ∨ q = 3 ∨ q = 4 ∨ q = 5 := by omega
      rcases h' with rfl | rfl | rfl | rfl | rfl
      all_goals
        clear h
        go_enter Try.func62, Try.ntmps62
        go_wp2
        go_ret
        exact ⟨ret_bool HK.out, rfl⟩
    · have n1 : ¬ q = 1 := by omega
      have n2 : ¬ q = 2 := by omega
      have n3 : ¬ q = 3 := by omega
      have n4 : ¬ q = 4 := by omega
      have n5 : ¬ q = 5 := by omega
      have HK := Lib.hid (tf_no (show ¬ kindOk q k from fun h => by unfold kindOk at h; omega))
      clear h
      go_enter Try.func62, Try.ntmps62
      go_wp2
      go_ret
      exact ⟨ret_bool HK.out, rfl⟩

end Go.Proofs.Ytlmlckgnmkjkdaa

/-
  QueryOk, the model's and the program's: what they return. WRITTEN BY tools/genquery.py.
-/
namespace Go.Proofs.Ytlmlckgnmkjkdaa
open Go.RowKit

def queryOk (fs ms : List (Int × Int)) (k s t q kk : Int) : Prop := (0 ≤ depthOf fs) ∧ (0 ≤ depthOf ms) ∧ defOk k s t ∧ kindOk q kk

set_option maxHeartbeats 1000000 in
theorem queryWinOk_any (k s t : Int) (w : World) :
    Calls Try.prog 61 #[.agg #[.int .i64 k, .int .i64 s, .int .i64 t]] w fun e w' => e = .returned (.bool (tf (defOk k s t))) ∧ Below w.heap.size w w' := by
  obtain ⟨b, HB⟩ : ∃ b, Hid (tf (defOk k s t) = b) := ⟨_, Lib.hid rfl⟩
  have o1 := Own.new w 40 [.int .i64 k, .int .i64 s, .int .i64 t]
  have hb := below_alloc w (.cells #[.int .i64 k, .int .i64 s, .int .i64 t] 40)
  have c0 := o1.cell 0
  have c1 := o1.cell 1
  have c2 := o1.cell 2
  simp only [List.getElem?_cons_zero, List.getElem?_cons_succ] at c0 c1 c2
  clear o1
  have HW := Lib.hid (fun W => as_bool HB.out (implWinOk_any k s t W))
  have hr : Ending.returned (.bool (tf (defOk k s t))) = .returned (.bool b) := ret_bool HB.out
  rw [hr]
  clear hr
  by_cases h2 : k = 2
  · subst h2
    go_enter Try.func61, Try.ntmps61
    go_wp2_with fail
    refine (HW.out _).mono ?_
    rintro e w1 ⟨rfl, h1⟩
    replace hb := below_trans hb h1
    go_wp2
    go_ret
    exact ⟨rfl, hb⟩
  · have t2 : (k == 2) = false := by simpa using h2
    by_cases h13 : k = 1 ∨ k = 3
    · by_cases ht : t = 0
      · subst ht
        rcases h13 with rfl | rfl
        · clear t2 h2
          go_enter Try.func61, Try.ntmps61
          go_wp2_with fail
          refine (HW.out _).mono ?_
          rintro e w1 ⟨rfl, h1⟩
          replace hb := below_trans hb h1
          go_wp2
          go_ret
          exact ⟨rfl, hb⟩
        · clear t2 h2
          go_enter Try.func61, Try.ntmps61
          go_wp2_with fail
          refine (HW.out _).mono ?_
          rintro e w1 ⟨rfl, h1⟩
          replace hb := below_trans hb h1
          go_wp2
          go_ret
          exact ⟨rfl, hb⟩
      · have t3 : (t != 0) = true := by simpa using ht
        have HF := Lib.hid (tf_no (show ¬ defOk k s t from fun h => by unfold defOk at h; omega))
        clear ht
        rcases h13 with rfl | rfl
        · clear t2 h2
          go_enter Try.func61, Try.ntmps61
          go_wp2
          go_ret
          exact ⟨ret_bool (HF.out.trans HB.out), hb⟩
        · clear t2 h2
          go_enter Try.func61, Try.ntmps61
          go_wp2
          go_ret
          exact ⟨ret_bool (HF.out.trans HB.out), hb⟩
    · have t1 : (k == 1) = false := by simp; omega
      have t4 : (k == 3) = false := by simp; omega
      have HF := Lib.hid (tf_no (show ¬ defOk k s t from fun h => by unfold defOk at h; omega))
      clear h2 h13
      go_enter Try.func61, Try.ntmps61
      go_wp2
      go_ret
      exact ⟨ret_bool (HF.out.trans HB.out), hb⟩

set_option maxHeartbeats 4000000 in
theorem specQueryOk_any (k s t q kk : Int) (F : Option Addr) (n cf : Nat) (fs : List (Int × Int)) (M : Option Addr) (m cm : Nat) (ms : List (Int × Int)) (w : World)
    (hF : Rd w F (ez fs)) (hz : fs.length = n) (hn : n ≤ 1048576) (hM : Rd w M (ez ms)) (hy : ms.length = m) (hm : m ≤ 1048576) :
    Calls Try.prog 17 #[qv (.slice F n cf) (.slice M m cm) k s t q kk] w fun e w' => e = .returned (.bool (tf (queryOk fs ms k s t q kk))) ∧ Below w.heap.size w w' := by
  have HF := Lib.hid (fun W (h : Below w.heap.size w W) => specExprOk_any F cf fs W (hF.below h) (by rw [hz]; omega))
  have HM := Lib.hid (fun W (h : Below w.heap.size w W) => specExprOk_any M cm ms W (hM.below h) (by rw [hy]; omega))
  rw [hz] at HF
  rw [hy] at HM
  clear hF hM hz hy
  have o1 := Own.new w 42 (qc (.slice F n cf) (.slice M m cm) k s t q kk)
  have hb := below_alloc w (.cells (qc (.slice F n cf) (.slice M m cm) k s t q kk).toArray 42)
  obtain ⟨a0, a1, a2, a3, a4, a5, a6⟩ := o1.seven
  by_cases h0 : 0 ≤ depthOf fs
  · have H0 := Lib.hid (decide_eq_true h0)
    by_cases h1 : 0 ≤ depthOf ms
    · have H1 := Lib.hid (decide_eq_true h1)
      by_cases h2 : defOk k s t
      · have H2 := Lib.hid ((tf_yes h2).symm)
        by_cases h3 : kindOk q kk
        · have H3 := Lib.hid ((tf_yes h3).symm)
          have H := Lib.hid (show queryOk fs ms k s t q kk from ⟨h0, h1, h2, h3⟩)
          clear h0 h1 h2 h3
          go_enter Try.func17, Try.ntmps17
          go_wp2_with fail
          refine (as_bool (R := fun w' => _ = w') H0.out (HF.out _ hb)).mono ?_
          rintro e _ ⟨rfl, rfl⟩
          go_wp2_with fail
          refine (as_bool (R := fun w' => _ = w') H1.out (HM.out _ hb)).mono ?_
          rintro e _ ⟨rfl, rfl⟩
          go_wp2_with fail
          refine (as_bool H2.out (specWinOk_any k s t _)).mono ?_
          clear a0 a1 a2 a3 a4 a5 a6
          rintro e w3 ⟨rfl, hb1⟩
          replace o1 := o1.grow hb1
          replace hb := below_trans hb hb1
          clear hb1
          obtain ⟨a0, a1, a2, a3, a4, a5, a6⟩ := o1.seven
          go_wp2_with fail
          refine (as_bool (R := fun w' => _ = w') H3.out (specAggKind_any q kk _)).mono ?_
          rintro e _ ⟨rfl, rfl⟩
          go_wp2
          go_ret
          exact ⟨ret_bool (tf_yes H.out), hb⟩
        · have H3 := Lib.hid ((tf_no h3).symm)
          have H := Lib.hid (show ¬ queryOk fs ms k s t q kk from fun h => h3 h.2.2.2)
          clear h0 h1 h2 h3
          go_enter Try.func17, Try.ntmps17
          go_wp2_with fail
          refine (as_bool (R := fun w' => _ = w') H0.out (HF.out _ hb)).mono ?_
          rintro e _ ⟨rfl, rfl⟩
          go_wp2_with fail
          refine (as_bool (R := fun w' => _ = w') H1.out (HM.out _ hb)).mono ?_
          rintro e _ ⟨rfl, rfl⟩
          go_wp2_with fail
          refine (as_bool H2.out (specWinOk_any k s t _)).mono ?_
          clear a0 a1 a2 a3 a4 a5 a6
          rintro e w3 ⟨rfl, hb1⟩
          replace o1 := o1.grow hb1
          replace hb := below_trans hb hb1
          clear hb1
          obtain ⟨a0, a1, a2, a3, a4, a5, a6⟩ := o1.seven
          go_wp2_with fail
          refine (as_bool (R := fun w' => _ = w') H3.out (specAggKind_any q kk _)).mono ?_
          rintro e _ ⟨rfl, rfl⟩
          go_wp2
          go_ret
          exact ⟨ret_bool (tf_no H.out), hb⟩
      · have H2 := Lib.hid ((tf_no h2).symm)
        have H := Lib.hid (show ¬ queryOk fs ms k s t q kk from fun h => h2 h.2.2.1)
        clear h0 h1 h2
        go_enter Try.func17, Try.ntmps17
        go_wp2_with fail
        refine (as_bool (R := fun w' => _ = w') H0.out (HF.out _ hb)).mono ?_
        rintro e _ ⟨rfl, rfl⟩
        go_wp2_with fail
        refine (as_bool (R := fun w' => _ = w') H1.out (HM.out _ hb)).mono ?_
        rintro e _ ⟨rfl, rfl⟩
        go_wp2_with fail
        refine (as_bool H2.out (specWinOk_any k s t _)).mono ?_
        clear a0 a1 a2 a3 a4 a5 a6
        rintro e w3 ⟨rfl, hb1⟩
        replace o1 := o1.grow hb1
        replace hb := below_trans hb hb1
        clear hb1
        obtain ⟨a0, a1, a2, a3, a4, a5, a6⟩ := o1.seven
        go_wp2
        go_ret
        exact ⟨ret_bool (tf_no H.out), hb⟩
    · have H1 := Lib.hid (decide_eq_false h1)
      have H := Lib.hid (show ¬ queryOk fs ms k s t q kk from fun h => h1 h.2.1)
      clear h0 h1
      go_enter Try.func17, Try.ntmps17
      go_wp2_with fail
      refine (as_bool (R := fun w' => _ = w') H0.out (HF.out _ hb)).mono ?_
      rintro e _ ⟨rfl, rfl⟩
      go_wp2_with fail
      refine (as_bool (R := fun w' => _ = w') H1.out (HM.out _ hb)).mono ?_
      rintro e _ ⟨rfl, rfl⟩
      go_wp2
      go_ret
      exact ⟨ret_bool (tf_no H.out), hb⟩
  · have H0 := Lib.hid (decide_eq_false h0)
    have H := Lib.hid (show ¬ queryOk fs ms k s t q kk from fun h => h0 h.1)
    clear h0
    go_enter Try.func17, Try.ntmps17
    go_wp2_with fail
    refine (as_bool (R := fun w' => _ = w') H0.out (HF.out _ hb)).mono ?_
    rintro e _ ⟨rfl, rfl⟩
    go_wp2
    go_ret
    exact ⟨ret_bool (tf_no H.out), hb⟩

set_option maxHeartbeats 4000000 in
theorem implQueryOk_any (k s t q kk : Int) (F : Option Addr) (n cf : Nat) (fs : List (Int × Int)) (M : Option Addr) (m cm : Nat) (ms : List (Int × Int)) (w : World)
    (hF : Rd w F (ez fs)) (hz : fs.length = n) (hn : n ≤ 1048576) (hM : Rd w M (ez ms)) (hy : ms.length = m) (hm : m ≤ 1048576) :
    Calls Try.prog 19 #[qv (.slice F n cf) (.slice M m cm) k s t q kk] w fun e w' => e = .returned (.bool (tf (queryOk fs ms k s t q kk))) ∧ Below w.heap.size w w' := by
  have HF := Lib.hid (fun W (h : Below w.heap.size w W) => implExprOk_any F cf fs W (hF.below h) (by rw [hz]; omega))
  have HM := Lib.hid (fun W (h : Below w.heap.size w W) => implExprOk_any M cm ms W (hM.below h) (by rw [hy]; omega))
  rw [hz] at HF
  rw [hy] at HM
  clear hF hM hz hy
  have o1 := Own.new w 42 (qc (.slice F n cf) (.slice M m cm) k s t q kk)
  have hb := below_alloc w (.cells (qc (.slice F n cf) (.slice M m cm) k s t q kk).toArray 42)
  obtain ⟨a0, a1, a2, a3, a4, a5, a6⟩ := o1.seven
  by_cases h0 : 0 ≤ depthOf fs
  · have H0 := Lib.hid (decide_eq_true h0)
    by_cases h1 : 0 ≤ depthOf ms
    · have H1 := Lib.hid (decide_eq_true h1)
      by_cases h2 : defOk k s t
      · have H2 := Lib.hid ((tf_yes h2).symm)
        by_cases h3 : kindOk q kk
        · have H3 := Lib.hid ((tf_yes h3).symm)
          have H := Lib.hid (show queryOk fs ms k s t q kk from ⟨h0, h1, h2, h3⟩)
          clear h0 h1 h2 h3
          go_enter Try.func19, Try.ntmps19
          go_wp2_with fail
          refine (as_bool H0.out (HF.out _ hb)).mono ?_
          clear a0 a1 a2 a3 a4 a5 a6
          rintro e w1 ⟨rfl, hb1⟩
          replace o1 := o1.grow hb1
          replace hb := below_trans hb hb1
          clear hb1
          obtain ⟨a0, a1, a2, a3, a4, a5, a6⟩ := o1.seven
          go_wp2_with fail
          refine (as_bool H1.out (HM.out _ hb)).mono ?_
          clear a0 a1 a2 a3 a4 a5 a6
          rintro e w2 ⟨rfl, hb1⟩
          replace o1 := o1.grow hb1
          replace hb := below_trans hb hb1
          clear hb1
          obtain ⟨a0, a1, a2, a3, a4, a5, a6⟩ := o1.seven
          go_wp2_with fail
          refine (as_bool H2.out (queryWinOk_any k s t _)).mono ?_
          clear a0 a1 a2 a3 a4 a5 a6
          rintro e w3 ⟨rfl, hb1⟩
          replace o1 := o1.grow hb1
          replace hb := below_trans hb hb1
          clear hb1
          obtain ⟨a0, a1, a2, a3, a4, a5, a6⟩ := o1.seven
          go_wp2_with fail
          refine (as_bool (R := fun w' => _ = w') H3.out (implAggKind_any q kk _)).mono ?_
          rintro e _ ⟨rfl, rfl⟩
          go_wp2
          go_ret
          exact ⟨ret_bool (tf_yes H.out), hb⟩
        · have H3 := Lib.hid ((tf_no h3).symm)
          have H := Lib.hid (show ¬ queryOk fs ms k s t q kk from fun h => h3 h.2.2.2)
          clear h0 h1 h2 h3
          go_enter Try.func19, Try.ntmps19
          go_wp2_with fail
          refine (as_bool H0.out (HF.out _ hb)).mono ?_
          clear a0 a1 a2 a3 a4 a5 a6
          rintro e w1 ⟨rfl, hb1⟩
          replace o1 := o1.grow hb1
          replace hb := below_trans hb hb1
          clear hb1
          obtain ⟨a0, a1, a2, a3, a4, a5, a6⟩ := o1.seven
          go_wp2_with fail
          refine (as_bool H1.out (HM.out _ hb)).mono ?_
          clear a0 a1 a2 a3 a4 a5 a6
          rintro e w2 ⟨rfl, hb1⟩
          replace o1 := o1.grow hb1
          replace hb := below_trans hb hb1
          clear hb1
          obtain ⟨a0, a1, a2, a3, a4, a5, a6⟩ := o1.seven
          go_wp2_with fail
          refine (as_bool H2.out (queryWinOk_any k s t _)).mono ?_
          clear a0 a1 a2 a3 a4 a5 a6
          rintro e w3 ⟨rfl, hb1⟩
          replace o1 := o1.grow hb1
          replace hb := below_trans hb hb1
          clear hb1
          obtain ⟨a0, a1, a2, a3, a4, a5, a6⟩ := o1.seven
          go_wp2_with fail
          refine (as_bool (R := fun w' => _ = w') H3.out (implAggKind_any q kk _)).mono ?_
          rintro e _ ⟨rfl, rfl⟩
          go_wp2
          go_ret
          exact ⟨ret_bool (tf_no H.out), hb⟩
      · have H2 := Lib.hid ((tf_no h2).symm)
        have H := Lib.hid (show ¬ queryOk fs ms k s t q kk from fun h => h2 h.2.2.1)
        clear h0 h1 h2
        go_enter Try.func19, Try.ntmps19
        go_wp2_with fail
        refine (as_bool H0.out (HF.out _ hb)).mono ?_
        clear a0 a1 a2 a3 a4 a5 a6
        rintro e w1 ⟨rfl, hb1⟩
        replace o1 := o1.grow hb1
        replace hb := below_trans hb hb1
        clear hb1
        obtain ⟨a0, a1, a2, a3, a4, a5, a6⟩ := o1.seven
        go_wp2_with fail
        refine (as_bool H1.out (HM.out _ hb)).mono ?_
        clear a0 a1 a2 a3 a4 a5 a6
        rintro e w2 ⟨rfl, hb1⟩
        replace o1 := o1.grow hb1
        replace hb := below_trans hb hb1
        clear hb1
        obtain ⟨a0, a1, a2, a3, a4, a5, a6⟩ := o1.seven
        go_wp2_with fail
        refine (as_bool H2.out (queryWinOk_any k s t _)).mono ?_
        clear a0 a1 a2 a3 a4 a5 a6
        rintro e w3 ⟨rfl, hb1⟩
        replace o1 := o1.grow hb1
        replace hb := below_trans hb hb1
        clear hb1
        obtain ⟨a0, a1, a2, a3, a4, a5, a6⟩ := o1.seven
        go_wp2
        go_ret
        exact ⟨ret_bool (tf_no H.out), hb⟩
    · have H1 := Lib.hid (decide_eq_false h1)
      have H := Lib.hid (show ¬ queryOk fs ms k s t q kk from fun h => h1 h.2.1)
      clear h0 h1
      go_enter Try.func19, Try.ntmps19
      go_wp2_with fail
      refine (as_bool H0.out (HF.out _ hb)).mono ?_
      clear a0 a1 a2 a3 a4 a5 a6
      rintro e w1 ⟨rfl, hb1⟩
      replace o1 := o1.grow hb1
      replace hb := below_trans hb hb1
      clear hb1
      obtain ⟨a0, a1, a2, a3, a4, a5, a6⟩ := o1.seven
      go_wp2_with fail
      refine (as_bool H1.out (HM.out _ hb)).mono ?_
      clear a0 a1 a2 a3 a4 a5 a6
      rintro e w2 ⟨rfl, hb1⟩
      replace o1 := o1.grow hb1
      replace hb := below_trans hb hb1
      clear hb1
      obtain ⟨a0, a1, a2, a3, a4, a5, a6⟩ := o1.seven
      go_wp2
      go_ret
      exact ⟨ret_bool (tf_no H.out), hb⟩
  · have H0 := Lib.hid (decide_eq_false h0)
    have H := Lib.hid (show ¬ queryOk fs ms k s t q kk from fun h => h0 h.1)
    clear h0
    go_enter Try.func19, Try.ntmps19
    go_wp2_with fail
    refine (as_bool H0.out (HF.out _ hb)).mono ?_
    clear a0 a1 a2 a3 a4 a5 a6
    rintro e w1 ⟨rfl, hb1⟩
    replace o1 := o1.grow hb1
    replace hb := below_trans hb hb1
    clear hb1
    obtain ⟨a0, a1, a2, a3, a4, a5, a6⟩ := o1.seven
    go_wp2
    go_ret
    exact ⟨ret_bool (tf_no H.out), hb⟩
end Go.Proofs.Ytlmlckgnmkjkdaa

/-
  Sources and keys: the small functions of the model and of the program.
-/
namespace Go.Proofs.Ytlmlckgnmkjkdaa
open Go.RowKit

set_option maxHeartbeats 400000 in
theorem l04Src_any (a : Int) (w : World) :
    Calls Try.prog 65 #[.int .i64 a] w fun e w' => e = .returned (.bool (decide (0 ≤ a) && decide (a < 4))) ∧ w = w' := by
  go_enter Try.func65, Try.ntmps65
  go_wp2
  all_goals (go_ret; refine ⟨ret_bool ?_, rfl⟩; simp [*]; try omega)
set_option maxHeartbeats 400000 in
theorem l04Key_any (a : Int) (w : World) :
    Calls Try.prog 66 #[.int .i64 a] w fun e w' => e = .returned (.bool (decide (0 ≤ a) && decide (a ≤ 15))) ∧ w = w' := by
  go_enter Try.func66, Try.ntmps66
  go_wp2
  all_goals (go_ret; refine ⟨ret_bool ?_, rfl⟩; simp [*]; try omega)
theorem l04Src_is {a : Int} {b : Bool} (h : decide (0 ≤ a ∧ a < 4) = b) (w : World) : Calls Try.prog 65 #[.int .i64 a] w fun e w' => e = .returned (.bool b) ∧ w = w' :=
  as_bool (R := fun w' => w = w') (by rw [← h]; simp) (l04Src_any a w)
theorem l04Key_is {a : Int} {b : Bool} (h : decide (0 ≤ a ∧ a ≤ 15) = b) (w : World) : Calls Try.prog 66 #[.int .i64 a] w fun e w' => e = .returned (.bool b) ∧ w = w' :=
  as_bool (R := fun w' => w = w') (by rw [← h]; simp) (l04Key_any a w)
set_option maxHeartbeats 400000 in
theorem isSource_any (a : Int) (w : World) :
    Calls Try.prog 68 #[.int .i64 a] w fun e w' => e = .returned (.bool (decide (0 ≤ a) && decide (a < 4))) ∧ w = w' := by
  go_enter Try.func68, Try.ntmps68
  go_wp2
  all_goals (go_ret; refine ⟨ret_bool ?_, rfl⟩; simp [*]; try omega)
set_option maxHeartbeats 400000 in
theorem isKey_any (a : Int) (w : World) :
    Calls Try.prog 69 #[.int .i64 a] w fun e w' => e = .returned (.bool (decide (0 ≤ a) && decide (a ≤ 15))) ∧ w = w' := by
  go_enter Try.func69, Try.ntmps69
  go_wp2
  all_goals (go_ret; refine ⟨ret_bool ?_, rfl⟩; simp [*]; try omega)
theorem isSource_is {a : Int} {b : Bool} (h : decide (0 ≤ a ∧ a < 4) = b) (w : World) : Calls Try.prog 68 #[.int .i64 a] w fun e w' => e = .returned (.bool b) ∧ w = w' :=
  as_bool (R := fun w' => w = w') (by rw [← h]; simp) (isSource_any a w)
theorem isKey_is {a : Int} {b : Bool} (h : decide (0 ≤ a ∧ a ≤ 15) = b) (w : World) : Calls Try.prog 69 #[.int .i64 a] w fun e w' => e = .returned (.bool b) ∧ w = w' :=
  as_bool (R := fun w' => w = w') (by rw [← h]; simp) (isKey_any a w)
end Go.Proofs.Ytlmlckgnmkjkdaa

/-
  cmp.Or on ints.
-/
namespace Go.Proofs.Ytlmlckgnmkjkdaa
open Go.RowKit

/-- the first that is not 0 -/
def orOf : List Int → Int
  | [] => 0
  | z :: zs => if z = 0 then orOf zs else z
theorem orOf_step {zs : List Int} {k : Nat} (h : k < zs.length) : orOf (zs.drop k) = if zs.getD k 0 = 0 then orOf (zs.drop (k + 1)) else zs.getD k 0 := by
  rw [List.drop_eq_getElem_cons h]
  simp [orOf, h]

set_option maxHeartbeats 400000 in
theorem cmpOr_any (A : Option Addr) (ca : Nat) (zs : List Int) (w : World) (hA : Rd w A (iz zs)) (hn : zs.length ≤ 1048576) :
    Calls Try.prog 52 #[.slice A zs.length ca] w fun e w' => e = .returned (.int .i64 (orOf zs)) ∧ w = w' := by
  go_enter Try.func52, Try.ntmps52
  go_wp2
  go_loop [8] (fun i => ∃ k : Nat, k ≤ zs.length ∧ i = .int .i64 k ∧ orOf zs = orOf (zs.drop k)) (fun i => zs.length - (intOf i).toNat)
  case atStart => exact ⟨0, Nat.zero_le _, rfl, rfl⟩
  case round =>
    obtain ⟨k, hk, rfl, ho⟩ := hrel
    by_cases hlt : k < zs.length
    · obtain ⟨ad, rfl, hb, hc⟩ := hA k _ (iz_at hlt)
      have HS := Lib.hid (orOf_step hlt)
      generalize zs.getD k 0 = z at *
      by_cases hz : z = 0
      · have tz : (z != 0) = false := by simp [hz]
        have HO := Lib.hid (show orOf zs = orOf (zs.drop (k + 1)) by rw [ho, HS.out, if_pos hz])
        clear ho HS hz
        go_wp2
        go_round
        case rel => exact ⟨k + 1, by omega, by go_num, HO.out⟩
        case measure => simp [intOf]; omega
      · have tz : (z != 0) = true := by simpa using hz
        have HO := Lib.hid (show z = orOf zs by rw [ho, HS.out, if_neg hz])
        clear ho HS hz
        go_wp2
        go_ret
        exact ⟨ret_int HO.out, rfl⟩
    · have hkn : k = zs.length := by omega
      subst hkn
      have HO := Lib.hid (show 0 = orOf zs by rw [ho]; simp [orOf])
      clear ho
      go_wp2
      go_ret
      exact ⟨ret_int HO.out, rfl⟩

theorem cmpI_zero {x y : Int} : cmpI x y = 0 ↔ x = y := by unfold cmpI; split; omega; split <;> omega
theorem cmpI_neg {x y : Int} : cmpI x y < 0 ↔ x < y := by unfold cmpI; split; omega; split <;> omega
end Go.Proofs.Ytlmlckgnmkjkdaa

/-
  ElemOk, the model's and the program's: what they return. WRITTEN BY tools/genpane.py.
-/
namespace Go.Proofs.Ytlmlckgnmkjkdaa
open Go.RowKit

theorem Own.fourth {w : World} {g : Nat} {t : TypeId} {c0 c1 c2 c3 : Value} (h : Own w g t [c0, c1, c2, c3]) : w.cell? ⟨g, 0, none⟩ = some c0 ∧ w.cell? ⟨g, 1, none⟩ = some c1 ∧ w.cell? ⟨g, 2, none⟩ = some c2 ∧ w.cell? ⟨g, 3, none⟩ = some c3 :=
  ⟨h.cell 0, h.cell 1, h.cell 2, h.cell 3⟩
def elemOk (s k t : Int) : Prop := (0 ≤ s ∧ s < 4) ∧ (0 ≤ k ∧ k ≤ 15) ∧ isT t
abbrev elv (s k v t : Int) : Value := .agg #[.int .i64 s, .int .i64 k, .int .i64 v, .int .i64 t]

set_option maxHeartbeats 1000000 in
theorem specElemOk_any (s k v t : Int) (w : World) :
    Calls Try.prog 21 #[elv s k v t] w fun e w' => e = .returned (.bool (tf (elemOk s k t))) ∧ Below w.heap.size w w' := by
  have o1 := Own.new w 49 [.int .i64 s, .int .i64 k, .int .i64 v, .int .i64 t]
  have hb := below_alloc w (.cells #[.int .i64 s, .int .i64 k, .int .i64 v, .int .i64 t] 49)
  obtain ⟨c0, c1, c2, c3⟩ := o1.fourth
  clear o1
  by_cases h1 : 0 ≤ s ∧ s < 4
  · have H1 := Lib.hid (decide_eq_true h1)
    by_cases h2 : 0 ≤ k ∧ k ≤ 15
    · have H2 := Lib.hid (decide_eq_true h2)
      by_cases h3 : isT t
      · have H3 := Lib.hid (tf_yes h3).symm
        have H := Lib.hid (show elemOk s k t from ⟨h1, h2, h3⟩)
        clear h1 h2 h3
        go_enter Try.func21, Try.ntmps21
        go_wp2_with (first | (go_at_call 65; refine (l04Src_is H1.out _).mono ?_; rintro e w' ⟨rfl, rfl⟩) | (go_at_call 66; refine (l04Key_is H2.out _).mono ?_; rintro e w' ⟨rfl, rfl⟩) | (go_at_call 67; refine (as_bool (R := fun w' => _ = w') H3.out (l05Time_any t _)).mono ?_; rintro e w' ⟨rfl, rfl⟩))
        go_ret
        exact ⟨ret_bool (tf_yes H.out), hb⟩
      · have H3 := Lib.hid (tf_no h3).symm
        have H := Lib.hid (show ¬ elemOk s k t from fun h => h3 h.2.2)
        clear h1 h2 h3
        go_enter Try.func21, Try.ntmps21
        go_wp2_with (first | (go_at_call 65; refine (l04Src_is H1.out _).mono ?_; rintro e w' ⟨rfl, rfl⟩) | (go_at_call 66; refine (l04Key_is H2.out _).mono ?_; rintro e w' ⟨rfl, rfl⟩) | (go_at_call 67; refine (as_bool (R := fun w' => _ = w') H3.out (l05Time_any t _)).mono ?_; rintro e w' ⟨rfl, rfl⟩))
        go_ret
        exact ⟨ret_bool (tf_no H.out), hb⟩
    · have H2 := Lib.hid (decide_eq_false h2)
      have H := Lib.hid (show ¬ elemOk s k t from fun h => h2 h.2.1)
      clear h1 h2
      go_enter Try.func21, Try.ntmps21
      go_wp2_with (first | (go_at_call 65; refine (l04Src_is H1.out _).mono ?_; rintro e w' ⟨rfl, rfl⟩) | (go_at_call 66; refine (l04Key_is H2.out _).mono ?_; rintro e w' ⟨rfl, rfl⟩))
      go_ret
      exact ⟨ret_bool (tf_no H.out), hb⟩
  · have H1 := Lib.hid (decide_eq_false h1)
    have H := Lib.hid (show ¬ elemOk s k t from fun h => h1 h.1)
    clear h1
    go_enter Try.func21, Try.ntmps21
    go_wp2_with (go_at_call 65; refine (l04Src_is H1.out _).mono ?_; rintro e w' ⟨rfl, rfl⟩)
    go_ret
    exact ⟨ret_bool (tf_no H.out), hb⟩

set_option maxHeartbeats 1000000 in
theorem implElemOk_any (s k v t : Int) (w : World) :
    Calls Try.prog 23 #[elv s k v t] w fun e w' => e = .returned (.bool (tf (elemOk s k t))) ∧ Below w.heap.size w w' := by
  have o1 := Own.new w 49 [.int .i64 s, .int .i64 k, .int .i64 v, .int .i64 t]
  have hb := below_alloc w (.cells #[.int .i64 s, .int .i64 k, .int .i64 v, .int .i64 t] 49)
  obtain ⟨c0, c1, c2, c3⟩ := o1.fourth
  clear o1
  by_cases h1 : 0 ≤ s ∧ s < 4
  · have H1 := Lib.hid (decide_eq_true h1)
    by_cases h2 : 0 ≤ k ∧ k ≤ 15
    · have H2 := Lib.hid (decide_eq_true h2)
      by_cases h3 : isT t
      · have H3 := Lib.hid (tf_yes h3).symm
        have H := Lib.hid (show elemOk s k t from ⟨h1, h2, h3⟩)
        clear h1 h2 h3
        go_enter Try.func23, Try.ntmps23
        go_wp2_with (first | (go_at_call 68; refine (isSource_is H1.out _).mono ?_; rintro e w' ⟨rfl, rfl⟩) | (go_at_call 69; refine (isKey_is H2.out _).mono ?_; rintro e w' ⟨rfl, rfl⟩) | (go_at_call 70; refine (as_bool (R := fun w' => _ = w') H3.out (isTime_any t _)).mono ?_; rintro e w' ⟨rfl, rfl⟩))
        go_ret
        exact ⟨ret_bool (tf_yes H.out), hb⟩
      · have H3 := Lib.hid (tf_no h3).symm
        have H := Lib.hid (show ¬ elemOk s k t from fun h => h3 h.2.2)
        clear h1 h2 h3
        go_enter Try.func23, Try.ntmps23
        go_wp2_with (first | (go_at_call 68; refine (isSource_is H1.out _).mono ?_; rintro e w' ⟨rfl, rfl⟩) | (go_at_call 69; refine (isKey_is H2.out _).mono ?_; rintro e w' ⟨rfl, rfl⟩) | (go_at_call 70; refine (as_bool (R := fun w' => _ = w') H3.out (isTime_any t _)).mono ?_; rintro e w' ⟨rfl, rfl⟩))
        go_ret
        exact ⟨ret_bool (tf_no H.out), hb⟩
    · have H2 := Lib.hid (decide_eq_false h2)
      have H := Lib.hid (show ¬ elemOk s k t from fun h => h2 h.2.1)
      clear h1 h2
      go_enter Try.func23, Try.ntmps23
      go_wp2_with (first | (go_at_call 68; refine (isSource_is H1.out _).mono ?_; rintro e w' ⟨rfl, rfl⟩) | (go_at_call 69; refine (isKey_is H2.out _).mono ?_; rintro e w' ⟨rfl, rfl⟩))
      go_ret
      exact ⟨ret_bool (tf_no H.out), hb⟩
  · have H1 := Lib.hid (decide_eq_false h1)
    have H := Lib.hid (show ¬ elemOk s k t from fun h => h1 h.1)
    clear h1
    go_enter Try.func23, Try.ntmps23
    go_wp2_with (go_at_call 68; refine (isSource_is H1.out _).mono ?_; rintro e w' ⟨rfl, rfl⟩)
    go_ret
    exact ⟨ret_bool (tf_no H.out), hb⟩
end Go.Proofs.Ytlmlckgnmkjkdaa

/-
  PaneLess, the model's and the program's: what they return. WRITTEN BY tools/genpane.py.
-/
namespace Go.Proofs.Ytlmlckgnmkjkdaa
open Go.RowKit

/-- a pane as a value, and as cells -/
abbrev pav (q k f t l n : Int) (v : Value) (o : Bool) : Value := .agg #[.int .i64 q, .int .i64 k, .int .i64 f, .int .i64 t, .int .i64 l, .int .i64 n, v, .bool o]
abbrev pac (q k f t l n : Int) (v : Value) (o : Bool) : List Value := [.int .i64 q, .int .i64 k, .int .i64 f, .int .i64 t, .int .i64 l, .int .i64 n, v, .bool o]
theorem Own.eight {w : World} {g : Nat} {t : TypeId} {c0 c1 c2 c3 c4 c5 c6 c7 : Value} (h : Own w g t [c0, c1, c2, c3, c4, c5, c6, c7]) :
    w.cell? ⟨g, 0, none⟩ = some c0 ∧ w.cell? ⟨g, 1, none⟩ = some c1 ∧ w.cell? ⟨g, 2, none⟩ = some c2 ∧ w.cell? ⟨g, 3, none⟩ = some c3 ∧ w.cell? ⟨g, 4, none⟩ = some c4 ∧ w.cell? ⟨g, 5, none⟩ = some c5 ∧ w.cell? ⟨g, 6, none⟩ = some c6 ∧ w.cell? ⟨g, 7, none⟩ = some c7 :=
  ⟨h.cell 0, h.cell 1, h.cell 2, h.cell 3, h.cell 4, h.cell 5, h.cell 6, h.cell 7⟩
def plt (q k f t q' k' f' t' : Int) : Prop := q < q' ∨ q = q' ∧ (k < k' ∨ k = k' ∧ (f < f' ∨ f = f' ∧ t < t'))
theorem dec_tf {p q : Prop} [Decidable p] (h : p ↔ q) : decide p = tf q := by
  by_cases hp : p
  · rw [decide_eq_true hp]; exact tf_yes (h.1 hp)
  · rw [decide_eq_false hp]; exact tf_no (fun x => hp (h.2 x))
theorem boxes_two {w : World} {cs ds : List Value} {t s : TypeId} :
    Own ((w.alloc (.cells cs.toArray t)).alloc (.cells ds.toArray s)) w.heap.size t cs ∧ Own ((w.alloc (.cells cs.toArray t)).alloc (.cells ds.toArray s)) (w.heap.size + 1) s ds ∧ Below w.heap.size w ((w.alloc (.cells cs.toArray t)).alloc (.cells ds.toArray s)) :=
  ⟨(Own.new w t cs).alloc _, new_second w _ s ds, below_trans (below_alloc _ _) (below_alloc _ _)⟩

set_option maxHeartbeats 1000000 in
theorem specPaneLess_any (q k f t l n : Int) (v : Value) (o : Bool) (q' k' f' t' l' n' : Int) (v' : Value) (o' : Bool) (w : World) :
    Calls Try.prog 29 #[pav q k f t l n v o, pav q' k' f' t' l' n' v' o'] w fun e w' => e = .returned (.bool (tf (plt q k f t q' k' f' t'))) ∧ Below w.heap.size w w' := by
  obtain ⟨o1, o2, hb⟩ := boxes_two (w := w) (cs := pac q k f t l n v o) (ds := pac q' k' f' t' l' n' v' o') (t := 31) (s := 31)
  obtain ⟨a0, a1, a2, a3, -, -, -, -⟩ := o1.eight
  obtain ⟨b0, b1, b2, b3, -, -, -, -⟩ := o2.eight
  clear o1 o2
  by_cases h0 : q = q'
  · subst h0
    have t0 : (q != q) = false := by simp
    by_cases h1 : k = k'
    · subst h1
      have t1 : (k != k) = false := by simp
      by_cases h2 : f = f'
      · subst h2
        have t2 : (f != f) = false := by simp
        have H := Lib.hid (dec_tf (show t < t' ↔ plt q k f t q k f t' by unfold plt; omega))
        go_enter Try.func29, Try.ntmps29
        go_wp2
        go_ret
        exact ⟨ret_bool H.out, hb⟩
      · have t2 : (f != f') = true := by simpa using h2
        have H := Lib.hid (dec_tf (show f < f' ↔ plt q k f t q k f' t' by unfold plt; omega))
        clear h2
        go_enter Try.func29, Try.ntmps29
        go_wp2
        go_ret
        exact ⟨ret_bool H.out, hb⟩
    · have t1 : (k != k') = true := by simpa using h1
      have H := Lib.hid (dec_tf (show k < k' ↔ plt q k f t q k' f' t' by unfold plt; omega))
      clear h1
      go_enter Try.func29, Try.ntmps29
      go_wp2
      go_ret
      exact ⟨ret_bool H.out, hb⟩
  · have t0 : (q != q') = true := by simpa using h0
    have H := Lib.hid (dec_tf (show q < q' ↔ plt q k f t q' k' f' t' by unfold plt; omega))
    clear h0
    go_enter Try.func29, Try.ntmps29
    go_wp2
    go_ret
    exact ⟨ret_bool H.out, hb⟩

theorem or_neg {q k f t q' k' f' t' : Int} : orOf [cmpI q q', cmpI k k', cmpI f f', cmpI t t'] < 0 ↔ plt q k f t q' k' f' t' := by
  unfold orOf orOf orOf orOf orOf
  have h0 := @cmpI_zero q q'
  have h1 := @cmpI_zero k k'
  have h2 := @cmpI_zero f f'
  have h3 := @cmpI_zero t t'
  have n0 := @cmpI_neg q q'
  have n1 := @cmpI_neg k k'
  have n2 := @cmpI_neg f f'
  have n3 := @cmpI_neg t t'
  unfold plt
  split
  · split
    · split
      · split <;> omega
      · omega
    · omega
  · omega
theorem rd_four {W : World} {x y z u : Int} (t : TypeId) : Rd (W.alloc (.cells #[.int .i64 x, .int .i64 y, .int .i64 z, .int .i64 u] t)) (some ⟨W.heap.size, 0, none⟩) (iz [x, y, z, u]) :=
  (Own.new W t (iz [x, y, z, u])).rd
theorem cmpOr_four {W : World} {g : Nat} {x y z u : Int} (hR : Rd W (some ⟨g, 0, none⟩) (iz [x, y, z, u])) :
    Calls Try.prog 52 #[.slice (some ⟨g, 0, none⟩) 4 4] W fun e w' => e = .returned (.int .i64 (orOf [x, y, z, u])) ∧ W = w' :=
  cmpOr_any (some ⟨g, 0, none⟩) 4 [x, y, z, u] W hR (by simp)

set_option maxRecDepth 100000 in
set_option maxHeartbeats 2000000 in
theorem implPaneLess_any (q k f t l n : Int) (v : Value) (o : Bool) (q' k' f' t' l' n' : Int) (v' : Value) (o' : Bool) (w : World) :
    Calls Try.prog 15 #[pav q k f t l n v o, pav q' k' f' t' l' n' v' o'] w fun e w' => e = .returned (.bool (tf (plt q k f t q' k' f' t'))) ∧ Below w.heap.size w w' := by
  obtain ⟨o1, o2, hb⟩ := boxes_two (w := w) (cs := pac q k f t l n v o) (ds := pac q' k' f' t' l' n' v' o') (t := 31) (s := 31)
  have O1 := fun u : Bel ((w.alloc (.cells (pac q k f t l n v o).toArray 31)).alloc (.cells (pac q' k' f' t' l' n' v' o').toArray 31)) => (o1.grow u.ok).eight
  have O2 := fun u : Bel ((w.alloc (.cells (pac q k f t l n v o).toArray 31)).alloc (.cells (pac q' k' f' t' l' n' v' o').toArray 31)) => (o2.grow u.ok).eight
  have a0 := fun u => (O1 u).1
  have a1 := fun u => (O1 u).2.1
  have a2 := fun u => (O1 u).2.2.1
  have a3 := fun u => (O1 u).2.2.2.1
  have b0 := fun u => (O2 u).1
  have b1 := fun u => (O2 u).2.1
  have b2 := fun u => (O2 u).2.2.1
  have b3 := fun u => (O2 u).2.2.2.1
  clear O1 O2 o1 o2
  obtain ⟨z, hz⟩ : ∃ z, z = orOf [cmpI q q', cmpI k k', cmpI f f', cmpI t t'] := ⟨_, rfl⟩
  have HZ := Lib.hid hz.symm
  have H := Lib.hid (dec_tf (show z < 0 ↔ plt q k f t q' k' f' t' by rw [hz]; exact or_neg))
  clear hz
  have HC := Lib.hid (fun x y W => compare_any x y W)
  go_enter Try.func15, Try.ntmps15
  go_wp2
  refine wp_region_belt 20 (by kernel_rfl) (by kernel_rfl) ?_
  simp only [List.take_succ_cons, List.take_zero, List.drop_succ_cons, List.drop_zero]
  repeat (go_big_quiet_step ((go_at_call 53; exact bel_of_same _ (HC.out _ _ _))))
  refine wpQuiet_nil ?_
  rintro _ ⟨u, rfl⟩
  clear a0 a1 a2 a3 b0 b1 b2 b3
  have hb2 := below_trans hb u.ok
  go_wp2_with (go_at_call 52; refine (as_int HZ.out (cmpOr_four (rd_four 3))).mono ?_; rintro e w' ⟨rfl, rfl⟩)
  go_ret
  exact ⟨ret_bool H.out, below_trans hb2 (below_alloc _ _)⟩
end Go.Proofs.Ytlmlckgnmkjkdaa

/-
  SessOk, the model's and the program's: what they return.
-/
namespace Go.Proofs.Ytlmlckgnmkjkdaa
open Go.RowKit

theorem l06Win_is {a b : Int} {B : Bool} (h : tf (winOk (a, b)) = B) (w : World) :
    Calls Try.prog 72 #[.agg #[.int .i64 a, .int .i64 b]] w fun e w' => e = .returned (.bool B) ∧ Below w.heap.size w w' := as_bool h (l06Win_any a b w)
theorem isWin_is {a b : Int} {B : Bool} (h : tf (winOk (a, b)) = B) (w : World) :
    Calls Try.prog 75 #[.agg #[.int .i64 a, .int .i64 b]] w fun e w' => e = .returned (.bool B) ∧ Below w.heap.size w w' := as_bool h (isWin_any a b w)
/-- the cells of window k, in every world grown from wr -/
theorem win_cells {w wr : World} {A : Option Addr} {ws : List Wn} (h : Rd w A (ez ws)) (hbel : Below w.heap.size w wr) {k : Nat} (hk : k < ws.length) :
    ∃ b off, A = some ⟨b, off, none⟩ ∧ (∀ u : Bel wr, u.w.cell? ⟨b, off + k * 2, none⟩ = some (.int .i64 (wat ws k).1)) ∧ (∀ u : Bel wr, u.w.cell? ⟨b, off + k * 2 + 1, none⟩ = some (.int .i64 (wat ws k).2)) := by
  obtain ⟨b, off, rfl, hc⟩ := h.edge hk
  exact ⟨b, off, rfl, fun u => (hc _ (below_trans hbel u.ok)).1, fun u => (hc _ (below_trans hbel u.ok)).2⟩
theorem box_win {wr : World} {a b : Int} {t : TypeId} (u : Bel (wr.alloc (.cells #[.int .i64 a, .int .i64 b] t))) : u.w.cell? ⟨wr.heap.size, 0, none⟩ = some (.int .i64 a) ∧ u.w.cell? ⟨wr.heap.size, 1, none⟩ = some (.int .i64 b) :=
  ((Own.new wr t [.int .i64 a, .int .i64 b]).grow u.ok).two

end Go.Proofs.Ytlmlckgnmkjkdaa

/-
  What the small functions of the lattice layer return: bits, labels, equality of rows.
-/
namespace Go.Proofs.Ytlmlckgnmkjkdaa
open Go.RowKit

theorem bit_of (x a : Nat) (hx : x < 18446744073709551616) : (bits .and .u64 ((x : Int) / 2 ^ a) 1 == 1) = x.testBit a := by
  have e1 : ((x : Int) / 2 ^ a) = ((x / 2 ^ a : Nat) : Int) := by
    rw [Int.natCast_ediv]; simp
  have hlt : x / 2 ^ a < 18446744073709551616 := Nat.lt_of_le_of_lt (Nat.div_le_self _ _) hx
  have e2 : bits .and .u64 ((x / 2 ^ a : Nat) : Int) ((1 : Nat) : Int) = ((x / 2 ^ a &&& 1 : Nat) : Int) := u64_and_nat _ _ hlt (by omega)
  rw [e1]
  rw [show (1 : Int) = ((1 : Nat) : Int) from rfl, e2, Nat.testBit, Nat.shiftRight_eq_div_pow, Nat.and_one_is_mod, Nat.one_and_eq_mod_two]
  rcases Nat.mod_two_eq_zero_or_one (x / 2 ^ a) with h | h <;> rw [h] <;> decide

theorem pow_wrap (a : Nat) (ha : a < 64) : IntKind.u64.wrap (2 ^ a) = ((2 ^ a : Nat) : Int) := by
  have h : 2 ^ a < 2 ^ 64 := Nat.pow_lt_pow_right (by omega) ha
  rw [show ((2 : Int) ^ a) = ((2 ^ a : Nat) : Int) by simp]
  generalize 2 ^ a = n at *
  simp only [IntKind.wrap, IntKind.bits, IntKind.signed]
  simp
  omega

set_option maxHeartbeats 400000 in
theorem isLabel_any (n a : Int) (w : World) :
    Calls Try.prog 76 #[.int .i64 n, .int .i64 a] w fun e w' => e = .returned (.bool (decide (0 ≤ a) && decide (a < n))) ∧ w = w' := by
  go_enter Try.func76, Try.ntmps76
  go_wp2
  all_goals (go_ret; refine ⟨ret_bool ?_, rfl⟩; simp [*]; try omega)

theorem sub_wrap (m : Nat) (h0 : 0 < m) (h : m < 18446744073709551616) : IntKind.u64.wrap ((m : Int) - 1) = ((m - 1 : Nat) : Int) := by
  simp only [IntKind.wrap, IntKind.bits, IntKind.signed]
  simp
  omega

end Go.Proofs.Ytlmlckgnmkjkdaa

/-
  PaneOk, the model's and the program's: what they return. WRITTEN BY tools/genpane.py.
-/
namespace Go.Proofs.Ytlmlckgnmkjkdaa
open Go.RowKit

def paneOk (q k f t l n : Int) (m : Nat) (o : Bool) : Prop := (0 ≤ q ∧ q < 4) ∧ (0 ≤ k ∧ k ≤ 15) ∧ winOk (f, t) ∧ (0 ≤ l ∧ l < 16) ∧ (1 ≤ n ∧ n ≤ 1000000) ∧ m ≤ 4 ∧ o = decide (m = 0)
theorem isLabel_dec {a : Int} {b : Bool} (h : decide (0 ≤ a ∧ a < 16) = b) (w : World) : Calls Try.prog 76 #[.int .i64 16, .int .i64 a] w fun e w' => e = .returned (.bool b) ∧ w = w' :=
  as_bool (R := fun w' => w = w') (by rw [← h]; simp) (isLabel_any 16 a w)
set_option maxHeartbeats 400000 in
theorem isQuery_any (a : Int) (w : World) :
    Calls Try.prog 74 #[.int .i64 a] w fun e w' => e = .returned (.bool (decide (0 ≤ a) && decide (a < 4))) ∧ w = w' := by
  go_enter Try.func74, Try.ntmps74
  go_wp2
  all_goals (go_ret; refine ⟨ret_bool ?_, rfl⟩; simp [*]; try omega)
theorem isQuery_is {a : Int} {b : Bool} (h : decide (0 ≤ a ∧ a < 4) = b) (w : World) : Calls Try.prog 74 #[.int .i64 a] w fun e w' => e = .returned (.bool b) ∧ w = w' :=
  as_bool (R := fun w' => w = w') (by rw [← h]; simp) (isQuery_any a w)

set_option maxHeartbeats 4000000 in
theorem specPaneOk_any (q k f t l n : Int) (A : Option Addr) (m c : Nat) (o : Bool) (w : World) (hm : m ≤ 9223372036854775807) :
    Calls Try.prog 25 #[pav q k f t l n (.slice A m c) o] w fun e w' => e = .returned (.bool (tf (paneOk q k f t l n m o))) ∧ Below w.heap.size w w' := by
  have o1 := Own.new w 31 (pac q k f t l n (.slice A m c) o)
  have hb := below_alloc w (.cells (pac q k f t l n (.slice A m c) o).toArray 31)
  obtain ⟨a0, a1, a2, a3, a4, a5, a6, a7⟩ := o1.eight
  have HM := Lib.hid hm
  clear hm
  by_cases h0 : 0 ≤ q
  · skip
    by_cases h1 : q < 4
    · skip
      by_cases h2 : 0 ≤ k ∧ k ≤ 15
      · have H2 := Lib.hid (decide_eq_true h2)
        by_cases h3 : winOk (f, t)
        · have H3 := Lib.hid ((tf_yes h3).symm)
          by_cases h4 : 0 ≤ l
          · skip
            by_cases h5 : l < 16
            · skip
              by_cases h6 : 1 ≤ n
              · skip
                by_cases h7 : n ≤ 1000000
                · skip
                  by_cases h8 : m ≤ 4
                  · skip
                    have HP := Lib.hid (And.intro (show (0 ≤ q ∧ q < 4) ∧ (0 ≤ k ∧ k ≤ 15) from by omega) (And.intro h3 (show (0 ≤ l ∧ l < 16) ∧ (1 ≤ n ∧ n ≤ 1000000) ∧ m ≤ 4 from by omega)))
                    clear h2 h3
                    by_cases e0 : m = 0
                    · subst e0
                      cases o with
                      | true =>
                        have H := Lib.hid (show paneOk q k f t l n 0 true from ⟨HP.out.1.1, HP.out.1.2, HP.out.2.1, HP.out.2.2.1, HP.out.2.2.2.1, HP.out.2.2.2.2, rfl⟩)
                        clear HP
                        go_enter Try.func25, Try.ntmps25
                        go_wp2_with (first | (go_at_call 66; refine (l04Key_is H2.out _).mono ?_; rintro e w' ⟨rfl, rfl⟩))
                        refine (l06Win_is H3.out _).mono ?_
                        clear a0 a1 a2 a3 a4 a5 a6 a7
                        rintro e w1 ⟨rfl, hb1⟩
                        replace hb := below_trans hb hb1
                        obtain ⟨a0, a1, a2, a3, a4, a5, a6, a7⟩ := (o1.grow hb1).eight
                        clear o1
                        go_wp2
                        go_ret
                        exact ⟨ret_bool (tf_yes H.out), hb⟩
                      | false =>
                        have H := Lib.hid (show ¬ paneOk q k f t l n 0 false from fun h => by have := h.2.2.2.2.2.2; simp at this)
                        clear HP
                        go_enter Try.func25, Try.ntmps25
                        go_wp2_with (first | (go_at_call 66; refine (l04Key_is H2.out _).mono ?_; rintro e w' ⟨rfl, rfl⟩))
                        refine (l06Win_is H3.out _).mono ?_
                        clear a0 a1 a2 a3 a4 a5 a6 a7
                        rintro e w1 ⟨rfl, hb1⟩
                        replace hb := below_trans hb hb1
                        obtain ⟨a0, a1, a2, a3, a4, a5, a6, a7⟩ := (o1.grow hb1).eight
                        clear o1
                        go_wp2
                        go_ret
                        exact ⟨ret_bool (tf_no H.out), hb⟩
                    · have t0 : ((m : Int) == 0) = false := by simpa using e0
                      cases o with
                      | true =>
                        have H := Lib.hid (show ¬ paneOk q k f t l n m true from fun h => by have := h.2.2.2.2.2.2; simp [e0] at this)
                        clear HP e0
                        go_enter Try.func25, Try.ntmps25
                        go_wp2_with (first | (go_at_call 66; refine (l04Key_is H2.out _).mono ?_; rintro e w' ⟨rfl, rfl⟩))
                        refine (l06Win_is H3.out _).mono ?_
                        clear a0 a1 a2 a3 a4 a5 a6 a7
                        rintro e w1 ⟨rfl, hb1⟩
                        replace hb := below_trans hb hb1
                        obtain ⟨a0, a1, a2, a3, a4, a5, a6, a7⟩ := (o1.grow hb1).eight
                        clear o1
                        go_wp2
                        go_ret
                        exact ⟨ret_bool (tf_no H.out), hb⟩
                      | false =>
                        have H := Lib.hid (show paneOk q k f t l n m false from ⟨HP.out.1.1, HP.out.1.2, HP.out.2.1, HP.out.2.2.1, HP.out.2.2.2.1, HP.out.2.2.2.2, by simp [e0]⟩)
                        clear HP e0
                        go_enter Try.func25, Try.ntmps25
                        go_wp2_with (first | (go_at_call 66; refine (l04Key_is H2.out _).mono ?_; rintro e w' ⟨rfl, rfl⟩))
                        refine (l06Win_is H3.out _).mono ?_
                        clear a0 a1 a2 a3 a4 a5 a6 a7
                        rintro e w1 ⟨rfl, hb1⟩
                        replace hb := below_trans hb hb1
                        obtain ⟨a0, a1, a2, a3, a4, a5, a6, a7⟩ := (o1.grow hb1).eight
                        clear o1
                        go_wp2
                        go_ret
                        exact ⟨ret_bool (tf_yes H.out), hb⟩
                  · have H := Lib.hid (show ¬ paneOk q k f t l n m o from fun h => by unfold paneOk at h; omega)
                    clear h2 h3
                    go_enter Try.func25, Try.ntmps25
                    go_wp2_with (first | (go_at_call 66; refine (l04Key_is H2.out _).mono ?_; rintro e w' ⟨rfl, rfl⟩))
                    refine (l06Win_is H3.out _).mono ?_
                    clear a0 a1 a2 a3 a4 a5 a6 a7
                    rintro e w1 ⟨rfl, hb1⟩
                    replace hb := below_trans hb hb1
                    obtain ⟨a0, a1, a2, a3, a4, a5, a6, a7⟩ := (o1.grow hb1).eight
                    clear o1
                    go_wp2
                    go_ret
                    exact ⟨ret_bool (tf_no H.out), hb⟩
                · have H := Lib.hid (show ¬ paneOk q k f t l n m o from fun h => by unfold paneOk at h; omega)
                  clear h2 h3
                  go_enter Try.func25, Try.ntmps25
                  go_wp2_with (first | (go_at_call 66; refine (l04Key_is H2.out _).mono ?_; rintro e w' ⟨rfl, rfl⟩))
                  refine (l06Win_is H3.out _).mono ?_
                  clear a0 a1 a2 a3 a4 a5 a6 a7
                  rintro e w1 ⟨rfl, hb1⟩
                  replace hb := below_trans hb hb1
                  obtain ⟨a0, a1, a2, a3, a4, a5, a6, a7⟩ := (o1.grow hb1).eight
                  clear o1
                  go_wp2
                  go_ret
                  exact ⟨ret_bool (tf_no H.out), hb⟩
              · have H := Lib.hid (show ¬ paneOk q k f t l n m o from fun h => by unfold paneOk at h; omega)
                clear h2 h3
                go_enter Try.func25, Try.ntmps25
                go_wp2_with (first | (go_at_call 66; refine (l04Key_is H2.out _).mono ?_; rintro e w' ⟨rfl, rfl⟩))
                refine (l06Win_is H3.out _).mono ?_
                clear a0 a1 a2 a3 a4 a5 a6 a7
                rintro e w1 ⟨rfl, hb1⟩
                replace hb := below_trans hb hb1
                obtain ⟨a0, a1, a2, a3, a4, a5, a6, a7⟩ := (o1.grow hb1).eight
                clear o1
                go_wp2
                go_ret
                exact ⟨ret_bool (tf_no H.out), hb⟩
            · have H := Lib.hid (show ¬ paneOk q k f t l n m o from fun h => by unfold paneOk at h; omega)
              clear h2 h3
              go_enter Try.func25, Try.ntmps25
              go_wp2_with (first | (go_at_call 66; refine (l04Key_is H2.out _).mono ?_; rintro e w' ⟨rfl, rfl⟩))
              refine (l06Win_is H3.out _).mono ?_
              clear a0 a1 a2 a3 a4 a5 a6 a7
              rintro e w1 ⟨rfl, hb1⟩
              replace hb := below_trans hb hb1
              obtain ⟨a0, a1, a2, a3, a4, a5, a6, a7⟩ := (o1.grow hb1).eight
              clear o1
              go_wp2
              go_ret
              exact ⟨ret_bool (tf_no H.out), hb⟩
          · have H := Lib.hid (show ¬ paneOk q k f t l n m o from fun h => by unfold paneOk at h; omega)
            clear h2 h3
            go_enter Try.func25, Try.ntmps25
            go_wp2_with (first | (go_at_call 66; refine (l04Key_is H2.out _).mono ?_; rintro e w' ⟨rfl, rfl⟩))
            refine (l06Win_is H3.out _).mono ?_
            clear a0 a1 a2 a3 a4 a5 a6 a7
            rintro e w1 ⟨rfl, hb1⟩
            replace hb := below_trans hb hb1
            obtain ⟨a0, a1, a2, a3, a4, a5, a6, a7⟩ := (o1.grow hb1).eight
            clear o1
            go_wp2
            go_ret
            exact ⟨ret_bool (tf_no H.out), hb⟩
        · have H3 := Lib.hid ((tf_no h3).symm)
          have H := Lib.hid (show ¬ paneOk q k f t l n m o from fun h => h3 h.2.2.1)
          clear h2 h3
          go_enter Try.func25, Try.ntmps25
          go_wp2_with (first | (go_at_call 66; refine (l04Key_is H2.out _).mono ?_; rintro e w' ⟨rfl, rfl⟩))
          refine (l06Win_is H3.out _).mono ?_
          clear a0 a1 a2 a3 a4 a5 a6 a7
          rintro e w1 ⟨rfl, hb1⟩
          replace hb := below_trans hb hb1
          obtain ⟨a0, a1, a2, a3, a4, a5, a6, a7⟩ := (o1.grow hb1).eight
          clear o1
          go_wp2
          go_ret
          exact ⟨ret_bool (tf_no H.out), hb⟩
      · have H2 := Lib.hid (decide_eq_false h2)
        have H := Lib.hid (show ¬ paneOk q k f t l n m o from fun h => by unfold paneOk at h; omega)
        clear h2
        go_enter Try.func25, Try.ntmps25
        go_wp2_with (first | (go_at_call 66; refine (l04Key_is H2.out _).mono ?_; rintro e w' ⟨rfl, rfl⟩))
        go_ret
        exact ⟨ret_bool (tf_no H.out), hb⟩
    · have H := Lib.hid (show ¬ paneOk q k f t l n m o from fun h => by unfold paneOk at h; omega)
      go_enter Try.func25, Try.ntmps25
      go_wp2
      go_ret
      exact ⟨ret_bool (tf_no H.out), hb⟩
  · have H := Lib.hid (show ¬ paneOk q k f t l n m o from fun h => by unfold paneOk at h; omega)
    go_enter Try.func25, Try.ntmps25
    go_wp2
    go_ret
    exact ⟨ret_bool (tf_no H.out), hb⟩

set_option maxHeartbeats 4000000 in
theorem implPaneOk_any (q k f t l n : Int) (A : Option Addr) (m c : Nat) (o : Bool) (w : World) (hm : m ≤ 9223372036854775807) :
    Calls Try.prog 27 #[pav q k f t l n (.slice A m c) o] w fun e w' => e = .returned (.bool (tf (paneOk q k f t l n m o))) ∧ Below w.heap.size w w' := by
  have o1 := Own.new w 31 (pac q k f t l n (.slice A m c) o)
  have hb := below_alloc w (.cells (pac q k f t l n (.slice A m c) o).toArray 31)
  obtain ⟨a0, a1, a2, a3, a4, a5, a6, a7⟩ := o1.eight
  have HM := Lib.hid hm
  clear hm
  by_cases h0 : 0 ≤ q ∧ q < 4
  · have H0 := Lib.hid (decide_eq_true h0)
    by_cases h1 : 0 ≤ k ∧ k ≤ 15
    · have H1 := Lib.hid (decide_eq_true h1)
      by_cases h2 : winOk (f, t)
      · have H2 := Lib.hid ((tf_yes h2).symm)
        by_cases h3 : 0 ≤ l ∧ l < 16
        · have H3 := Lib.hid (decide_eq_true h3)
          by_cases h4 : 1 ≤ n
          · skip
            by_cases h5 : n ≤ 1000000
            · skip
              by_cases h6 : m ≤ 4
              · skip
                have HP := Lib.hid (And.intro (show (0 ≤ q ∧ q < 4) ∧ (0 ≤ k ∧ k ≤ 15) from by omega) (And.intro h2 (show (0 ≤ l ∧ l < 16) ∧ (1 ≤ n ∧ n ≤ 1000000) ∧ m ≤ 4 from by omega)))
                clear h0 h1 h2 h3
                by_cases e0 : m = 0
                · subst e0
                  cases o with
                  | true =>
                    have H := Lib.hid (show paneOk q k f t l n 0 true from ⟨HP.out.1.1, HP.out.1.2, HP.out.2.1, HP.out.2.2.1, HP.out.2.2.2.1, HP.out.2.2.2.2, rfl⟩)
                    clear HP
                    go_enter Try.func27, Try.ntmps27
                    go_wp2_with (first | (go_at_call 74; refine (isQuery_is H0.out _).mono ?_; rintro e w' ⟨rfl, rfl⟩) | (go_at_call 69; refine (isKey_is H1.out _).mono ?_; rintro e w' ⟨rfl, rfl⟩))
                    refine (isWin_is H2.out _).mono ?_
                    clear a0 a1 a2 a3 a4 a5 a6 a7
                    rintro e w1 ⟨rfl, hb1⟩
                    replace hb := below_trans hb hb1
                    obtain ⟨a0, a1, a2, a3, a4, a5, a6, a7⟩ := (o1.grow hb1).eight
                    clear o1
                    go_wp2_with (first | (go_at_call 76; refine (isLabel_dec H3.out _).mono ?_; rintro e w' ⟨rfl, rfl⟩))
                    go_ret
                    exact ⟨ret_bool (tf_yes H.out), hb⟩
                  | false =>
                    have H := Lib.hid (show ¬ paneOk q k f t l n 0 false from fun h => by have := h.2.2.2.2.2.2; simp at this)
                    clear HP
                    go_enter Try.func27, Try.ntmps27
                    go_wp2_with (first | (go_at_call 74; refine (isQuery_is H0.out _).mono ?_; rintro e w' ⟨rfl, rfl⟩) | (go_at_call 69; refine (isKey_is H1.out _).mono ?_; rintro e w' ⟨rfl, rfl⟩))
                    refine (isWin_is H2.out _).mono ?_
                    clear a0 a1 a2 a3 a4 a5 a6 a7
                    rintro e w1 ⟨rfl, hb1⟩
                    replace hb := below_trans hb hb1
                    obtain ⟨a0, a1, a2, a3, a4, a5, a6, a7⟩ := (o1.grow hb1).eight
                    clear o1
                    go_wp2_with (first | (go_at_call 76; refine (isLabel_dec H3.out _).mono ?_; rintro e w' ⟨rfl, rfl⟩))
                    go_ret
                    exact ⟨ret_bool (tf_no H.out), hb⟩
                · have t0 : ((m : Int) == 0) = false := by simpa using e0
                  cases o with
                  | true =>
                    have H := Lib.hid (show ¬ paneOk q k f t l n m true from fun h => by have := h.2.2.2.2.2.2; simp [e0] at this)
                    clear HP e0
                    go_enter Try.func27, Try.ntmps27
                    go_wp2_with (first | (go_at_call 74; refine (isQuery_is H0.out _).mono ?_; rintro e w' ⟨rfl, rfl⟩) | (go_at_call 69; refine (isKey_is H1.out _).mono ?_; rintro e w' ⟨rfl, rfl⟩))
                    refine (isWin_is H2.out _).mono ?_
                    clear a0 a1 a2 a3 a4 a5 a6 a7
                    rintro e w1 ⟨rfl, hb1⟩
                    replace hb := below_trans hb hb1
                    obtain ⟨a0, a1, a2, a3, a4, a5, a6, a7⟩ := (o1.grow hb1).eight
                    clear o1
                    go_wp2_with (first | (go_at_call 76; refine (isLabel_dec H3.out _).mono ?_; rintro e w' ⟨rfl, rfl⟩))
                    go_ret
                    exact ⟨ret_bool (tf_no H.out), hb⟩
                  | false =>
                    have H := Lib.hid (show paneOk q k f t l n m false from ⟨HP.out.1.1, HP.out.1.2, HP.out.2.1, HP.out.2.2.1, HP.out.2.2.2.1, HP.out.2.2.2.2, by simp [e0]⟩)
                    clear HP e0
                    go_enter Try.func27, Try.ntmps27
                    go_wp2_with (first | (go_at_call 74; refine (isQuery_is H0.out _).mono ?_; rintro e w' ⟨rfl, rfl⟩) | (go_at_call 69; refine (isKey_is H1.out _).mono ?_; rintro e w' ⟨rfl, rfl⟩))
                    refine (isWin_is H2.out _).mono ?_
                    clear a0 a1 a2 a3 a4 a5 a6 a7
                    rintro e w1 ⟨rfl, hb1⟩
                    replace hb := below_trans hb hb1
                    obtain ⟨a0, a1, a2, a3, a4, a5, a6, a7⟩ := (o1.grow hb1).eight
                    clear o1
                    go_wp2_with (first | (go_at_call 76; refine (isLabel_dec H3.out _).mono ?_; rintro e w' ⟨rfl, rfl⟩))
                    go_ret
                    exact ⟨ret_bool (tf_yes H.out), hb⟩
              · have H := Lib.hid (show ¬ paneOk q k f t l n m o from fun h => by unfold paneOk at h; omega)
                clear h0 h1 h2 h3
                go_enter Try.func27, Try.ntmps27
                go_wp2_with (first | (go_at_call 74; refine (isQuery_is H0.out _).mono ?_; rintro e w' ⟨rfl, rfl⟩) | (go_at_call 69; refine (isKey_is H1.out _).mono ?_; rintro e w' ⟨rfl, rfl⟩))
                refine (isWin_is H2.out _).mono ?_
                clear a0 a1 a2 a3 a4 a5 a6 a7
                rintro e w1 ⟨rfl, hb1⟩
                replace hb := below_trans hb hb1
                obtain ⟨a0, a1, a2, a3, a4, a5, a6, a7⟩ := (o1.grow hb1).eight
                clear o1
                go_wp2_with (first | (go_at_call 76; refine (isLabel_dec H3.out _).mono ?_; rintro e w' ⟨rfl, rfl⟩))
                go_ret
                exact ⟨ret_bool (tf_no H.out), hb⟩
            · have H := Lib.hid (show ¬ paneOk q k f t l n m o from fun h => by unfold paneOk at h; omega)
              clear h0 h1 h2 h3
              go_enter Try.func27, Try.ntmps27
              go_wp2_with (first | (go_at_call 74; refine (isQuery_is H0.out _).mono ?_; rintro e w' ⟨rfl, rfl⟩) | (go_at_call 69; refine (isKey_is H1.out _).mono ?_; rintro e w' ⟨rfl, rfl⟩))
              refine (isWin_is H2.out _).mono ?_
              clear a0 a1 a2 a3 a4 a5 a6 a7
              rintro e w1 ⟨rfl, hb1⟩
              replace hb := below_trans hb hb1
              obtain ⟨a0, a1, a2, a3, a4, a5, a6, a7⟩ := (o1.grow hb1).eight
              clear o1
              go_wp2_with (first | (go_at_call 76; refine (isLabel_dec H3.out _).mono ?_; rintro e w' ⟨rfl, rfl⟩))
              go_ret
              exact ⟨ret_bool (tf_no H.out), hb⟩
          · have H := Lib.hid (show ¬ paneOk q k f t l n m o from fun h => by unfold paneOk at h; omega)
            clear h0 h1 h2 h3
            go_enter Try.func27, Try.ntmps27
            go_wp2_with (first | (go_at_call 74; refine (isQuery_is H0.out _).mono ?_; rintro e w' ⟨rfl, rfl⟩) | (go_at_call 69; refine (isKey_is H1.out _).mono ?_; rintro e w' ⟨rfl, rfl⟩))
            refine (isWin_is H2.out _).mono ?_
            clear a0 a1 a2 a3 a4 a5 a6 a7
            rintro e w1 ⟨rfl, hb1⟩
            replace hb := below_trans hb hb1
            obtain ⟨a0, a1, a2, a3, a4, a5, a6, a7⟩ := (o1.grow hb1).eight
            clear o1
            go_wp2_with (first | (go_at_call 76; refine (isLabel_dec H3.out _).mono ?_; rintro e w' ⟨rfl, rfl⟩))
            go_ret
            exact ⟨ret_bool (tf_no H.out), hb⟩
        · have H3 := Lib.hid (decide_eq_false h3)
          have H := Lib.hid (show ¬ paneOk q k f t l n m o from fun h => by unfold paneOk at h; omega)
          clear h0 h1 h2 h3
          go_enter Try.func27, Try.ntmps27
          go_wp2_with (first | (go_at_call 74; refine (isQuery_is H0.out _).mono ?_; rintro e w' ⟨rfl, rfl⟩) | (go_at_call 69; refine (isKey_is H1.out _).mono ?_; rintro e w' ⟨rfl, rfl⟩))
          refine (isWin_is H2.out _).mono ?_
          clear a0 a1 a2 a3 a4 a5 a6 a7
          rintro e w1 ⟨rfl, hb1⟩
          replace hb := below_trans hb hb1
          obtain ⟨a0, a1, a2, a3, a4, a5, a6, a7⟩ := (o1.grow hb1).eight
          clear o1
          go_wp2_with (first | (go_at_call 76; refine (isLabel_dec H3.out _).mono ?_; rintro e w' ⟨rfl, rfl⟩))
          go_ret
          exact ⟨ret_bool (tf_no H.out), hb⟩
      · have H2 := Lib.hid ((tf_no h2).symm)
        have H := Lib.hid (show ¬ paneOk q k f t l n m o from fun h => h2 h.2.2.1)
        clear h0 h1 h2
        go_enter Try.func27, Try.ntmps27
        go_wp2_with (first | (go_at_call 74; refine (isQuery_is H0.out _).mono ?_; rintro e w' ⟨rfl, rfl⟩) | (go_at_call 69; refine (isKey_is H1.out _).mono ?_; rintro e w' ⟨rfl, rfl⟩))
        refine (isWin_is H2.out _).mono ?_
        clear a0 a1 a2 a3 a4 a5 a6 a7
        rintro e w1 ⟨rfl, hb1⟩
        replace hb := below_trans hb hb1
        obtain ⟨a0, a1, a2, a3, a4, a5, a6, a7⟩ := (o1.grow hb1).eight
        clear o1
        go_wp2
        go_ret
        exact ⟨ret_bool (tf_no H.out), hb⟩
    · have H1 := Lib.hid (decide_eq_false h1)
      have H := Lib.hid (show ¬ paneOk q k f t l n m o from fun h => by unfold paneOk at h; omega)
      clear h0 h1
      go_enter Try.func27, Try.ntmps27
      go_wp2_with (first | (go_at_call 74; refine (isQuery_is H0.out _).mono ?_; rintro e w' ⟨rfl, rfl⟩) | (go_at_call 69; refine (isKey_is H1.out _).mono ?_; rintro e w' ⟨rfl, rfl⟩))
      go_ret
      exact ⟨ret_bool (tf_no H.out), hb⟩
  · have H0 := Lib.hid (decide_eq_false h0)
    have H := Lib.hid (show ¬ paneOk q k f t l n m o from fun h => by unfold paneOk at h; omega)
    clear h0
    go_enter Try.func27, Try.ntmps27
    go_wp2_with (first | (go_at_call 74; refine (isQuery_is H0.out _).mono ?_; rintro e w' ⟨rfl, rfl⟩))
    go_ret
    exact ⟨ret_bool (tf_no H.out), hb⟩
end Go.Proofs.Ytlmlckgnmkjkdaa
