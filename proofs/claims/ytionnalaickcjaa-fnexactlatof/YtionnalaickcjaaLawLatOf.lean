/-
  The law on LatOf: at every number and list of edges the program's LatOf answers as the model's, writes into no argument, and its answer is memory of its own.
-/
import Derived.Test.YtionnalaickcjaaLatOfD
import Derived.Deep.RegionHeld3
namespace Go.Proofs.Ytionnalaickcjaa
open Go.RowKit

set_option maxHeartbeats 400000 in
theorem markLat_row (N : Int) (v : Value) (lo hi : Nat) (xs : List Nat) (k : Int) (w : World) (hr : RowAt lo hi w 67 1 v xs.length (us xs)) (h0 : 0 ≤ k) (h1 : k ≤ 4611686018427387904) (hn : xs.length ≤ 1048576) :
    Calls Try.prog 41 #[.agg #[.int .i64 N, v], .int .i64 k] w fun e w' => e = .returned (.int .i64 (k + xs.length)) ∧ RowAt lo hi w' 67 1 v xs.length (uz (marks k xs.length)) ∧ Only lo hi w w' := by
  have hr' := hr
  rw [us_uz] at hr'
  obtain ⟨A, c, rfl, _⟩ := hr.rd
  have hl : (xs.map fun n : Nat => (n : Int)).length = xs.length := by simp
  have cc := fun W (h : W.ownsRow lo 67 1 (.slice A xs.length c) xs.length (uz (xs.map fun n : Nat => (n : Int)))) => markUint64S_any (.slice A xs.length c) lo (xs.map fun n : Nat => (n : Int)) k W (by rw [hl]; exact h) h0 h1 (by rw [hl]; exact hn)
  rw [hl] at cc
  have C := Lib.hid cc
  have HO := Lib.hid hr'.1
  have HR := Lib.hid hr
  clear cc hl hr hr'
  go_enter Try.func41, Try.ntmps41
  go_wp2_with fail
  refine (C.out _ (owns_grow HO.out (below_alloc _ _))).mono ?_
  rintro e w1 ⟨rfl, ho, hg⟩
  go_wp2
  go_ret
  exact ⟨rfl, ⟨ho, HR.out.2⟩, Only.of_row HR.out (grownBy_trans (grownBy_of (below_alloc _ _) _) hg)⟩

theorem markLat_n (N : Int) (v : Value) (lo hi n : Nat) (xs : List Nat) (k : Int) (w : World) (hl : xs.length = n) (hr : RowAt lo hi w 67 1 v n (us xs)) (h0 : 0 ≤ k) (h1 : k ≤ 4611686018427387904) (hn : n ≤ 1048576) :
    Calls Try.prog 41 #[.agg #[.int .i64 N, v], .int .i64 k] w fun e w' => e = .returned (.int .i64 (k + n)) ∧ RowAt lo hi w' 67 1 v n (uz (marks k n)) ∧ Only lo hi w w' := by
  subst hl; exact markLat_row N v lo hi xs k w hr h0 h1 hn

set_option maxHeartbeats 400000 in
theorem szEdgeS_any (A : Option Addr) (n ca : Nat) (left : Int) (w : World) (h0 : 0 ≤ left) (h1 : left ≤ 1048576) (hn : n ≤ 9223372036854775807) :
    Calls Try.prog 35 #[.slice A n ca, .int .i64 left] w fun e w' => e = .returned (.int .i64 (less left n)) ∧ w = w' := by
  by_cases h : left - (n : Int) < 0
  · go_enter Try.func35, Try.ntmps35
    go_wp2
    go_ret
    exact ⟨ret_int (by simp [less, h]), rfl⟩
  · go_enter Try.func35, Try.ntmps35
    go_wp2
    go_ret
    exact ⟨ret_int (by simp [less]; omega), rfl⟩

/-- equal lattices, each read at its own place -/
theorem eqLat_at (N : Int) (A B : Option Addr) (n ca cb : Nat) (xs : List Nat) (w : World) (hl : xs.length = n) (hA : Rd w A (us xs)) (hB : Rd w B (us xs)) (hn : n ≤ 1048576) :
    Calls Try.prog 38 #[.agg #[.int .i64 N, .slice A n ca], .agg #[.int .i64 N, .slice B n cb]] w fun e w' => e = .returned (.bool true) ∧ Below w.heap.size w w' := by
  subst hl
  exact eqLat_same N A B ca cb xs w hA hB (by omega)

set_option maxRecDepth 100000 in
set_option maxHeartbeats 4000000 in
theorem fnExactLatOf_walk (a : Int) (E : Option Addr) (ce : Nat) (es : List (Int × Int)) (w : World) (hE : Rd w E (ez es)) (hn : es.length ≤ 9223372036854775807) :
    Calls Try.prog 6 #[.int .i64 a, .slice E es.length ce] w fun e w' => e = .returned (.bool true) ∧ Below w.heap.size w w' := by
  have HE := Lib.hid (fun W (h : Below w.heap.size w W) => hE.below h)
  clear hE
  by_cases hl : es.length ≤ 1048576
  · have e1 : less 1048576 es.length = 1048576 - (es.length : Int) := by simp [less]; omega
    have dl : decide (1048576 - (es.length : Int) < 0) = false := by simp; omega
    have E1 := Lib.hid e1
    clear e1
    have hx16 := ofXs_le a es
    have CI := Lib.hid (implLatOf_any a)
    have CS := Lib.hid (specLatOf_any a)
    have hq : ∃ N xs ok, N = ofN a es ∧ xs = ofXs a es ∧ ok = tf (OfOk a es) := ⟨_, _, _, rfl, rfl, rfl⟩
    obtain ⟨N, xs, ok, eN, ex, eo⟩ := hq
    rw [← ex] at hx16
    generalize hm : xs.length = m at hx16
    have HV := Lib.hid (show N = ofN a es ∧ xs = ofXs a es ∧ ok = tf (OfOk a es) from ⟨eN, ex, eo⟩)
    have HM := Lib.hid hm
    clear eN ex eo hm
    have hok : (ok != ok) = false := by simp
    go_enter Try.func6, Try.ntmps6
    go_wp2_with fail
    refine (as_int E1.out (szEdgeS_any E es.length ce 1048576 _ (by omega) (by omega) hn)).mono ?_
    rintro e w' ⟨rfl, rfl⟩
    go_wp2_with fail
    refine (toEdgeS_at E ce es _ (HE.out _ (Below.refl _ _)) hl).mono ?_
    rintro e w2 ⟨g, rfl, hr, hb2⟩
    go_wp2_with fail
    refine (CS.out _ _ es _ hr.reads hl).mono ?_
    rintro e w3 ⟨v0, rfl, r0, hb⟩
    rw [← HV.out.1, ← HV.out.2.2]
    rw [← HV.out.2.1, HM.out] at r0
    replace r0 := RowAt.of r0
    obtain ⟨A0, cc0, rfl, _⟩ := r0.rd
    have hb3 := below_trans hb2 hb
    have hw3 := hb3.size
    clear hb hb2 hr
    go_wp2_with fail
    refine (toEdgeS_at E ce es _ (HE.out _ (below_trans hb3 (below_alloc _ _))) hl).mono ?_
    rintro e w4 ⟨g2, rfl, rx, hb⟩
    obtain ⟨o3, hb34⟩ := box_own hb
    rw [World.size_alloc] at rx
    have hb4 := below_trans hb3 hb34
    replace r0 := r0.grow hb34
    have s34 := o3.lt
    clear hb hb34 hb3
    go_wp2_with fail
    refine (CI.out _ _ es _ rx.reads hl).mono ?_
    rintro e w5 ⟨v1, rfl, r1, hb⟩
    rw [← HV.out.1, ← HV.out.2.2]
    rw [← HV.out.2.1, HM.out] at r1
    replace r1 := RowAt.of r1
    obtain ⟨A1, cc1, rfl, _⟩ := r1.rd
    have o5 := o3.grow hb
    have hb5 := below_trans hb4 hb
    have s45 := hb.size
    replace r0 := r0.grow hb
    replace rx := rx.grow hb
    clear hb hb4 o3
    have H0 := Lib.hid (r0.reads.below (below_alloc w5 (.cells #[.int .i64 N, .slice A1 m cc1] 26)))
    have H1 := Lib.hid (r1.reads.below (below_alloc w5 (.cells #[.int .i64 N, .slice A1 m cc1] 26)))
    obtain ⟨c0, c1⟩ := (o5.alloc (.cells #[.int .i64 N, .slice A1 m cc1] 26)).two
    go_wp2_with fail
    refine (eqLat_at N A1 A0 m cc1 cc0 xs _ HM.out H1.out H0.out (by omega)).mono ?_
    rintro e w6 ⟨rfl, hb⟩
    obtain ⟨p6, hb56⟩ := box_own hb
    have o6 := o5.grow hb56
    have hb6 := below_trans hb5 hb56
    replace r0 := r0.grow hb56
    replace rx := rx.grow hb56
    replace r1 := r1.grow hb56
    have s56 := p6.lt
    clear hb hb56 hb5 o5 H0 H1 c0 c1
    go_wp2_with fail
    refine (toEdgeS_at E ce es _ (HE.out _ hb6) hl).mono ?_
    rintro e w7 ⟨g3, rfl, ry, hb⟩
    have p7 := p6.grow hb
    have o7 := o6.grow hb
    have hb7 := below_trans hb6 hb
    have s67 := hb.size
    replace r0 := r0.grow hb
    replace rx := rx.grow hb
    replace r1 := r1.grow hb
    clear hb hb6 o6 p6
    go_wp2_with fail
    refine (eqEdgeS_same _ _ es.length _ _ es _ rx.reads ry.reads rfl hl).mono ?_
    rintro e w8 ⟨rfl, hb⟩
    have p8 := p7.grow hb
    have o8 := o7.grow hb
    have hb8 := below_trans hb7 hb
    have s78 := hb.size
    replace r0 := r0.grow hb
    replace rx := rx.grow hb
    replace r1 := r1.grow hb
    clear hb hb7 o7 p7 ry
    have s3w := hb8.size
    have s2w : w.heap.size ≤ w3.heap.size := hw3
    go_wp2_with fail
    refine (markEdgeS_at _ _ _ es.length es 1 _ rx (by omega) (by omega) rfl hl).mono ?_
    rintro e w9 ⟨rfl, _, hO⟩
    have p9 := p8.only hO (.inr (by omega))
    have o9 := o8.only hO (.inl (by omega))
    have hb9 := below_only hb8 hO (by omega) (by omega)
    have s89 := hO.size
    replace r0 := r0.move (hO.same (.inl (by omega)) (by omega))
    replace r1 := r1.move (hO.same (.inr (by omega)) (by omega))
    clear hO hb8 o8 p8 rx
    have dk : decide ((1 : Int) + ((es.length * 2 : Nat) : Int) < 0) = false := by simp; omega
    obtain ⟨c0, c1⟩ := o9.two
    obtain ⟨c2, c3⟩ := p9.two
    go_wp2_with fail
    refine (eqLat_at N A1 A0 m cc1 cc0 xs _ HM.out r1.reads r0.reads (by omega)).mono ?_
    rintro e w10 ⟨rfl, hb⟩
    have p10 := p9.grow hb
    have o10 := o9.grow hb
    have hb10 := below_trans hb9 hb
    have s910 := hb.size
    replace r0 := r0.grow hb
    replace r1 := r1.grow hb
    clear hb hb9 o9 p9 c0 c1 c2 c3
    obtain ⟨c2, c3⟩ := p10.two
    go_wp2_with fail
    clear c2 c3
    refine (markLat_n N (.slice A1 m cc1) _ _ m xs 1 _ HM.out r1 (by omega) (by omega) (by omega)).mono ?_
    rintro e w11 ⟨rfl, r1m, hO⟩
    have p11 := p10.only hO (.inr (by omega))
    have o11 := o10.only hO (.inl (by omega))
    have hb11 := below_only hb10 hO (by omega) (by omega)
    have s1011 := hO.size
    replace r0 := r0.move (hO.same (.inl (by omega)) (by omega))
    clear hO hb10 o10 p10 r1
    obtain ⟨c2, c3⟩ := p11.two
    go_wp2_with fail
    clear c2 c3
    refine (heldLat_any N A1 cc1 m 1 _ r1m.reads (by omega) (by omega) (by omega)).mono ?_
    rintro e w12 ⟨rfl, hb⟩
    have p12 := p11.grow hb
    have o12 := o11.grow hb
    have hb12 := below_trans hb11 hb
    replace r0 := r0.grow hb
    replace r1m := r1m.grow hb
    clear hb hb11 o11 p11
    have hne : ((1 + (m : Int)) != 1 + (m : Int)) = false := by simp
    have dm : decide ((1 : Int) + (m : Int) < 0) = false := by simp; omega
    go_wp2_with fail
    refine (toEdgeS_at E ce es _ (HE.out _ hb12) hl).mono ?_
    rintro e w13 ⟨g4, rfl, rz, hb⟩
    have p13 := p12.grow hb
    have o13 := o12.grow hb
    have hb13 := below_trans hb12 hb
    replace r0 := r0.grow hb
    replace r1m := r1m.grow hb
    clear hb hb12 o12 p12
    go_wp2_with fail
    refine (CI.out _ _ es _ rz.reads hl).mono ?_
    rintro e w14 ⟨v2, rfl, r2, hb⟩
    rw [← HV.out.1, ← HV.out.2.2]
    rw [← HV.out.2.1, HM.out] at r2
    replace r2 := RowAt.of r2
    obtain ⟨A2, cc2, rfl, _⟩ := r2.rd
    have p14 := p13.grow hb
    have o14 := o13.grow hb
    have hb14 := below_trans hb13 hb
    replace r0 := r0.grow hb
    replace r1m := r1m.grow hb
    clear hb hb13 o13 p13 rz
    have H0 := Lib.hid (r0.reads.below (below_alloc w14 (.cells #[.int .i64 N, .slice A2 m cc2] 26)))
    have H2 := Lib.hid (r2.reads.below (below_alloc w14 (.cells #[.int .i64 N, .slice A2 m cc2] 26)))
    obtain ⟨c0, c1⟩ := (o14.alloc (.cells #[.int .i64 N, .slice A2 m cc2] 26)).two
    go_wp2_with fail
    refine (eqLat_at N A2 A0 m cc2 cc0 xs _ HM.out H2.out H0.out (by omega)).mono ?_
    rintro e w15 ⟨rfl, hb⟩
    obtain ⟨_, hb1415⟩ := box_own hb
    have p15 := p14.grow hb1415
    have hb15 := below_trans hb14 hb1415
    replace r1m := r1m.grow hb1415
    clear hb hb1415 hb14 o14 p14 H0 H2 c0 c1 r0 r2
    obtain ⟨c2, c3⟩ := p15.two
    go_wp2_with fail
    clear c2 c3
    refine (heldLat_any N A1 cc1 m 1 _ r1m.reads (by omega) (by omega) (by omega)).mono ?_
    rintro e w16 ⟨rfl, hb⟩
    go_wp2
    go_ret
    exact ⟨rfl, below_trans hb15 hb⟩
  · have e1 : less 1048576 es.length = -1 := by simp [less]; omega
    go_enter Try.func6, Try.ntmps6
    go_wp2_with fail
    refine (as_int e1 (szEdgeS_any E es.length ce 1048576 _ (by omega) (by omega) hn)).mono ?_
    rintro e w' ⟨rfl, rfl⟩
    go_wp2
    go_ret
    exact ⟨rfl, Below.refl _ _⟩
end Go.Proofs.Ytionnalaickcjaa
