/-
  The cursor's definitions of windows, by walks. By gencurwin.py.
-/
import Derived.Test.YtdphbfapccnhlaaCurWin
import Derived.Deep.DeepCutAuto
import Derived.Deep.CutBlock
namespace Go.Proofs.Ytdphbfapccnhlaa
open Go.RowKit

set_option maxRecDepth 100000 in
set_option maxHeartbeats 4000000 in
theorem win_any (g : Nat) (A : Option Addr) (n c m : Nat) (w : World) (h : Cur w g A n c m) (hn : n ≤ 1048576) (hm : m ≤ 1000000) :
    Calls Try.prog 63 #[.pointer (some ⟨g, 0, none⟩)] w fun e w' => ∃ k s t : Int, e = .returned (.agg #[.int .i64 k, .int .i64 s, .int .i64 t]) ∧ (1 ≤ s ∧ s ≤ 100) ∧ Cur w' g A n c (m + 10) ∧ w.grownBy w' (some g) := by
  have hgl := h.lt
  have H0 := Lib.hid (h.grow (below_alloc w (.cells #[.int .i64 0, .int .i64 0, .int .i64 0] 25)))
  clear h
  go_enter Try.func63, Try.ntmps63
  go_wp2_with fail
  refine (pick_any g A n c m 3 _ H0.out hn (by omega) (by omega) (by omega)).mono ?_
  rintro e w1 ⟨r1, rfl, hr1, hC1, hG1⟩
  have o1 := own_far (Own.new w 25 [.int .i64 0, .int .i64 0, .int .i64 0]) hG1 (by omega)
  have g1 : w.grownBy w1 (some g) := grown_trans (grownBy_of (below_alloc _ _) _) hG1
  have z1 := o1.lt
  clear H0 hG1
  go_wp2_with fail
  refine (pick_any g A n c (m + 1) 4 _ (hC1.grow (below_alloc _ _)) hn (by omega) (by omega) (by omega)).mono ?_
  rintro e w2 ⟨r2, rfl, hr2, hC2, hG2⟩
  have hL := own_far (Own.new w1 3 (iz [1, 5, 10, 100])) hG2 (by omega)
  obtain ⟨v, hv, hvm⟩ := iz_take (zs := [1, 5, 10, 100]) (r := r2) (by simp only [List.length_cons, List.length_nil]; omega)
  have hv2 : 1 ≤ v ∧ v ≤ 100 := by simp at hvm; omega
  have hcell : w2.cell? ⟨w1.heap.size, r2, none⟩ = some (.int .i64 v) := (hL.cell r2).trans hv
  have z2 := hG2.size
  rw [World.size_alloc] at z2
  have P := Lib.hid (show VS w (w2.alloc (.cells #[.int .i64 (1 + (r1 : Int)), .int .i64 v, .int .i64 0] 25)) g A n c (m + 2) w.heap.size w2.heap.size 25 [.int .i64 0, .int .i64 0, .int .i64 0] 25 [.int .i64 (1 + (r1 : Int)), .int .i64 v, .int .i64 0] from
    ⟨(own_far (o1.alloc _) hG2 (by omega)).alloc _, Own.new w2 _ [_, _, _], hC2.grow (below_alloc _ _), grown_trans g1 (grown_trans (World.grownBy_alloc _ _ _) (grown_trans hG2 (grownBy_of (below_alloc _ _) _))), hgl, Nat.le_refl _, by omega⟩)
  clear hL hv hvm o1 g1 hC1 hC2 hG2
  go_wp2_with fail
  refine (once_any g A n c (m + 2) 2 _ P.out.cur hn (by omega) (by omega) (by omega)).mono ?_
  rintro e w3 ⟨b3, rfl, hC3, hG3⟩
  have P3 := Lib.hid (P.out.far hG3 hC3)
  clear hcell P hC3 hG3
  generalize w2.heap.size = B at *
  go_upto_if 14 with (fail)
  go_cut [3] (fun s3 wx => ∃ k' s' : Int, s3 = .pointer (some ⟨B, 0, none⟩) ∧ 1 ≤ s' ∧ s' ≤ 100 ∧ Hid (VS w wx g A n c (m + 4) w.heap.size B 25 [.int .i64 0, .int .i64 0, .int .i64 0] 25 [.int .i64 k', .int .i64 s', .int .i64 0]))
  case first =>
    have f1 := P3.out.b.free 1
    obtain ⟨c0, c1, c2⟩ := P3.out.b.three
    cases b3 with
    | true =>
      go_wp2_with fail
      refine (pick_any g A n c (m + 2 + 1) 12 _ P3.out.cur hn (by omega) (by omega) (by omega)).mono ?_
      rintro e w4 ⟨r4, rfl, hr4, hC4, hG4⟩
      have P4 := Lib.hid (P3.out.far hG4 hC4)
      clear f1 c0 c1 c2
      have f1 := P4.out.b.free 1
      obtain ⟨c0, c1, c2⟩ := P4.out.b.three
      have P5 := Lib.hid (P4.out.set 1 (.int .i64 (1 + (r4 : Int))))
      clear P3 P4 hC4 hG4
      go_wp2_with fail
      go_meet
      case rel => exact ⟨_, _, rfl, by omega, by omega, P5⟩
    | false =>
      go_wp2_with fail
      go_meet
      case rel => exact ⟨_, v, rfl, by omega, by omega, Lib.hid (P3.out.more (by omega))⟩
  case rest =>
    obtain ⟨k', s', rfl, hs1, hs2, P4⟩ := hcut
    clear P3 hv2
    generalize wc = w4 at *
    by_cases hk : k' = 2
    · subst hk
      have f2 := P4.out.b.free 2
      obtain ⟨c0, c1, c2⟩ := P4.out.b.three
      obtain ⟨t', ht⟩ : ∃ t' : Int, (if (1 : Int) < (s' + 7) / 8 then (s' + 7) / 8 else 1) = t' := ⟨_, rfl⟩
      have ht1 : 1 ≤ t' ∧ t' ≤ 100 := by split at ht <;> omega
      have P5 := Lib.hid (P4.out.set 2 (.int .i64 t'))
      clear P4
      go_wp2_with fail
      refine (once_any g A n c (m + 4) 2 _ P5.out.cur hn (by omega) (by omega) (by omega)).mono ?_
      rintro e w5 ⟨b5, rfl, hC5, hG5⟩
      have P6 := Lib.hid (P5.out.far hG5 hC5)
      clear f2 c0 c1 c2 P5 hC5 hG5 ht
      cases b5 with
      | true =>
        obtain ⟨c0, c1, c2⟩ := P6.out.b.three
        have f2 := P6.out.b.free 2
        go_wp2
        go_region_with (go_at_call 50; refine (pick_any g A n c (m + 4 + 1) s' _ (P6.out.cur.grow (Below.refl _ _).drew) hn (by omega) (by omega) (by omega)).mono ?_; rintro e w6 ⟨r6, rfl, hr6, hC6, hG6⟩; have P7 := Lib.hid ((P6.out.grow (Below.refl _ _).drew).far hG6 hC6); obtain ⟨k0, k1, k2⟩ := P7.out.b.three; have f3 := P7.out.b.free 2; have hw : IntKind.i64.wrap (1 + (r6 : Int)) = 1 + (r6 : Int) := (by rw [IntKind.wrap_i64]; omega); obtain ⟨u', hu⟩ : ∃ u' : Int, (if t' < 1 + (r6 : Int) then 1 + (r6 : Int) else t') = u' := ⟨_, rfl⟩; have P8 := Lib.hid (P7.out.set 2 (.int .i64 u')))
        all_goals
          clear f2 f3 c0 c1 c2 k0 k1 k2 P7 P6 hC6 hG6 hu hw
          have r0 := P8.out.r.free 0
          have r1' := (P8.out.setR 0 (.int .i64 (2))).r.free 1
          have r2' := ((P8.out.setR 0 (.int .i64 (2))).setR 1 (.int .i64 (s'))).r.free 2
          obtain ⟨d0, d1, d2⟩ := P8.out.r.three
          obtain ⟨c0, c1, c2⟩ := P8.out.b.three
          have Z := Lib.hid (((P8.out.setR 0 (.int .i64 (2))).setR 1 (.int .i64 (s'))).setR 2 (.int .i64 (u')))
          obtain ⟨e0, e1, e2⟩ := Z.out.r.three
          go_wp2
          refine bodyPost_ret (v := .agg #[.int .i64 (2), .int .i64 (s'), .int .i64 (u')]) (by simp [results, Try.results63, go_sem, e0, e1, e2]) rfl ?_
          exact ⟨_, _, _, rfl, by omega, Z.out.cur.more (by omega), Z.out.gr⟩
      | false =>
        have r0 := P6.out.r.free 0
        have r1' := (P6.out.setR 0 (.int .i64 (2))).r.free 1
        have r2' := ((P6.out.setR 0 (.int .i64 (2))).setR 1 (.int .i64 (s'))).r.free 2
        obtain ⟨d0, d1, d2⟩ := P6.out.r.three
        obtain ⟨c0, c1, c2⟩ := P6.out.b.three
        have Z := Lib.hid (((P6.out.setR 0 (.int .i64 (2))).setR 1 (.int .i64 (s'))).setR 2 (.int .i64 (t')))
        obtain ⟨e0, e1, e2⟩ := Z.out.r.three
        go_wp2
        refine bodyPost_ret (v := .agg #[.int .i64 (2), .int .i64 (s'), .int .i64 (t')]) (by simp [results, Try.results63, go_sem, e0, e1, e2]) rfl ?_
        exact ⟨_, _, _, rfl, by omega, Z.out.cur.more (by omega), Z.out.gr⟩
    · have hk2 : (k' == 2) = false := by simpa using hk
      obtain ⟨c0, c1, c2⟩ := P4.out.b.three
      have r0 := P4.out.r.free 0
      have r1' := (P4.out.setR 0 (.int .i64 (k'))).r.free 1
      have r2' := ((P4.out.setR 0 (.int .i64 (k'))).setR 1 (.int .i64 (s'))).r.free 2
      obtain ⟨d0, d1, d2⟩ := P4.out.r.three
      obtain ⟨c0, c1, c2⟩ := P4.out.b.three
      have Z := Lib.hid (((P4.out.setR 0 (.int .i64 (k'))).setR 1 (.int .i64 (s'))).setR 2 (.int .i64 (0)))
      obtain ⟨e0, e1, e2⟩ := Z.out.r.three
      go_wp2
      refine bodyPost_ret (v := .agg #[.int .i64 (k'), .int .i64 (s'), .int .i64 (0)]) (by simp [results, Try.results63, go_sem, e0, e1, e2]) rfl ?_
      exact ⟨_, _, _, rfl, by omega, Z.out.cur.more (by omega), Z.out.gr⟩

end Go.Proofs.Ytdphbfapccnhlaa
