/-
  The cursor's oneWin: the walk. By gencurwin.py.
-/
import Derived.Test.YtdphbfapccnhlaaCurWin
import Derived.Test.YtdphbfapccnhlaaRegInv
import Derived.Deep.DeepCutAuto
import Derived.Deep.CutBlock
namespace Go.Proofs.Ytdphbfapccnhlaa
open Go.RowKit

set_option maxRecDepth 100000 in
set_option maxHeartbeats 8000000 in
theorem oneWin_any (g : Nat) (A : Option Addr) (n c m : Nat) (w : World) (h : Cur w g A n c m) (hn : n ≤ 1048576) (hm : m ≤ 1000000) :
    Calls Try.prog 59 #[.pointer (some ⟨g, 0, none⟩)] w fun e w' => ∃ a b : Int, e = .returned (.agg #[.int .i64 a, .int .i64 b]) ∧ Cur w' g A n c (m + 50) ∧ w.grownBy w' (some g) := by
  have hgl0 := h.lt
  have H0 := Lib.hid (h.grow (below_alloc w (.cells #[.int .i64 0, .int .i64 0] 32)))
  clear h
  go_enter Try.func59, Try.ntmps59
  go_wp2_with fail
  refine (pick_any g A n c m 60 _ H0.out hn (by omega) (by omega) (by omega)).mono ?_
  rintro e w1 ⟨r1, rfl, hr1, hC1, hG1⟩
  have o1 := own_far (Own.new w 32 [.int .i64 0, .int .i64 0]) hG1 (by omega)
  have g1 : w.grownBy w1 (some g) := grown_trans (grownBy_of (below_alloc _ _) _) hG1
  clear H0 hG1
  go_wp2_with fail
  refine (pick_any g A n c (m + 1) 9 _ hC1 hn (by omega) (by omega) (by omega)).mono ?_
  rintro e w2 ⟨r2, rfl, hr2, hC2, hG2⟩
  have o2 := own_far o1 hG2 (by omega)
  have z1 := o2.lt
  obtain ⟨fw, ha⟩ : ∃ fw : Int, (r1 : Int) = fw := ⟨_, rfl⟩
  obtain ⟨b, hb⟩ : ∃ b : Int, (r1 : Int) + 1 + (r2 : Int) = b := ⟨_, rfl⟩
  have P1 := Lib.hid (show VS w (w2.alloc (.cells #[.int .i64 fw, .int .i64 b] 32)) g A n c (m + 2) w.heap.size w2.heap.size 32 [.int .i64 0, .int .i64 0] 32 [.int .i64 fw, .int .i64 b] from
    ⟨o2.alloc _, Own.new w2 _ [_, _], hC2.grow (below_alloc _ _), grown_trans g1 (grown_trans hG2 (grownBy_of (below_alloc _ _) _)), hgl0, Nat.le_refl _, z1⟩)
  have ha0 : 0 ≤ fw := by omega
  have hb0 : 0 ≤ b := by omega
  have hb1 : b ≤ 100 := by omega
  rw [ha]
  rw [ha] at hb hr1
  clear o1 o2 g1 hC1 hC2 hG2 ha
  go_wp2_with fail
  refine (pick_any g A n c (m + 2) 12 _ P1.out.cur hn (by omega) (by omega) (by omega)).mono ?_
  rintro e v0 ⟨r0, rfl, hr0, hC3, hG3⟩
  have P0 := Lib.hid (P1.out.far hG3 hC3)
  clear P1 hC3 hG3
  generalize w2.heap.size = B at *
  by_cases h0 : r0 = 0
  · subst h0
    go_wp2_with fail
    refine (raw_any g A n c (m + 2 + 1) _ P0.out.cur hn (by omega)).mono ?_
    rintro e w4 ⟨z, rfl, hz1, hz2, hC4, hG4⟩
    have P4 := Lib.hid (P0.out.far hG4 hC4)
    have P5 := Lib.hid (P4.out.set 0 (.int .i64 z))
    have f0 := P4.out.b.free 0
    obtain ⟨c0, c1⟩ := P4.out.b.two
    clear P0 hC4 hG4
    go_upto_region 8 with (fail)
    clear f0 c0 c1 P4
    have r0 := P5.out.r.free 0
    have r1' := (P5.out.setR 0 (.int .i64 (z))).r.free 1
    obtain ⟨d0, d1⟩ := P5.out.r.two
    obtain ⟨c0, c1⟩ := P5.out.b.two
    have Z := Lib.hid ((P5.out.setR 0 (.int .i64 (z))).setR 1 (.int .i64 (b)))
    obtain ⟨e0, e1⟩ := Z.out.r.two
    go_wp2
    refine bodyPost_ret (v := .agg #[.int .i64 (z), .int .i64 (b)]) (by simp [results, Try.results59, go_sem, e0, e1]) rfl ?_
    exact ⟨_, _, rfl, Z.out.cur.more (by omega), Z.out.gr⟩
  have hn0 : ((r0 : Int) == 0) = false := by simp; omega
  by_cases h1 : r0 = 1
  · subst h1
    go_upto_region 7 with (fail)
    have p := P0.out
    have hgl : g < v0.heap.size := p.cur.lt
    have hrl : B < v0.heap.size := p.b.lt
    refine wp_region_rinv [.is (.pointer (some ⟨g, 0, none⟩)), .int, .is (.pointer (some ⟨B, 0, none⟩)), .is (.int .i64 fw), .lit 4, .is (.pointer (some ⟨g, 0, none⟩)), .nat 4, .cell, .int, .is (.pointer (some ⟨B, 1, none⟩)), .int] [(0, .pointer (some ⟨g, 0, none⟩)), (2, .pointer (some ⟨w.heap.size, 0, none⟩)), (4, .pointer (some ⟨B, 0, none⟩))] 34 v0.heap.size []
      (fun L W => ∃ (M : Nat) (x : Int), M ≤ (m + 3) + 2 * cnt 11 L ∧ VS w W g A n c M w.heap.size B 32 [.int .i64 0, .int .i64 0] 32 [.int .i64 fw, .int .i64 x] ∧ v0.heap.size ≤ W.heap.size) (by kernel_rfl) (by kernel_rfl) (by kernel_rfl) ?start ?step ?fin
    case start =>
      refine rinv_start rfl rfl ?_ ⟨(m + 3), _, Nat.le_add_right _ _, p.grow (Below.refl _ _).drew, Nat.le_refl _⟩
      intro p hp
      simp only [List.mem_cons, List.not_mem_nil, or_false] at hp
      rcases hp with rfl | rfl | rfl <;> rfl
    case step =>
      clear p P0
      intro L i o a W hi hLi hdep hsl hI
      have hlt : i < 11 := (Array.getElem?_eq_some_iff.1 hi).1
      have MU : ∀ {i : Nat}, (∃ (M : Nat) (x : Int), M ≤ (m + 3) + 2 * cnt 11 L ∧ VS w W g A n c M w.heap.size B 32 [.int .i64 0, .int .i64 0] 32 [.int .i64 fw, .int .i64 x] ∧ v0.heap.size ≤ W.heap.size) → L i = false → i < 11 → ∃ (M : Nat) (x : Int), M ≤ (m + 3) + 2 * cnt 11 (upd L i) ∧ VS w W g A n c M w.heap.size B 32 [.int .i64 0, .int .i64 0] 32 [.int .i64 fw, .int .i64 x] ∧ v0.heap.size ≤ W.heap.size := by
        rintro i ⟨M, x, hM, hq, hsz⟩ hL hi1
        exact ⟨M, x, by rw [cnt_upd hi1 hL]; omega, hq, hsz⟩
      match i, hlt with
      | 0, _ =>
        obtain rfl := Option.some.inj hi
        have hx := hI.held (s := 0) (v := .pointer (some ⟨g, 0, none⟩)) (by simp)
        exact wpOp_value (v := .pointer (some ⟨g, 0, none⟩)) (w' := W) hi rfl (by simp [execOp, go_sem, hx]) (hI.value hi rfl rfl hsl rfl (Ext.refl g B W) hgl hrl (MU hI.mem hLi (by decide)))
      | 1, _ =>
        obtain rfl := Option.some.inj hi
        have d0 : L 0 = true := hdep { on := 0, ground := .data } (by simp) rfl
        obtain ⟨x, ex, kx⟩ := hI.at 0 (d := 23) (k := .is (.pointer (some ⟨g, 0, none⟩))) rfl rfl rfl d0
        obtain rfl : x = .pointer (some ⟨g, 0, none⟩) := kx
        obtain ⟨M, x, hM, hq, hsz⟩ := hI.mem
        have hcl := cnt_lt (n := 11) (L := L) (by decide) hLi
        refine wpOp_enter (f := 64) (args := #[.pointer (some ⟨g, 0, none⟩)]) (w' := W) hi rfl (by simp [execOp, go_sem, ex]) ?_
        refine (raw_any g A n c M W hq.cur hn (by omega)).mono ?_
        rintro e W' ⟨r, rfl, hr1, hr2, hC, hG⟩
        exact ⟨_, rfl, hI.value hi rfl rfl hsl ⟨r, rfl⟩ (Ext.of hG) hgl hrl ⟨M + 2, x, by rw [cnt_upd (by decide) hLi]; omega, hq.far hG hC, Nat.le_trans hsz hG.size⟩⟩
      | 2, _ =>
        obtain rfl := Option.some.inj hi
        have hx := hI.held (s := 4) (v := .pointer (some ⟨B, 0, none⟩)) (by simp)
        exact wpOp_value (v := .pointer (some ⟨B, 0, none⟩)) (w' := W) hi rfl (by simp [execOp, go_sem, hx]) (hI.value hi rfl rfl hsl rfl (Ext.refl g B W) hgl hrl (MU hI.mem hLi (by decide)))
      | 3, _ =>
        obtain rfl := Option.some.inj hi
        have d2 : L 2 = true := hdep { on := 2, ground := .data } (by simp) rfl
        obtain ⟨x, ex, kx⟩ := hI.at 2 (d := 25) (k := .is (.pointer (some ⟨B, 0, none⟩))) rfl rfl rfl d2
        have hxx := kx
        subst hxx
        obtain ⟨M, x, hM, hq, hsz⟩ := hI.mem
        obtain ⟨c0, c1⟩ := hq.b.two
        exact wpOp_value (v := .int .i64 fw) (w' := W) hi rfl (by simp [execOp, go_sem, ex, c0]) (hI.value hi rfl rfl hsl rfl (Ext.refl g B W) hgl hrl (MU hI.mem hLi (by decide)))
      | 4, _ =>
        obtain rfl := Option.some.inj hi
        have d1 : L 1 = true := hdep { on := 1, ground := .data } (by simp) rfl
        obtain ⟨x0, ex0, kx0⟩ := hI.at 1 (d := 24) (k := .int) rfl rfl rfl d1
        obtain ⟨z0, rfl⟩ := kx0
        have d3 : L 3 = true := hdep { on := 3, ground := .data } (by simp) rfl
        obtain ⟨x1, ex1, kx1⟩ := hI.at 3 (d := 26) (k := .is (.int .i64 fw)) rfl rfl rfl d3
        have hk1 := kx1
        subst hk1
        obtain ⟨M, x, hM, hq, hsz⟩ := hI.mem
        refine wpOp_value (v := .slice (some ⟨W.heap.size, 0, none⟩) 4 4) (w' := W.alloc (.cells #[.int .i64 z0, .int .i64 fw, .int .i64 1100, .int .i64 1101] 3)) hi rfl (by simp [execOp, go_sem, ex0, ex1]) ?_
        exact hI.value hi rfl rfl hsl ⟨W.heap.size, [z0, fw, 1100, 1101], rfl, hsz, rfl, Own.new W _ [.int .i64 z0, .int .i64 fw, .int .i64 1100, .int .i64 1101]⟩ (Ext.below (below_alloc _ _)) hgl hrl ⟨M, x, by rw [cnt_upd (by decide) hLi]; omega, hq.grow (below_alloc _ _), Nat.le_trans hsz (by simp)⟩
      | 5, _ =>
        obtain rfl := Option.some.inj hi
        have hx := hI.held (s := 0) (v := .pointer (some ⟨g, 0, none⟩)) (by simp)
        exact wpOp_value (v := .pointer (some ⟨g, 0, none⟩)) (w' := W) hi rfl (by simp [execOp, go_sem, hx]) (hI.value hi rfl rfl hsl rfl (Ext.refl g B W) hgl hrl (MU hI.mem hLi (by decide)))
      | 6, _ =>
        obtain rfl := Option.some.inj hi
        have d5 : L 5 = true := hdep { on := 5, ground := .data } (by simp) rfl
        obtain ⟨x, ex, kx⟩ := hI.at 5 (d := 28) (k := .is (.pointer (some ⟨g, 0, none⟩))) rfl rfl rfl d5
        obtain rfl : x = .pointer (some ⟨g, 0, none⟩) := kx
        obtain ⟨M, x, hM, hq, hsz⟩ := hI.mem
        have hcl := cnt_lt (n := 11) (L := L) (by decide) hLi
        refine wpOp_enter (f := 50) (args := #[.pointer (some ⟨g, 0, none⟩), .int .i64 4]) (w' := W) hi rfl (by simp [execOp, go_sem, ex]) ?_
        refine (pick_any g A n c M 4 W hq.cur hn (by omega) (by omega) (by omega)).mono ?_
        rintro e W' ⟨r, rfl, hr, hC, hG⟩
        exact ⟨_, rfl, hI.value hi rfl rfl hsl ⟨r, by omega, rfl⟩ (Ext.of hG) hgl hrl ⟨M + 1, x, by rw [cnt_upd (by decide) hLi]; omega, hq.far hG hC, Nat.le_trans hsz hG.size⟩⟩
      | 7, _ =>
        obtain rfl := Option.some.inj hi
        have d4 : L 4 = true := hdep { on := 4, ground := .data } (by simp) rfl
        obtain ⟨x, ex, kx⟩ := hI.at 4 (d := 27) (k := .lit 4) rfl rfl rfl d4
        have d6 : L 6 = true := hdep { on := 6, ground := .data } (by simp) rfl
        obtain ⟨y, ey, ky⟩ := hI.at 6 (d := 29) (k := .nat 4) rfl rfl rfl d6
        obtain ⟨h, zs, rfl, hlo, hzl, ho⟩ := kx
        obtain ⟨r, hr, rfl⟩ := ky
        have hr0 : 0 ≤ (r : Int) ∧ (r : Int) < 4 := by omega
        exact wpOp_value (v := .pointer (some ⟨h, r, none⟩)) (w' := W) hi rfl (by simp [execOp, go_sem, ex, ey, hr0]) (hI.value hi rfl rfl hsl ⟨h, r, zs, rfl, hlo, by omega, ho⟩ (Ext.refl g B W) hgl hrl (MU hI.mem hLi (by decide)))
      | 8, _ =>
        obtain rfl := Option.some.inj hi
        have d7 : L 7 = true := hdep { on := 7, ground := .data } (by simp) rfl
        obtain ⟨x, ex, kx⟩ := hI.at 7 (d := 30) (k := .cell) rfl rfl rfl d7
        obtain ⟨h, j, zs, rfl, hlo, hj, ho⟩ := kx
        have hc : W.cell? ⟨h, j, none⟩ = some (.int .i64 (iat zs j)) := by rw [ho.cell, iz_iat hj]
        exact wpOp_value (v := .int .i64 (iat zs j)) (w' := W) hi rfl (by simp [execOp, go_sem, ex, hc]) (hI.value hi rfl rfl hsl ⟨_, rfl⟩ (Ext.refl g B W) hgl hrl (MU hI.mem hLi (by decide)))
      | 9, _ =>
        obtain rfl := Option.some.inj hi
        have hx := hI.held (s := 4) (v := .pointer (some ⟨B, 0, none⟩)) (by simp)
        exact wpOp_value (v := .pointer (some ⟨B, 1, none⟩)) (w' := W) hi rfl (by simp [execOp, go_sem, hx]) (hI.value hi rfl rfl hsl rfl (Ext.refl g B W) hgl hrl (MU hI.mem hLi (by decide)))
      | 10, _ =>
        obtain rfl := Option.some.inj hi
        have d9 : L 9 = true := hdep { on := 9, ground := .data } (by simp) rfl
        obtain ⟨x, ex, kx⟩ := hI.at 9 (d := 32) (k := .is (.pointer (some ⟨B, 1, none⟩))) rfl rfl rfl d9
        have d8 : L 8 = true := hdep { on := 8, ground := .data } (by simp) rfl
        obtain ⟨y, ey, ky⟩ := hI.at 8 (d := 31) (k := .int) rfl rfl rfl d8
        have hxx := kx
        subst hxx
        obtain ⟨z, rfl⟩ := ky
        obtain ⟨M, x, hM, hq, hsz⟩ := hI.mem
        obtain ⟨c0, c1⟩ := hq.b.two
        have f0 := hq.b.free 1
        refine wpOp_skip (w' := W.setCell ⟨B, 1, none⟩ (.int .i64 z)) hi rfl (by simp [execOp, go_sem, ex, ey, c1, f0]) ?_
        exact hI.none hi rfl (g := g) (r := B) (Ext.set _) hgl hrl ⟨M, z, by rw [cnt_upd (by decide) hLi]; omega, hq.set 1 _, by simpa using hsz⟩ _
    case fin =>
      intro L a W hall hI
      have e0 := hI.held (s := 0) (v := .pointer (some ⟨g, 0, none⟩)) (by simp)
      have e2 := hI.held (s := 2) (v := .pointer (some ⟨w.heap.size, 0, none⟩)) (by simp)
      have e3 := hI.held (s := 4) (v := .pointer (some ⟨B, 0, none⟩)) (by simp)
      obtain ⟨M, x, hM, q, hsz⟩ := hI.mem
      have hcl := cnt_le 11 L
      have ha : a = ⟨#[a.eval (.tmp 0), a.eval (.tmp 1), a.eval (.tmp 2), a.eval (.tmp 3), a.eval (.tmp 4), a.eval (.tmp 5), a.eval (.tmp 6), a.eval (.tmp 7), a.eval (.tmp 8), a.eval (.tmp 9), a.eval (.tmp 10), a.eval (.tmp 11), a.eval (.tmp 12), a.eval (.tmp 13), a.eval (.tmp 14), a.eval (.tmp 15), a.eval (.tmp 16), a.eval (.tmp 17), a.eval (.tmp 18), a.eval (.tmp 19), a.eval (.tmp 20), a.eval (.tmp 21), a.eval (.tmp 22), a.eval (.tmp 23), a.eval (.tmp 24), a.eval (.tmp 25), a.eval (.tmp 26), a.eval (.tmp 27), a.eval (.tmp 28), a.eval (.tmp 29), a.eval (.tmp 30), a.eval (.tmp 31), a.eval (.tmp 32), a.eval (.tmp 33)], []⟩ := act_list hI.size hI.defers
      rw [ha, eval_of e0, eval_of e2, eval_of e3]
      have Q := Lib.hid q
      clear hI ha e0 e2 e3 p hall q P0
      have r0 := Q.out.r.free 0
      have r1' := (Q.out.setR 0 (.int .i64 (fw))).r.free 1
      obtain ⟨d0, d1⟩ := Q.out.r.two
      obtain ⟨c0, c1⟩ := Q.out.b.two
      have Z := Lib.hid ((Q.out.setR 0 (.int .i64 (fw))).setR 1 (.int .i64 (x)))
      obtain ⟨e0, e1⟩ := Z.out.r.two
      go_wp2
      refine bodyPost_ret (v := .agg #[.int .i64 (fw), .int .i64 (x)]) (by simp [results, Try.results59, go_sem, e0, e1]) rfl ?_
      exact ⟨_, _, rfl, Z.out.cur.more (by omega), Z.out.gr⟩
  · have hn1 : ((r0 : Int) == 1) = false := by simp; omega
    go_upto_region 8 with (fail)
    have r0 := P0.out.r.free 0
    have r1' := (P0.out.setR 0 (.int .i64 (fw))).r.free 1
    obtain ⟨d0, d1⟩ := P0.out.r.two
    obtain ⟨c0, c1⟩ := P0.out.b.two
    have Z := Lib.hid ((P0.out.setR 0 (.int .i64 (fw))).setR 1 (.int .i64 (b)))
    obtain ⟨e0, e1⟩ := Z.out.r.two
    go_wp2
    refine bodyPost_ret (v := .agg #[.int .i64 (fw), .int .i64 (b)]) (by simp [results, Try.results59, go_sem, e0, e1]) rfl ?_
    exact ⟨_, _, rfl, Z.out.cur.more (by omega), Z.out.gr⟩
end Go.Proofs.Ytdphbfapccnhlaa
