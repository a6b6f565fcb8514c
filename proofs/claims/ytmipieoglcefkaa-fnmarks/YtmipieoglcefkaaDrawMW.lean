/-
  What is drawn for the law of watermarks: the walk. By gendrawm.py.
-/
import Derived.Test.YtmipieoglcefkaaDrawM
import Derived.Test.YtmipieoglcefkaaCurBadM
import Derived.Deep.DeepCutAuto
namespace Go.Proofs.Ytmipieoglcefkaa
open Go.RowKit

set_option maxRecDepth 100000 in
set_option maxHeartbeats 8000000 in
theorem drawMarkSet_any (A : Option Addr) (n c : Nat) (w : World) (hA : Byt w A n w.heap.size) (hn : n ≤ 1048576) :
    Calls Try.prog 11 #[.slice A n c] w fun e w' => ∃ (G : Int) (A' : Option Addr) (c' : Nat) (ms : List Mk) (x y : Int), e = .returned (.tuple #[msv G (.slice A' ms.length c'), .int .i64 x, .int .i64 y]) ∧ ms.length ≤ 8 ∧ w'.ownsRow w.heap.size 36 2 (.slice A' ms.length c') ms.length (mz ms) ∧ Below w.heap.size w w' := by
  go_enter Try.func11, Try.ntmps11
  go_wp2_with fail
  refine (l01Open_any A n c _ (by have := hA.below (below_alloc w (.cells #[.int .i64 0, .slice none 0 0] 26)); exact fun k hk => by obtain ⟨ad, b, e, hl, r⟩ := this k hk; exact ⟨ad, b, e, by simp; omega, r⟩) hn).mono ?_
  rintro e w1 ⟨g, hg, rfl, hC, hB1⟩
  obtain ⟨hO, hB⟩ := box_own (cs := [.int .i64 0, .slice none 0 0]) hB1
  simp only [World.size_alloc] at hg
  have hby := hA.below hB
  clear hB1 hA
  go_wp2_with fail
  refine (badMarks_any g A n c 0 _ hC hn (by omega)).mono ?_
  rintro e w2 ⟨G, A', c', ms, rfl, hml, hrow, hC2, hG2⟩
  have hgl0 := hC.lt
  have hgl2 := hC2.lt
  obtain ⟨m, hm⟩ : ∃ m, ms.length = m := ⟨_, rfl⟩
  have hp : DM w (w2.alloc (.cells #[.int .i64 G, .slice A' m c'] 26)) g A n c 200 w2.heap.size G (.slice A' m c') ms [.int .i64 0, .slice none 0 0] := by
    rw [hm] at hrow
    have hB2 : Below w.heap.size w w2 := hB.grown hG2 hB.size (fun k e => by cases e; omega)
    refine ⟨(own_far hO hG2 (by omega)).alloc _, Own.new w2 _ [_, _], ?_, (hC2.grow (below_alloc _ _)).more (by omega), below_trans hB2 (below_alloc _ _), by omega, by omega, by omega, owns_lt hrow hgl0, (hby.below ((Below.refl w.heap.size w1).grown hG2 hB.size (fun k e => by cases e; omega))).below ((below_alloc w2 _).mono hB2.size)⟩
    rw [hm]
    exact owns_grow (owns_base hrow (by omega)) (below_alloc _ _)
  have HP := Lib.hid hp
  rw [hm]
  clear hO hB hG2 hC hC2 hrow hby hp
  go_upto_region 3 with (fail)
  revert HP
  generalize hBx : w2.heap.size = Bx
  generalize w2.alloc (.cells #[.int .i64 G, .slice A' m c'] 26) = v0
  intro HP
  have p0 := HP.out
  clear HP
  have hgl : g < v0.heap.size := p0.cur.lt
  have hrl : w.heap.size < v0.heap.size := p0.o.lt
  refine wp_region_rinv [.is (msv G (.slice A' m c')), .is (.pointer (some ⟨g, 0, none⟩)), .nat 4, .is (.pointer (some ⟨g, 0, none⟩)), .nat 4, .is (.pointer (some ⟨g, 0, none⟩)), .int, .lit 3, .is (.pointer (some ⟨g, 0, none⟩)), .nat 3, .cell, .int, .is (.pointer (some ⟨g, 0, none⟩)), .nat 50, .is (.pointer (some ⟨g, 0, none⟩)), .nat 50, .is (.pointer (some ⟨g, 0, none⟩)), .int, .lit 5, .is (.pointer (some ⟨g, 0, none⟩)), .nat 5, .cell, .int, .int, .int, .int] [(2, .pointer (some ⟨w.heap.size, 0, none⟩)), (5, .pointer (some ⟨g, 0, none⟩)), (6, .pointer (some ⟨Bx, 0, none⟩))] 34 v0.heap.size []
    (fun L W => ∃ M cs, M ≤ 200 + 2 * cnt 26 L ∧ DM w W g A n c M Bx G (.slice A' m c') ms cs ∧ cs = (if L 23 = true then [.int .i64 G, .slice A' m c'] else [.int .i64 0, .slice none 0 0]) ∧ v0.heap.size ≤ W.heap.size) (by kernel_rfl) (by kernel_rfl) (by kernel_rfl) ?start ?step ?fin
  case start =>
    refine rinv_start rfl rfl ?_ ⟨200, _, Nat.le_add_right _ _, p0.grow (Below.refl _ _).drew, by simp, Nat.le_refl _⟩
    intro p hp
    simp only [List.mem_cons, List.not_mem_nil, or_false] at hp
    rcases hp with rfl | rfl | rfl <;> rfl
  case step =>
    intro L i o a W hi hLi hdep hsl hI
    have hlt : i < 26 := (Array.getElem?_eq_some_iff.1 hi).1
    have MU : ∀ {i : Nat}, (∃ M cs, M ≤ 200 + 2 * cnt 26 L ∧ DM w W g A n c M Bx G (.slice A' m c') ms cs ∧ cs = (if L 23 = true then [.int .i64 G, .slice A' m c'] else [.int .i64 0, .slice none 0 0]) ∧ v0.heap.size ≤ W.heap.size) → L i = false → (i < 26 ∧ i ≠ 23) → ∃ M cs, M ≤ 200 + 2 * cnt 26 (upd L i) ∧ DM w W g A n c M Bx G (.slice A' m c') ms cs ∧ cs = (if upd L i 23 = true then [.int .i64 G, .slice A' m c'] else [.int .i64 0, .slice none 0 0]) ∧ v0.heap.size ≤ W.heap.size := by
      rintro i ⟨M, cs, hM, hq, hcs, hsz⟩ hL ⟨hi1, hi2⟩
      exact ⟨M, cs, by rw [cnt_upd hi1 hL]; omega, hq, by rw [upd_ne (fun e => hi2 e.symm)]; exact hcs, hsz⟩
    match i, hlt with
    | 0, _ =>
      obtain rfl := Option.some.inj hi
      have ex := hI.held (s := 6) (v := .pointer (some ⟨Bx, 0, none⟩)) (by simp)
      obtain ⟨M, cs, hM, hq, hcs, hsz⟩ := hI.mem
      obtain ⟨c0, c1⟩ := hq.l.two
      exact wpOp_value (v := msv G (.slice A' m c')) (w' := W) hi rfl (by simp [execOp, go_sem, ex, c0, c1]) (hI.value hi rfl rfl hsl rfl (Ext.refl g w.heap.size W) hgl hrl (MU hI.mem hLi (by decide)))
    | 1, _ =>
      obtain rfl := Option.some.inj hi
      have hx := hI.held (s := 5) (v := .pointer (some ⟨g, 0, none⟩)) (by simp)
      exact wpOp_value (v := .pointer (some ⟨g, 0, none⟩)) (w' := W) hi rfl (by simp [execOp, go_sem, hx]) (hI.value hi rfl rfl hsl rfl (Ext.refl g w.heap.size W) hgl hrl (MU hI.mem hLi (by decide)))
    | 2, _ =>
      obtain rfl := Option.some.inj hi
      have d1 : L 1 = true := hdep { on := 1, ground := .data } (by simp) rfl
      obtain ⟨x, ex, kx⟩ := hI.at 1 (d := 12) (k := .is (.pointer (some ⟨g, 0, none⟩))) rfl rfl rfl d1
      obtain rfl : x = .pointer (some ⟨g, 0, none⟩) := kx
      obtain ⟨M, cs, hM, hq, hcs, hsz⟩ := hI.mem
      have hcl := cnt_lt (n := 26) (L := L) (by decide) hLi
      refine wpOp_enter (f := 32) (args := #[.pointer (some ⟨g, 0, none⟩), .int .i64 4]) (w' := W) hi rfl (by simp [execOp, go_sem, ex]) ?_
      refine (pick_any g A n c M 4 W hq.cur hn (by omega) (by omega) (by omega)).mono ?_
      rintro e W' ⟨r, rfl, hr, hC, hG⟩
      exact ⟨_, rfl, hI.value hi rfl rfl hsl ⟨r, by omega, rfl⟩ (Ext.of hG) hgl hrl ⟨M + 1, cs, by rw [cnt_upd (by decide) hLi]; omega, hq.far hG hC, by rw [upd_ne (by decide)]; exact hcs, Nat.le_trans hsz hG.size⟩⟩
    | 3, _ =>
      obtain rfl := Option.some.inj hi
      have hx := hI.held (s := 5) (v := .pointer (some ⟨g, 0, none⟩)) (by simp)
      exact wpOp_value (v := .pointer (some ⟨g, 0, none⟩)) (w' := W) hi rfl (by simp [execOp, go_sem, hx]) (hI.value hi rfl rfl hsl rfl (Ext.refl g w.heap.size W) hgl hrl (MU hI.mem hLi (by decide)))
    | 4, _ =>
      obtain rfl := Option.some.inj hi
      have d3 : L 3 = true := hdep { on := 3, ground := .data } (by simp) rfl
      obtain ⟨x, ex, kx⟩ := hI.at 3 (d := 14) (k := .is (.pointer (some ⟨g, 0, none⟩))) rfl rfl rfl d3
      obtain rfl : x = .pointer (some ⟨g, 0, none⟩) := kx
      obtain ⟨M, cs, hM, hq, hcs, hsz⟩ := hI.mem
      have hcl := cnt_lt (n := 26) (L := L) (by decide) hLi
      refine wpOp_enter (f := 32) (args := #[.pointer (some ⟨g, 0, none⟩), .int .i64 4]) (w' := W) hi rfl (by simp [execOp, go_sem, ex]) ?_
      refine (pick_any g A n c M 4 W hq.cur hn (by omega) (by omega) (by omega)).mono ?_
      rintro e W' ⟨r, rfl, hr, hC, hG⟩
      exact ⟨_, rfl, hI.value hi rfl rfl hsl ⟨r, by omega, rfl⟩ (Ext.of hG) hgl hrl ⟨M + 1, cs, by rw [cnt_upd (by decide) hLi]; omega, hq.far hG hC, by rw [upd_ne (by decide)]; exact hcs, Nat.le_trans hsz hG.size⟩⟩
    | 5, _ =>
      obtain rfl := Option.some.inj hi
      have hx := hI.held (s := 5) (v := .pointer (some ⟨g, 0, none⟩)) (by simp)
      exact wpOp_value (v := .pointer (some ⟨g, 0, none⟩)) (w' := W) hi rfl (by simp [execOp, go_sem, hx]) (hI.value hi rfl rfl hsl rfl (Ext.refl g w.heap.size W) hgl hrl (MU hI.mem hLi (by decide)))
    | 6, _ =>
      obtain rfl := Option.some.inj hi
      have d5 : L 5 = true := hdep { on := 5, ground := .data } (by simp) rfl
      obtain ⟨x, ex, kx⟩ := hI.at 5 (d := 16) (k := .is (.pointer (some ⟨g, 0, none⟩))) rfl rfl rfl d5
      obtain rfl : x = .pointer (some ⟨g, 0, none⟩) := kx
      obtain ⟨M, cs, hM, hq, hcs, hsz⟩ := hI.mem
      have hcl := cnt_lt (n := 26) (L := L) (by decide) hLi
      refine wpOp_enter (f := 33) (args := #[.pointer (some ⟨g, 0, none⟩)]) (w' := W) hi rfl (by simp [execOp, go_sem, ex]) ?_
      refine (raw_any g A n c M W hq.cur hn (by omega)).mono ?_
      rintro e W' ⟨r, rfl, hr1, hr2, hC, hG⟩
      exact ⟨_, rfl, hI.value hi rfl rfl hsl ⟨r, rfl⟩ (Ext.of hG) hgl hrl ⟨M + 2, cs, by rw [cnt_upd (by decide) hLi]; omega, hq.far hG hC, by rw [upd_ne (by decide)]; exact hcs, Nat.le_trans hsz hG.size⟩⟩
    | 7, _ =>
      obtain rfl := Option.some.inj hi
      have d2 : L 2 = true := hdep { on := 2, ground := .data } (by simp) rfl
      obtain ⟨x0, ex0, kx0⟩ := hI.at 2 (d := 13) (k := .nat 4) rfl rfl rfl d2
      obtain ⟨z0, hz0, rfl⟩ := kx0
      have d4 : L 4 = true := hdep { on := 4, ground := .data } (by simp) rfl
      obtain ⟨x1, ex1, kx1⟩ := hI.at 4 (d := 15) (k := .nat 4) rfl rfl rfl d4
      obtain ⟨z1, hz1, rfl⟩ := kx1
      have d6 : L 6 = true := hdep { on := 6, ground := .data } (by simp) rfl
      obtain ⟨x2, ex2, kx2⟩ := hI.at 6 (d := 17) (k := .int) rfl rfl rfl d6
      obtain ⟨z2, rfl⟩ := kx2
      obtain ⟨M, cs, hM, hq, hcs, hsz⟩ := hI.mem
      refine wpOp_value (v := .slice (some ⟨W.heap.size, 0, none⟩) 3 3) (w' := W.alloc (.cells #[.int .i64 (z0 : Int), .int .i64 (z1 : Int), .int .i64 z2] 3)) hi rfl (by simp [execOp, go_sem, ex0, ex1, ex2]) ?_
      exact hI.value hi rfl rfl hsl ⟨W.heap.size, [(z0 : Int), (z1 : Int), z2], rfl, hsz, rfl, Own.new W _ [.int .i64 (z0 : Int), .int .i64 (z1 : Int), .int .i64 z2]⟩ (Ext.below (below_alloc _ _)) hgl hrl ⟨M, cs, by rw [cnt_upd (by decide) hLi]; omega, hq.grow (below_alloc _ _), by rw [upd_ne (by decide)]; exact hcs, Nat.le_trans hsz (by simp)⟩
    | 8, _ =>
      obtain rfl := Option.some.inj hi
      have hx := hI.held (s := 5) (v := .pointer (some ⟨g, 0, none⟩)) (by simp)
      exact wpOp_value (v := .pointer (some ⟨g, 0, none⟩)) (w' := W) hi rfl (by simp [execOp, go_sem, hx]) (hI.value hi rfl rfl hsl rfl (Ext.refl g w.heap.size W) hgl hrl (MU hI.mem hLi (by decide)))
    | 9, _ =>
      obtain rfl := Option.some.inj hi
      have d8 : L 8 = true := hdep { on := 8, ground := .data } (by simp) rfl
      obtain ⟨x, ex, kx⟩ := hI.at 8 (d := 19) (k := .is (.pointer (some ⟨g, 0, none⟩))) rfl rfl rfl d8
      obtain rfl : x = .pointer (some ⟨g, 0, none⟩) := kx
      obtain ⟨M, cs, hM, hq, hcs, hsz⟩ := hI.mem
      have hcl := cnt_lt (n := 26) (L := L) (by decide) hLi
      refine wpOp_enter (f := 32) (args := #[.pointer (some ⟨g, 0, none⟩), .int .i64 3]) (w' := W) hi rfl (by simp [execOp, go_sem, ex]) ?_
      refine (pick_any g A n c M 3 W hq.cur hn (by omega) (by omega) (by omega)).mono ?_
      rintro e W' ⟨r, rfl, hr, hC, hG⟩
      exact ⟨_, rfl, hI.value hi rfl rfl hsl ⟨r, by omega, rfl⟩ (Ext.of hG) hgl hrl ⟨M + 1, cs, by rw [cnt_upd (by decide) hLi]; omega, hq.far hG hC, by rw [upd_ne (by decide)]; exact hcs, Nat.le_trans hsz hG.size⟩⟩
    | 10, _ =>
      obtain rfl := Option.some.inj hi
      have d7 : L 7 = true := hdep { on := 7, ground := .data } (by simp) rfl
      obtain ⟨x, ex, kx⟩ := hI.at 7 (d := 18) (k := .lit 3) rfl rfl rfl d7
      have d9 : L 9 = true := hdep { on := 9, ground := .data } (by simp) rfl
      obtain ⟨y, ey, ky⟩ := hI.at 9 (d := 20) (k := .nat 3) rfl rfl rfl d9
      obtain ⟨h, zs, rfl, hlo, hzl, ho⟩ := kx
      obtain ⟨r, hr, rfl⟩ := ky
      have hr0 : 0 ≤ (r : Int) ∧ (r : Int) < 3 := by omega
      exact wpOp_value (v := .pointer (some ⟨h, r, none⟩)) (w' := W) hi rfl (by simp [execOp, go_sem, ex, ey, hr0]) (hI.value hi rfl rfl hsl ⟨h, r, zs, rfl, hlo, by omega, ho⟩ (Ext.refl g w.heap.size W) hgl hrl (MU hI.mem hLi (by decide)))
    | 11, _ =>
      obtain rfl := Option.some.inj hi
      have d10 : L 10 = true := hdep { on := 10, ground := .data } (by simp) rfl
      obtain ⟨x, ex, kx⟩ := hI.at 10 (d := 21) (k := .cell) rfl rfl rfl d10
      obtain ⟨h, j, zs, rfl, hlo, hj, ho⟩ := kx
      have hc : W.cell? ⟨h, j, none⟩ = some (.int .i64 (iat zs j)) := by rw [ho.cell, iz_iat hj]
      exact wpOp_value (v := .int .i64 (iat zs j)) (w' := W) hi rfl (by simp [execOp, go_sem, ex, hc]) (hI.value hi rfl rfl hsl ⟨_, rfl⟩ (Ext.refl g w.heap.size W) hgl hrl (MU hI.mem hLi (by decide)))
    | 12, _ =>
      obtain rfl := Option.some.inj hi
      have hx := hI.held (s := 5) (v := .pointer (some ⟨g, 0, none⟩)) (by simp)
      exact wpOp_value (v := .pointer (some ⟨g, 0, none⟩)) (w' := W) hi rfl (by simp [execOp, go_sem, hx]) (hI.value hi rfl rfl hsl rfl (Ext.refl g w.heap.size W) hgl hrl (MU hI.mem hLi (by decide)))
    | 13, _ =>
      obtain rfl := Option.some.inj hi
      have d12 : L 12 = true := hdep { on := 12, ground := .data } (by simp) rfl
      obtain ⟨x, ex, kx⟩ := hI.at 12 (d := 23) (k := .is (.pointer (some ⟨g, 0, none⟩))) rfl rfl rfl d12
      obtain rfl : x = .pointer (some ⟨g, 0, none⟩) := kx
      obtain ⟨M, cs, hM, hq, hcs, hsz⟩ := hI.mem
      have hcl := cnt_lt (n := 26) (L := L) (by decide) hLi
      refine wpOp_enter (f := 32) (args := #[.pointer (some ⟨g, 0, none⟩), .int .i64 50]) (w' := W) hi rfl (by simp [execOp, go_sem, ex]) ?_
      refine (pick_any g A n c M 50 W hq.cur hn (by omega) (by omega) (by omega)).mono ?_
      rintro e W' ⟨r, rfl, hr, hC, hG⟩
      exact ⟨_, rfl, hI.value hi rfl rfl hsl ⟨r, by omega, rfl⟩ (Ext.of hG) hgl hrl ⟨M + 1, cs, by rw [cnt_upd (by decide) hLi]; omega, hq.far hG hC, by rw [upd_ne (by decide)]; exact hcs, Nat.le_trans hsz hG.size⟩⟩
    | 14, _ =>
      obtain rfl := Option.some.inj hi
      have hx := hI.held (s := 5) (v := .pointer (some ⟨g, 0, none⟩)) (by simp)
      exact wpOp_value (v := .pointer (some ⟨g, 0, none⟩)) (w' := W) hi rfl (by simp [execOp, go_sem, hx]) (hI.value hi rfl rfl hsl rfl (Ext.refl g w.heap.size W) hgl hrl (MU hI.mem hLi (by decide)))
    | 15, _ =>
      obtain rfl := Option.some.inj hi
      have d14 : L 14 = true := hdep { on := 14, ground := .data } (by simp) rfl
      obtain ⟨x, ex, kx⟩ := hI.at 14 (d := 25) (k := .is (.pointer (some ⟨g, 0, none⟩))) rfl rfl rfl d14
      obtain rfl : x = .pointer (some ⟨g, 0, none⟩) := kx
      obtain ⟨M, cs, hM, hq, hcs, hsz⟩ := hI.mem
      have hcl := cnt_lt (n := 26) (L := L) (by decide) hLi
      refine wpOp_enter (f := 32) (args := #[.pointer (some ⟨g, 0, none⟩), .int .i64 50]) (w' := W) hi rfl (by simp [execOp, go_sem, ex]) ?_
      refine (pick_any g A n c M 50 W hq.cur hn (by omega) (by omega) (by omega)).mono ?_
      rintro e W' ⟨r, rfl, hr, hC, hG⟩
      exact ⟨_, rfl, hI.value hi rfl rfl hsl ⟨r, by omega, rfl⟩ (Ext.of hG) hgl hrl ⟨M + 1, cs, by rw [cnt_upd (by decide) hLi]; omega, hq.far hG hC, by rw [upd_ne (by decide)]; exact hcs, Nat.le_trans hsz hG.size⟩⟩
    | 16, _ =>
      obtain rfl := Option.some.inj hi
      have hx := hI.held (s := 5) (v := .pointer (some ⟨g, 0, none⟩)) (by simp)
      exact wpOp_value (v := .pointer (some ⟨g, 0, none⟩)) (w' := W) hi rfl (by simp [execOp, go_sem, hx]) (hI.value hi rfl rfl hsl rfl (Ext.refl g w.heap.size W) hgl hrl (MU hI.mem hLi (by decide)))
    | 17, _ =>
      obtain rfl := Option.some.inj hi
      have d16 : L 16 = true := hdep { on := 16, ground := .data } (by simp) rfl
      obtain ⟨x, ex, kx⟩ := hI.at 16 (d := 27) (k := .is (.pointer (some ⟨g, 0, none⟩))) rfl rfl rfl d16
      obtain rfl : x = .pointer (some ⟨g, 0, none⟩) := kx
      obtain ⟨M, cs, hM, hq, hcs, hsz⟩ := hI.mem
      have hcl := cnt_lt (n := 26) (L := L) (by decide) hLi
      refine wpOp_enter (f := 33) (args := #[.pointer (some ⟨g, 0, none⟩)]) (w' := W) hi rfl (by simp [execOp, go_sem, ex]) ?_
      refine (raw_any g A n c M W hq.cur hn (by omega)).mono ?_
      rintro e W' ⟨r, rfl, hr1, hr2, hC, hG⟩
      exact ⟨_, rfl, hI.value hi rfl rfl hsl ⟨r, rfl⟩ (Ext.of hG) hgl hrl ⟨M + 2, cs, by rw [cnt_upd (by decide) hLi]; omega, hq.far hG hC, by rw [upd_ne (by decide)]; exact hcs, Nat.le_trans hsz hG.size⟩⟩
    | 18, _ =>
      obtain rfl := Option.some.inj hi
      have d13 : L 13 = true := hdep { on := 13, ground := .data } (by simp) rfl
      obtain ⟨x0, ex0, kx0⟩ := hI.at 13 (d := 24) (k := .nat 50) rfl rfl rfl d13
      obtain ⟨z0, hz0, rfl⟩ := kx0
      have d15 : L 15 = true := hdep { on := 15, ground := .data } (by simp) rfl
      obtain ⟨x1, ex1, kx1⟩ := hI.at 15 (d := 26) (k := .nat 50) rfl rfl rfl d15
      obtain ⟨z1, hz1, rfl⟩ := kx1
      have d17 : L 17 = true := hdep { on := 17, ground := .data } (by simp) rfl
      obtain ⟨x2, ex2, kx2⟩ := hI.at 17 (d := 28) (k := .int) rfl rfl rfl d17
      obtain ⟨z2, rfl⟩ := kx2
      obtain ⟨M, cs, hM, hq, hcs, hsz⟩ := hI.mem
      refine wpOp_value (v := .slice (some ⟨W.heap.size, 0, none⟩) 5 5) (w' := W.alloc (.cells #[.int .i64 (z0 : Int), .int .i64 (z1 : Int), .int .i64 z2, .int .i64 1000, .int .i64 1001] 3)) hi rfl (by simp [execOp, go_sem, ex0, ex1, ex2]) ?_
      exact hI.value hi rfl rfl hsl ⟨W.heap.size, [(z0 : Int), (z1 : Int), z2, 1000, 1001], rfl, hsz, rfl, Own.new W _ [.int .i64 (z0 : Int), .int .i64 (z1 : Int), .int .i64 z2, .int .i64 1000, .int .i64 1001]⟩ (Ext.below (below_alloc _ _)) hgl hrl ⟨M, cs, by rw [cnt_upd (by decide) hLi]; omega, hq.grow (below_alloc _ _), by rw [upd_ne (by decide)]; exact hcs, Nat.le_trans hsz (by simp)⟩
    | 19, _ =>
      obtain rfl := Option.some.inj hi
      have hx := hI.held (s := 5) (v := .pointer (some ⟨g, 0, none⟩)) (by simp)
      exact wpOp_value (v := .pointer (some ⟨g, 0, none⟩)) (w' := W) hi rfl (by simp [execOp, go_sem, hx]) (hI.value hi rfl rfl hsl rfl (Ext.refl g w.heap.size W) hgl hrl (MU hI.mem hLi (by decide)))
    | 20, _ =>
      obtain rfl := Option.some.inj hi
      have d19 : L 19 = true := hdep { on := 19, ground := .data } (by simp) rfl
      obtain ⟨x, ex, kx⟩ := hI.at 19 (d := 30) (k := .is (.pointer (some ⟨g, 0, none⟩))) rfl rfl rfl d19
      obtain rfl : x = .pointer (some ⟨g, 0, none⟩) := kx
      obtain ⟨M, cs, hM, hq, hcs, hsz⟩ := hI.mem
      have hcl := cnt_lt (n := 26) (L := L) (by decide) hLi
      refine wpOp_enter (f := 32) (args := #[.pointer (some ⟨g, 0, none⟩), .int .i64 5]) (w' := W) hi rfl (by simp [execOp, go_sem, ex]) ?_
      refine (pick_any g A n c M 5 W hq.cur hn (by omega) (by omega) (by omega)).mono ?_
      rintro e W' ⟨r, rfl, hr, hC, hG⟩
      exact ⟨_, rfl, hI.value hi rfl rfl hsl ⟨r, by omega, rfl⟩ (Ext.of hG) hgl hrl ⟨M + 1, cs, by rw [cnt_upd (by decide) hLi]; omega, hq.far hG hC, by rw [upd_ne (by decide)]; exact hcs, Nat.le_trans hsz hG.size⟩⟩
    | 21, _ =>
      obtain rfl := Option.some.inj hi
      have d18 : L 18 = true := hdep { on := 18, ground := .data } (by simp) rfl
      obtain ⟨x, ex, kx⟩ := hI.at 18 (d := 29) (k := .lit 5) rfl rfl rfl d18
      have d20 : L 20 = true := hdep { on := 20, ground := .data } (by simp) rfl
      obtain ⟨y, ey, ky⟩ := hI.at 20 (d := 31) (k := .nat 5) rfl rfl rfl d20
      obtain ⟨h, zs, rfl, hlo, hzl, ho⟩ := kx
      obtain ⟨r, hr, rfl⟩ := ky
      have hr0 : 0 ≤ (r : Int) ∧ (r : Int) < 5 := by omega
      exact wpOp_value (v := .pointer (some ⟨h, r, none⟩)) (w' := W) hi rfl (by simp [execOp, go_sem, ex, ey, hr0]) (hI.value hi rfl rfl hsl ⟨h, r, zs, rfl, hlo, by omega, ho⟩ (Ext.refl g w.heap.size W) hgl hrl (MU hI.mem hLi (by decide)))
    | 22, _ =>
      obtain rfl := Option.some.inj hi
      have d21 : L 21 = true := hdep { on := 21, ground := .data } (by simp) rfl
      obtain ⟨x, ex, kx⟩ := hI.at 21 (d := 32) (k := .cell) rfl rfl rfl d21
      obtain ⟨h, j, zs, rfl, hlo, hj, ho⟩ := kx
      have hc : W.cell? ⟨h, j, none⟩ = some (.int .i64 (iat zs j)) := by rw [ho.cell, iz_iat hj]
      exact wpOp_value (v := .int .i64 (iat zs j)) (w' := W) hi rfl (by simp [execOp, go_sem, ex, hc]) (hI.value hi rfl rfl hsl ⟨_, rfl⟩ (Ext.refl g w.heap.size W) hgl hrl (MU hI.mem hLi (by decide)))
    | 23, _ =>
      obtain rfl := Option.some.inj hi
      have d0 : L 0 = true := hdep { on := 0, ground := .data } (by simp) rfl
      obtain ⟨x, ex, kx⟩ := hI.at 0 (d := 11) (k := .is (msv G (.slice A' m c'))) rfl rfl rfl d0
      have hxx := kx
      subst hxx
      have hx := hI.held (s := 2) (v := .pointer (some ⟨w.heap.size, 0, none⟩)) (by simp)
      obtain ⟨M, cs, hM, hq, hcs, hsz⟩ := hI.mem
      rw [hLi, if_neg (by decide)] at hcs
      subst hcs
      obtain ⟨c0, c1⟩ := hq.o.two
      have f0 := hq.o.free 0
      have f1 := hq.o.free 1
      refine wpOp_skip (w' := (W.setCell ⟨w.heap.size, 0, none⟩ (.int .i64 G)).setCell ⟨w.heap.size, 1, none⟩ (.slice A' m c')) hi rfl (by simp [execOp, go_sem, ex, hx, c0, c1, f0, f1]) ?_
      refine hI.none hi rfl (g := g) (r := w.heap.size) ⟨by simp, fun k hk hg hr => ?_⟩ hgl hrl ⟨M, _, by rw [cnt_upd (by decide) hLi]; omega, hq.put, by rw [upd_at, if_pos rfl], by simpa using hsz⟩ _
      exact (Below.heap_setCell _ _ _ k (by show k ≠ w.heap.size; exact hr)).trans (Below.heap_setCell _ _ _ k (by show k ≠ w.heap.size; exact hr))
    | 24, _ =>
      obtain rfl := Option.some.inj hi
      have d11 : L 11 = true := hdep { on := 11, ground := .data } (by simp) rfl
      obtain ⟨x, ex, kx⟩ := hI.at 11 (d := 22) (k := .int) rfl rfl rfl d11
      obtain ⟨z, rfl⟩ := kx
      exact wpOp_value (v := .int .i64 z) (w' := W) hi rfl (by simp [execOp, go_sem, ex]) (hI.value hi rfl rfl hsl ⟨_, rfl⟩ (Ext.refl g w.heap.size W) hgl hrl (MU hI.mem hLi (by decide)))
    | 25, _ =>
      obtain rfl := Option.some.inj hi
      have d22 : L 22 = true := hdep { on := 22, ground := .data } (by simp) rfl
      obtain ⟨x, ex, kx⟩ := hI.at 22 (d := 33) (k := .int) rfl rfl rfl d22
      obtain ⟨z, rfl⟩ := kx
      exact wpOp_value (v := .int .i64 z) (w' := W) hi rfl (by simp [execOp, go_sem, ex]) (hI.value hi rfl rfl hsl ⟨_, rfl⟩ (Ext.refl g w.heap.size W) hgl hrl (MU hI.mem hLi (by decide)))
  case fin =>
    intro L a W hall hI
    obtain ⟨_, ex, z, rfl⟩ := hI.at 24 (d := 3) (k := .int) rfl rfl rfl (hall 24 (by decide))
    obtain ⟨_, ey, z', rfl⟩ := hI.at 25 (d := 4) (k := .int) rfl rfl rfl (hall 25 (by decide))
    obtain ⟨M, cs, hM, hq, hcs, hsz⟩ := hI.mem
    rw [hall 23 (by decide), if_pos rfl] at hcs
    subst hcs
    have e2 : a.tmps[2]? = some (.pointer (some ⟨w.heap.size, 0, none⟩)) := hI.held (by simp)
    have ha : a = ⟨#[a.eval (.tmp 0), a.eval (.tmp 1), a.eval (.tmp 2), a.eval (.tmp 3), a.eval (.tmp 4), a.eval (.tmp 5), a.eval (.tmp 6), a.eval (.tmp 7), a.eval (.tmp 8), a.eval (.tmp 9), a.eval (.tmp 10), a.eval (.tmp 11), a.eval (.tmp 12), a.eval (.tmp 13), a.eval (.tmp 14), a.eval (.tmp 15), a.eval (.tmp 16), a.eval (.tmp 17), a.eval (.tmp 18), a.eval (.tmp 19), a.eval (.tmp 20), a.eval (.tmp 21), a.eval (.tmp 22), a.eval (.tmp 23), a.eval (.tmp 24), a.eval (.tmp 25), a.eval (.tmp 26), a.eval (.tmp 27), a.eval (.tmp 28), a.eval (.tmp 29), a.eval (.tmp 30), a.eval (.tmp 31), a.eval (.tmp 32), a.eval (.tmp 33)], []⟩ := act_list hI.size hI.defers
    rw [ha, eval_of e2, eval_of ex, eval_of ey]
    obtain ⟨c0, c1⟩ := hq.o.two
    have HR := Lib.hid (And.intro hq.row hq.B)
    clear hI hq ha e2 ex ey p0
    go_wp2
    refine bodyPost_ret (v := .tuple #[msv G (.slice A' m c'), .int .i64 z, .int .i64 z']) (by simp [results, Try.results11, go_sem, c0, c1]) rfl ?_
    obtain ⟨h1, h2⟩ := HR.out
    rw [← hm] at h1 ⊢
    exact ⟨G, A', c', ms, z, z', rfl, hml, h1, h2⟩
end Go.Proofs.Ytmipieoglcefkaa
