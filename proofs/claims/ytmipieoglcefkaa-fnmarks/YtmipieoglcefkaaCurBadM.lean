/-
  The cursor's badMarks: what it returns. By gencurbadm.py.
-/
import Derived.Test.YtmipieoglcefkaaCurMW
import Derived.Test.YtmipieoglcefkaaZeroApp
import Derived.Test.YtmipieoglcefkaaRegInv
namespace Go.Proofs.Ytmipieoglcefkaa
open Go.RowKit

theorem upd_true {L : Nat → Bool} {i j : Nat} (h : L j = true) : upd L i j = true := by
  unfold upd
  split
  · rfl
  · exact h
theorem mz_set_lo {ms : List Mk} {k : Nat} (h : k < ms.length) (x : Int) : (mz ms).set (k * 2) (.int .i64 x) = mz (ms.set k (x, (mat ms k).2)) := by
  rw [← mz_set h, List.set_comm _ _ (by omega), set_self (mz_hi h)]
theorem mz_take : ∀ (ms : List Mk) (k : Nat), mz (ms.take k) = (mz ms).take (k * 2)
  | _, 0 => by simp [mz]
  | [], k + 1 => by simp [mz]
  | p :: ps, k + 1 => by rw [List.take_succ_cons, mz_cons, mz_cons, mz_take ps k, show (k + 1) * 2 = k * 2 + 1 + 1 by omega]; simp
theorem zero4 : (Builtin.zeroCells (Value.agg #[.int .i64 0, .bool false]).cells 4).toList = mz (List.replicate 4 (0, false)) := by
  simp [Builtin.zeroCells, Value.cells, mz, List.range_succ]
section
variable {w W : World} {g : Nat} {A : Option Addr} {n c M B : Nat} {G : Int} {v : Value} {ms : List Mk}
/-- a store into the marks' own variable -/
theorem MS.putG (p : MS w W g A n c M B G v ms) (z : Int) : MS w (W.setCell ⟨B, 0, none⟩ (.int .i64 z)) g A n c M B z v ms := by
  have hg := p.hg
  have hB := p.hB
  have hO : W.grownBy (W.setCell ⟨B, 0, none⟩ (.int .i64 z)) (some B) := only_set (World.grownBy.refl _ _)
  refine ⟨own_kept p.b0 hO (by simp; omega), p.bB.set 0 _, owns_far p.row hO (types_farS p.bB (by decide) p.row), ?_, ?_, p.hg, p.hB⟩
  · obtain ⟨i, s, ho, hi, hs⟩ := p.cur.ex
    exact ⟨⟨i, s, own_kept ho hO (by simp; omega), hi, hs⟩, p.cur.byt.below ((Below.refl g W).setCell (by simp; omega) _)⟩
  · have h := p.gr
    exact ⟨h.os, h.tape, h.output, by simpa using h.size, fun k hk hne' => (hO.block k (Nat.lt_of_lt_of_le hk h.size) (by simp; omega)).trans (h.block k hk hne')⟩
theorem MS.putV (p : MS w W g A n c M B G v ms) {v' : Value} {rs : List Mk} (hr : W.ownsRow w.heap.size 36 2 v' rs.length (mz rs)) : MS w (W.setCell ⟨B, 1, none⟩ v') g A n c M B G v' rs := by
  have hg := p.hg
  have hB := p.hB
  have hO : W.grownBy (W.setCell ⟨B, 1, none⟩ v') (some B) := only_set (World.grownBy.refl _ _)
  refine ⟨own_kept p.b0 hO (by simp; omega), p.bB.set 1 _, owns_far hr hO (types_farS p.bB (by decide) hr), ?_, ?_, p.hg, p.hB⟩
  · obtain ⟨i, s, ho, hi, hs⟩ := p.cur.ex
    exact ⟨⟨i, s, own_kept ho hO (by simp; omega), hi, hs⟩, p.cur.byt.below ((Below.refl g W).setCell (by simp; omega) _)⟩
  · have h := p.gr
    exact ⟨h.os, h.tape, h.output, by simpa using h.size, fun k hk hne' => (hO.block k (Nat.lt_of_lt_of_le hk h.size) (by simp; omega)).trans (h.block k hk hne')⟩
/-- a world in which only the row's block has turned -/
theorem MS.byRow {W' : World} (p : MS w W g A n c M B G v ms) {gr : Nat} (hv : v.ownBlock = some gr) (hO : W.grownBy W' (some gr)) {u : Value} {rs : List Mk} (hb : Own W' B 26 [.int .i64 G, u]) (hr : W'.ownsRow w.heap.size 36 2 u rs.length (mz rs)) : MS w W' g A n c M B G u rs := by
  have hg := p.hg
  have hgr := (p.row.lt gr hv).1
  have h0 := types_farS p.b0 (by decide) p.row
  have hne : w.heap.size ≠ gr := fun e => h0 (by rw [hv, e])
  refine ⟨own_kept p.b0 hO (by simpa using hne), hb, hr, ?_, ?_, p.hg, p.hB⟩
  · obtain ⟨i, s, ho, hi, hs⟩ := p.cur.ex
    exact ⟨⟨i, s, own_kept ho hO (by simp; omega), hi, hs⟩, p.cur.byt.below ((Below.refl g W).grown hO (Nat.le_of_lt p.cur.lt) (fun k e => by cases e; omega))⟩
  · have h := p.gr
    exact ⟨hO.os.trans h.os, hO.tape.trans h.tape, hO.output.trans h.output, Nat.le_trans h.size hO.size, fun k hk hne' => (hO.block k (Nat.lt_of_lt_of_le hk h.size) (by simp; omega)).trans (h.block k hk hne')⟩
theorem MS.putRow {gr k c' r : Nat} (p : MS w W g A n c M B G (.slice (some ⟨gr, 0, none⟩) k c') ms) (hl : ms.length = k) (hr : r < k) (z : Int) : MS w (W.setCell ⟨gr, r * 2, none⟩ (.int .i64 z)) g A n c M B G (.slice (some ⟨gr, 0, none⟩) k c') (ms.set r (z, (mat ms r).2)) := by
  have hrow := p.row
  rw [hl] at hrow
  have s0 := hrow.stored (r * 2) (.int .i64 z)
  have hs := s0.1
  rw [mz_set_lo (by omega)] at hs
  have hB := types_farS p.bB (by decide) p.row
  refine p.byRow (gr := gr) rfl s0.2 (own_kept p.bB s0.2 (fun e => hB e.symm)) ?_
  rw [List.length_set, hl]
  exact hs
theorem MS.fin {A' : Option Addr} {k c' : Nat} (p : MS w W g A n c M B G (.slice A' k c') ms) :
    ((W.setCell ⟨w.heap.size, 0, none⟩ (.int .i64 G)).setCell ⟨w.heap.size, 1, none⟩ (.slice A' k c')).ownsRow w.heap.size 36 2 (.slice A' k c') ms.length (mz ms) ∧
    Cur ((W.setCell ⟨w.heap.size, 0, none⟩ (.int .i64 G)).setCell ⟨w.heap.size, 1, none⟩ (.slice A' k c')) g A n c M ∧ w.grownBy ((W.setCell ⟨w.heap.size, 0, none⟩ (.int .i64 G)).setCell ⟨w.heap.size, 1, none⟩ (.slice A' k c')) (some g) := by
  have hg := p.hg
  have hC := p.cur
  have hO : W.grownBy ((W.setCell ⟨w.heap.size, 0, none⟩ (.int .i64 G)).setCell ⟨w.heap.size, 1, none⟩ (.slice A' k c')) (some w.heap.size) := only_set (only_set (World.grownBy.refl _ _))
  refine ⟨owns_far p.row hO (types_farS p.b0 (by decide) p.row), ?_, ?_⟩
  · obtain ⟨i, s, ho, hi, hs⟩ := hC.ex
    exact ⟨⟨i, s, own_kept ho hO (by simp; omega), hi, hs⟩, hC.byt.below (((Below.refl g W).setCell (by simp; omega) _).setCell (by simp; omega) _)⟩
  · have h := p.gr
    exact ⟨h.os, h.tape, h.output, by simpa using h.size, fun k hk hne' => (hO.block k (Nat.lt_of_lt_of_le hk h.size) (by simp; omega)).trans (h.block k hk hne')⟩
end
theorem bad_ret {w w' : World} {g : Nat} {A : Option Addr} {n c M : Nat} {G : Int} {A' : Option Addr} {k c' : Nat} {rs : List Mk} {e : Ending} (he : e = .returned (msv G (.slice A' k c'))) (hk : rs.length = k) (h8 : k ≤ 8) (h1 : w'.ownsRow w.heap.size 36 2 (.slice A' k c') rs.length (mz rs)) (h2 : Cur w' g A n c M) (h3 : w.grownBy w' (some g)) :
    ∃ (G : Int) (A' : Option Addr) (c' : Nat) (ms : List Mk), e = .returned (msv G (.slice A' ms.length c')) ∧ ms.length ≤ 8 ∧ w'.ownsRow w.heap.size 36 2 (.slice A' ms.length c') ms.length (mz ms) ∧ Cur w' g A n c M ∧ w.grownBy w' (some g) := by
  subst hk
  exact ⟨G, A', c', rs, he, h8, h1, h2, h3⟩

set_option maxRecDepth 100000 in
set_option maxHeartbeats 8000000 in
theorem badMarks_any (g : Nat) (A : Option Addr) (n c m : Nat) (w : World) (h : Cur w g A n c m) (hn : n ≤ 1048576) (hm : m ≤ 1000) :
    Calls Try.prog 31 #[.pointer (some ⟨g, 0, none⟩)] w fun e w' => ∃ (G : Int) (A' : Option Addr) (c' : Nat) (ms : List Mk), e = .returned (msv G (.slice A' ms.length c')) ∧ ms.length ≤ 8 ∧ w'.ownsRow w.heap.size 36 2 (.slice A' ms.length c') ms.length (mz ms) ∧ Cur w' g A n c (m + 200) ∧ w.grownBy w' (some g) := by
  have hgl0 := h.lt
  have H0 := Lib.hid (h.grow (below_alloc w (.cells #[.int .i64 0, .slice none 0 0] 26)))
  clear h
  go_enter Try.func31, Try.ntmps31
  go_wp2_with fail
  refine (marks_any g A n c m _ H0.out hn (by omega)).mono ?_
  rintro e w1 ⟨G, A', c', ms, rfl, hok, hrow, hC1, hG1⟩
  rw [World.size_alloc] at hrow
  have hln := hok.1
  have hln4 := hok.2.1
  obtain ⟨k, hk⟩ : ∃ k, ms.length = k := ⟨_, rfl⟩
  rw [hk] at hrow hln hln4 ⊢
  obtain ⟨gr, hgr⟩ : ∃ gr, A' = some ⟨gr, 0, none⟩ := by
    rcases hrow.2 with ⟨_, h'⟩ | ⟨gr, cap, cur, h, _⟩
    · omega
    · injection h with h; exact ⟨gr, h⟩
  subst hgr
  have b0 := own_far (Own.new w 26 [.int .i64 0, .slice none 0 0]) hG1 (by omega)
  have z1 := b0.lt
  have P1 := Lib.hid (show MS w (w1.alloc (.cells #[.int .i64 G, .slice (some ⟨gr, 0, none⟩) k c'] 26)) g A n c (m + 70) w1.heap.size G (.slice (some ⟨gr, 0, none⟩) k c') ms from
    ⟨b0.alloc _, Own.new w1 _ [_, _], by rw [hk]; exact owns_grow (owns_base hrow (by omega)) (below_alloc _ _), hC1.grow (below_alloc _ _), grownBy_trans (grownBy_of (below_alloc w _) _) (grownBy_trans hG1 (grownBy_of (below_alloc _ _) _)), hgl0, by omega⟩)
  have hgrl := (hrow.lt gr rfl)
  clear b0 hC1 hrow hG1 H0 hok
  go_wp2_with fail
  refine (pick_any g A n c (m + 70) 12 _ P1.out.cur hn (by omega) (by omega) (by omega)).mono ?_
  rintro e v0 ⟨r0, rfl, hr0, hC2, hG2⟩
  have p := (P1.out.far hG2 hC2).more (M' := m + 72) (by omega)
  clear P1 hC2 hG2
  have hgrv : gr < v0.heap.size := (p.row.lt gr rfl).2
  generalize w1.heap.size = B at *
  have HKk := Lib.hid hk
  by_cases h0 : r0 = 0
  · subst h0
    clear hk
    have HP := Lib.hid p
    clear p
    go_upto_region 4 with (fail)
    have p := HP.out
    have hk := HKk.out
    clear HP
    have hgl : g < v0.heap.size := p.cur.lt
    have hrl : B < v0.heap.size := p.bB.lt
    refine wp_region_rinv [.is (.pointer (some ⟨g, 0, none⟩)), .int, .is (.pointer (some ⟨B, 0, none⟩)), .is (.int .i64 G), .is (.int .i64 (IntKind.i64.wrap (G + 1))), .is (.pointer (some ⟨B, 0, none⟩)), .is (.int .i64 G), .is (.int .i64 (IntKind.i64.wrap (G - 1))), .lit 3, .is (.pointer (some ⟨g, 0, none⟩)), .nat 3, .cell, .int, .is (.pointer (some ⟨B, 0, none⟩)), .int] [(0, .pointer (some ⟨g, 0, none⟩)), (2, .pointer (some ⟨w.heap.size, 0, none⟩)), (3, .pointer (some ⟨B, 0, none⟩))] 54 v0.heap.size []
      (fun L W => ∃ M V, M ≤ m + 72 + 2 * cnt 15 L ∧ MS w W g A n c M B V (.slice (some ⟨gr, 0, none⟩) k c') ms ∧ ((L 14 = true → L 3 = true ∧ L 6 = true) ∧ (L 14 = false → V = G)) ∧ v0.heap.size ≤ W.heap.size) (by kernel_rfl) (by kernel_rfl) (by kernel_rfl) ?start ?step ?fin
    case start =>
      refine rinv_start rfl rfl ?_ ⟨m + 72, _, Nat.le_add_right _ _, p.drew, ⟨fun h => absurd h (by decide), fun _ => rfl⟩, Nat.le_refl _⟩
      intro p hp
      simp only [List.mem_cons, List.not_mem_nil, or_false] at hp
      rcases hp with rfl | rfl | rfl <;> rfl
    case step =>
      clear p
      intro L i o a W hi hLi hdep hsl hI
      have hlt : i < 15 := (Array.getElem?_eq_some_iff.1 hi).1
      have MU : ∀ {i : Nat}, (∃ M V, M ≤ m + 72 + 2 * cnt 15 L ∧ MS w W g A n c M B V (.slice (some ⟨gr, 0, none⟩) k c') ms ∧ ((L 14 = true → L 3 = true ∧ L 6 = true) ∧ (L 14 = false → V = G)) ∧ v0.heap.size ≤ W.heap.size) → L i = false → (i < 15 ∧ i ≠ 14) → ∃ M V, M ≤ m + 72 + 2 * cnt 15 (upd L i) ∧ MS w W g A n c M B V (.slice (some ⟨gr, 0, none⟩) k c') ms ∧ (((upd L i) 14 = true → (upd L i) 3 = true ∧ (upd L i) 6 = true) ∧ ((upd L i) 14 = false → V = G)) ∧ v0.heap.size ≤ W.heap.size := by
        rintro i ⟨M, V, hM, hq, hV, hsz⟩ hL ⟨hi1, hi2⟩
        exact ⟨M, V, by rw [cnt_upd hi1 hL]; omega, hq, ⟨fun h => by rw [upd_ne (fun e => hi2 e.symm)] at h; exact ⟨upd_true (hV.1 h).1, upd_true (hV.1 h).2⟩, fun h => by rw [upd_ne (fun e => hi2 e.symm)] at h; exact hV.2 h⟩, hsz⟩
      match i, hlt with
      | 0, _ =>
        obtain rfl := Option.some.inj hi
        have hx := hI.held (s := 0) (v := .pointer (some ⟨g, 0, none⟩)) (by simp)
        exact wpOp_value (v := .pointer (some ⟨g, 0, none⟩)) (w' := W) hi rfl (by simp [execOp, go_sem, hx]) (hI.value hi rfl rfl hsl rfl (Ext.refl g B W) hgl hrl (MU hI.mem hLi (by decide)))
      | 1, _ =>
        obtain rfl := Option.some.inj hi
        have d0 : L 0 = true := hdep { on := 0, ground := .data } (by simp) rfl
        obtain ⟨x, ex, kx⟩ := hI.at 0 (d := 10) (k := .is (.pointer (some ⟨g, 0, none⟩))) rfl rfl rfl d0
        obtain rfl : x = .pointer (some ⟨g, 0, none⟩) := kx
        obtain ⟨M, V, hM, hq, hV, hsz⟩ := hI.mem
        have hcl := cnt_lt (n := 15) (L := L) (by decide) hLi
        refine wpOp_enter (f := 33) (args := #[.pointer (some ⟨g, 0, none⟩)]) (w' := W) hi rfl (by simp [execOp, go_sem, ex]) ?_
        refine (raw_any g A n c M W hq.cur hn (by omega)).mono ?_
        rintro e W' ⟨r, rfl, hr1, hr2, hC, hG⟩
        exact ⟨_, rfl, hI.value hi rfl rfl hsl ⟨r, rfl⟩ (Ext.of hG) hgl hrl ⟨M + 2, V, by rw [cnt_upd (by decide) hLi]; omega, hq.far hG hC, ⟨fun h => by rw [upd_ne (by decide)] at h; exact ⟨upd_true (hV.1 h).1, upd_true (hV.1 h).2⟩, fun h => by rw [upd_ne (by decide)] at h; exact hV.2 h⟩, Nat.le_trans hsz hG.size⟩⟩
      | 2, _ =>
        obtain rfl := Option.some.inj hi
        have hx := hI.held (s := 3) (v := .pointer (some ⟨B, 0, none⟩)) (by simp)
        exact wpOp_value (v := .pointer (some ⟨B, 0, none⟩)) (w' := W) hi rfl (by simp [execOp, go_sem, hx]) (hI.value hi rfl rfl hsl rfl (Ext.refl g B W) hgl hrl (MU hI.mem hLi (by decide)))
      | 3, _ =>
        obtain rfl := Option.some.inj hi
        have d2 : L 2 = true := hdep { on := 2, ground := .data } (by simp) rfl
        obtain ⟨x, ex, kx⟩ := hI.at 2 (d := 12) (k := .is (.pointer (some ⟨B, 0, none⟩))) rfl rfl rfl d2
        have hxx := kx
        subst hxx
        obtain ⟨M, V, hM, hq, hV, hsz⟩ := hI.mem
        have hv0 : V = G := hV.2 (by cases hb : L 14 with | false => rfl | true => exact absurd hLi (by rw [(hV.1 hb).1]; decide))
        rw [hv0] at hq
        obtain ⟨c0, c1⟩ := hq.bB.two
        exact wpOp_value (v := .int .i64 G) (w' := W) hi rfl (by simp [execOp, go_sem, ex, c0]) (hI.value hi rfl rfl hsl rfl (Ext.refl g B W) hgl hrl (MU hI.mem hLi (by decide)))
      | 4, _ =>
        obtain rfl := Option.some.inj hi
        have d3 : L 3 = true := hdep { on := 3, ground := .data } (by simp) rfl
        obtain ⟨x, ex, kx⟩ := hI.at 3 (d := 13) (k := .is (.int .i64 G)) rfl rfl rfl d3
        have hxx := kx
        subst hxx
        exact wpOp_value (v := .int .i64 (IntKind.i64.wrap (G + 1))) (w' := W) hi rfl (by simp [execOp, go_sem, ex, IntKind.wrap]) (hI.value hi rfl rfl hsl rfl (Ext.refl g B W) hgl hrl (MU hI.mem hLi (by decide)))
      | 5, _ =>
        obtain rfl := Option.some.inj hi
        have hx := hI.held (s := 3) (v := .pointer (some ⟨B, 0, none⟩)) (by simp)
        exact wpOp_value (v := .pointer (some ⟨B, 0, none⟩)) (w' := W) hi rfl (by simp [execOp, go_sem, hx]) (hI.value hi rfl rfl hsl rfl (Ext.refl g B W) hgl hrl (MU hI.mem hLi (by decide)))
      | 6, _ =>
        obtain rfl := Option.some.inj hi
        have d5 : L 5 = true := hdep { on := 5, ground := .data } (by simp) rfl
        obtain ⟨x, ex, kx⟩ := hI.at 5 (d := 15) (k := .is (.pointer (some ⟨B, 0, none⟩))) rfl rfl rfl d5
        have hxx := kx
        subst hxx
        obtain ⟨M, V, hM, hq, hV, hsz⟩ := hI.mem
        have hv0 : V = G := hV.2 (by cases hb : L 14 with | false => rfl | true => exact absurd hLi (by rw [(hV.1 hb).2]; decide))
        rw [hv0] at hq
        obtain ⟨c0, c1⟩ := hq.bB.two
        exact wpOp_value (v := .int .i64 G) (w' := W) hi rfl (by simp [execOp, go_sem, ex, c0]) (hI.value hi rfl rfl hsl rfl (Ext.refl g B W) hgl hrl (MU hI.mem hLi (by decide)))
      | 7, _ =>
        obtain rfl := Option.some.inj hi
        have d6 : L 6 = true := hdep { on := 6, ground := .data } (by simp) rfl
        obtain ⟨x, ex, kx⟩ := hI.at 6 (d := 16) (k := .is (.int .i64 G)) rfl rfl rfl d6
        have hxx := kx
        subst hxx
        exact wpOp_value (v := .int .i64 (IntKind.i64.wrap (G - 1))) (w' := W) hi rfl (by simp [execOp, go_sem, ex, IntKind.wrap]) (hI.value hi rfl rfl hsl rfl (Ext.refl g B W) hgl hrl (MU hI.mem hLi (by decide)))
      | 8, _ =>
        obtain rfl := Option.some.inj hi
        have d1 : L 1 = true := hdep { on := 1, ground := .data } (by simp) rfl
        obtain ⟨x0, ex0, kx0⟩ := hI.at 1 (d := 11) (k := .int) rfl rfl rfl d1
        obtain ⟨z0, rfl⟩ := kx0
        have d4 : L 4 = true := hdep { on := 4, ground := .data } (by simp) rfl
        obtain ⟨x1, ex1, kx1⟩ := hI.at 4 (d := 14) (k := .is (.int .i64 (IntKind.i64.wrap (G + 1)))) rfl rfl rfl d4
        have hk1 := kx1
        subst hk1
        have d7 : L 7 = true := hdep { on := 7, ground := .data } (by simp) rfl
        obtain ⟨x2, ex2, kx2⟩ := hI.at 7 (d := 17) (k := .is (.int .i64 (IntKind.i64.wrap (G - 1)))) rfl rfl rfl d7
        have hk2 := kx2
        subst hk2
        obtain ⟨M, V, hM, hq, hV, hsz⟩ := hI.mem
        refine wpOp_value (v := .slice (some ⟨W.heap.size, 0, none⟩) 3 3) (w' := W.alloc (.cells #[.int .i64 z0, .int .i64 (IntKind.i64.wrap (G + 1)), .int .i64 (IntKind.i64.wrap (G - 1))] 3)) hi rfl (by simp [execOp, go_sem, ex0, ex1, ex2]) ?_
        exact hI.value hi rfl rfl hsl ⟨W.heap.size, [z0, (IntKind.i64.wrap (G + 1)), (IntKind.i64.wrap (G - 1))], rfl, hsz, rfl, Own.new W _ [.int .i64 z0, .int .i64 (IntKind.i64.wrap (G + 1)), .int .i64 (IntKind.i64.wrap (G - 1))]⟩ (Ext.below (below_alloc _ _)) hgl hrl ⟨M, V, by rw [cnt_upd (by decide) hLi]; omega, hq.grow (below_alloc _ _), ⟨fun h => by rw [upd_ne (by decide)] at h; exact ⟨upd_true (hV.1 h).1, upd_true (hV.1 h).2⟩, fun h => by rw [upd_ne (by decide)] at h; exact hV.2 h⟩, Nat.le_trans hsz (by simp)⟩
      | 9, _ =>
        obtain rfl := Option.some.inj hi
        have hx := hI.held (s := 0) (v := .pointer (some ⟨g, 0, none⟩)) (by simp)
        exact wpOp_value (v := .pointer (some ⟨g, 0, none⟩)) (w' := W) hi rfl (by simp [execOp, go_sem, hx]) (hI.value hi rfl rfl hsl rfl (Ext.refl g B W) hgl hrl (MU hI.mem hLi (by decide)))
      | 10, _ =>
        obtain rfl := Option.some.inj hi
        have d9 : L 9 = true := hdep { on := 9, ground := .data } (by simp) rfl
        obtain ⟨x, ex, kx⟩ := hI.at 9 (d := 19) (k := .is (.pointer (some ⟨g, 0, none⟩))) rfl rfl rfl d9
        obtain rfl : x = .pointer (some ⟨g, 0, none⟩) := kx
        obtain ⟨M, V, hM, hq, hV, hsz⟩ := hI.mem
        have hcl := cnt_lt (n := 15) (L := L) (by decide) hLi
        refine wpOp_enter (f := 32) (args := #[.pointer (some ⟨g, 0, none⟩), .int .i64 3]) (w' := W) hi rfl (by simp [execOp, go_sem, ex]) ?_
        refine (pick_any g A n c M 3 W hq.cur hn (by omega) (by omega) (by omega)).mono ?_
        rintro e W' ⟨r, rfl, hr, hC, hG⟩
        exact ⟨_, rfl, hI.value hi rfl rfl hsl ⟨r, by omega, rfl⟩ (Ext.of hG) hgl hrl ⟨M + 1, V, by rw [cnt_upd (by decide) hLi]; omega, hq.far hG hC, ⟨fun h => by rw [upd_ne (by decide)] at h; exact ⟨upd_true (hV.1 h).1, upd_true (hV.1 h).2⟩, fun h => by rw [upd_ne (by decide)] at h; exact hV.2 h⟩, Nat.le_trans hsz hG.size⟩⟩
      | 11, _ =>
        obtain rfl := Option.some.inj hi
        have d8 : L 8 = true := hdep { on := 8, ground := .data } (by simp) rfl
        obtain ⟨x, ex, kx⟩ := hI.at 8 (d := 18) (k := .lit 3) rfl rfl rfl d8
        have d10 : L 10 = true := hdep { on := 10, ground := .data } (by simp) rfl
        obtain ⟨y, ey, ky⟩ := hI.at 10 (d := 20) (k := .nat 3) rfl rfl rfl d10
        obtain ⟨h, zs, rfl, hlo, hzl, ho⟩ := kx
        obtain ⟨r, hr, rfl⟩ := ky
        have hr0 : 0 ≤ (r : Int) ∧ (r : Int) < 3 := by omega
        exact wpOp_value (v := .pointer (some ⟨h, r, none⟩)) (w' := W) hi rfl (by simp [execOp, go_sem, ex, ey, hr0]) (hI.value hi rfl rfl hsl ⟨h, r, zs, rfl, hlo, by omega, ho⟩ (Ext.refl g B W) hgl hrl (MU hI.mem hLi (by decide)))
      | 12, _ =>
        obtain rfl := Option.some.inj hi
        have d11 : L 11 = true := hdep { on := 11, ground := .data } (by simp) rfl
        obtain ⟨x, ex, kx⟩ := hI.at 11 (d := 21) (k := .cell) rfl rfl rfl d11
        obtain ⟨h, j, zs, rfl, hlo, hj, ho⟩ := kx
        have hc : W.cell? ⟨h, j, none⟩ = some (.int .i64 (iat zs j)) := by rw [ho.cell, iz_iat hj]
        exact wpOp_value (v := .int .i64 (iat zs j)) (w' := W) hi rfl (by simp [execOp, go_sem, ex, hc]) (hI.value hi rfl rfl hsl ⟨_, rfl⟩ (Ext.refl g B W) hgl hrl (MU hI.mem hLi (by decide)))
      | 13, _ =>
        obtain rfl := Option.some.inj hi
        have hx := hI.held (s := 3) (v := .pointer (some ⟨B, 0, none⟩)) (by simp)
        exact wpOp_value (v := .pointer (some ⟨B, 0, none⟩)) (w' := W) hi rfl (by simp [execOp, go_sem, hx]) (hI.value hi rfl rfl hsl rfl (Ext.refl g B W) hgl hrl (MU hI.mem hLi (by decide)))
      | 14, _ =>
        obtain rfl := Option.some.inj hi
        have d13 : L 13 = true := hdep { on := 13, ground := .data } (by simp) rfl
        obtain ⟨x, ex, kx⟩ := hI.at 13 (d := 23) (k := .is (.pointer (some ⟨B, 0, none⟩))) rfl rfl rfl d13
        have d12 : L 12 = true := hdep { on := 12, ground := .data } (by simp) rfl
        obtain ⟨y, ey, ky⟩ := hI.at 12 (d := 22) (k := .int) rfl rfl rfl d12
        have hxx := kx
        subst hxx
        obtain ⟨z, rfl⟩ := ky
        have d3 : L 3 = true := hdep { on := 3, ground := .phase } (by simp) rfl
        have d6 : L 6 = true := hdep { on := 6, ground := .phase } (by simp) rfl
        obtain ⟨M, V, hM, hq, hV, hsz⟩ := hI.mem
        obtain ⟨c0, c1⟩ := hq.bB.two
        have f0 := hq.bB.free 0
        refine wpOp_skip (w' := W.setCell ⟨B, 0, none⟩ (.int .i64 z)) hi rfl (by simp [execOp, go_sem, ex, ey, c0, f0]) ?_
        exact hI.none hi rfl (g := g) (r := B) (Ext.set _) hgl hrl ⟨M, z, by rw [cnt_upd (by decide) hLi]; omega, hq.putG z, ⟨fun _ => ⟨upd_true d3, upd_true d6⟩, fun h => by rw [upd_at] at h; cases h⟩, by simpa using hsz⟩ _
    case fin =>
      intro L a W hall hI
      have e0 := hI.held (s := 0) (v := .pointer (some ⟨g, 0, none⟩)) (by simp)
      have e2 := hI.held (s := 2) (v := .pointer (some ⟨w.heap.size, 0, none⟩)) (by simp)
      have e3 := hI.held (s := 3) (v := .pointer (some ⟨B, 0, none⟩)) (by simp)
      obtain ⟨M, V, hM, q, hV, hsz⟩ := hI.mem
      have hcl := cnt_le 15 L
      have ha : a = ⟨#[a.eval (.tmp 0), a.eval (.tmp 1), a.eval (.tmp 2), a.eval (.tmp 3), a.eval (.tmp 4), a.eval (.tmp 5), a.eval (.tmp 6), a.eval (.tmp 7), a.eval (.tmp 8), a.eval (.tmp 9), a.eval (.tmp 10), a.eval (.tmp 11), a.eval (.tmp 12), a.eval (.tmp 13), a.eval (.tmp 14), a.eval (.tmp 15), a.eval (.tmp 16), a.eval (.tmp 17), a.eval (.tmp 18), a.eval (.tmp 19), a.eval (.tmp 20), a.eval (.tmp 21), a.eval (.tmp 22), a.eval (.tmp 23), a.eval (.tmp 24), a.eval (.tmp 25), a.eval (.tmp 26), a.eval (.tmp 27), a.eval (.tmp 28), a.eval (.tmp 29), a.eval (.tmp 30), a.eval (.tmp 31), a.eval (.tmp 32), a.eval (.tmp 33), a.eval (.tmp 34), a.eval (.tmp 35), a.eval (.tmp 36), a.eval (.tmp 37), a.eval (.tmp 38), a.eval (.tmp 39), a.eval (.tmp 40), a.eval (.tmp 41), a.eval (.tmp 42), a.eval (.tmp 43), a.eval (.tmp 44), a.eval (.tmp 45), a.eval (.tmp 46), a.eval (.tmp 47), a.eval (.tmp 48), a.eval (.tmp 49), a.eval (.tmp 50), a.eval (.tmp 51), a.eval (.tmp 52), a.eval (.tmp 53)], []⟩ := act_list hI.size hI.defers
      rw [ha, eval_of e0, eval_of e2, eval_of e3]
      clear hI ha e0 e2 e3 hV p hall
      obtain ⟨d0, d1⟩ := q.bB.two
      obtain ⟨t0, t1⟩ := q.b0.two
      have ft0 := q.b0.free 0
      have ft1 := q.b0.free 1
      have HF := Lib.hid q.fin
      clear q
      go_wp2
      refine bodyPost_ret (v := msv V (.slice (some ⟨gr, 0, none⟩) k c')) (by simp [results, Try.results31, go_sem, t0, t1]) rfl ?_
      obtain ⟨h1, h2, h3⟩ := HF.out
      exact bad_ret rfl hk (by omega) h1 (h2.more (by omega)) h3
  by_cases h1 : r0 = 1
  · subst h1
    clear hk
    have HP := Lib.hid p
    clear p
    go_upto_region 6 with (fail)
    have p := HP.out
    have hk := HKk.out
    clear HP
    have hgl : g < v0.heap.size := p.cur.lt
    have hrl : gr < v0.heap.size := hgrv
    refine wp_region_rinv [.is (.pointer (some ⟨B, 1, none⟩)), .is (.slice (some ⟨gr, 0, none⟩) k c'), .is (.pointer (some ⟨g, 0, none⟩)), .is (.pointer (some ⟨B, 1, none⟩)), .is (.slice (some ⟨gr, 0, none⟩) k c'), .is (.int .i64 (k : Nat)), .nat k, .is (.pointer (some ⟨g, 0, none⟩)), .int, .is (.pointer (some ⟨g, 0, none⟩)), .nat 40, .lit 4, .is (.pointer (some ⟨g, 0, none⟩)), .nat 4, .cell, .int, .row gr 2 k, .row gr 2 k, .int] [(0, .pointer (some ⟨g, 0, none⟩)), (2, .pointer (some ⟨w.heap.size, 0, none⟩)), (3, .pointer (some ⟨B, 0, none⟩))] 54 v0.heap.size []
      (fun L W => ∃ M rs, M ≤ m + 72 + 2 * cnt 19 L ∧ MS w W g A n c M B G (.slice (some ⟨gr, 0, none⟩) k c') rs ∧ rs.length = k ∧ v0.heap.size ≤ W.heap.size) (by kernel_rfl) (by kernel_rfl) (by kernel_rfl) ?start ?step ?fin
    case start =>
      refine rinv_start rfl rfl ?_ ⟨m + 72, _, Nat.le_add_right _ _, p.drew, hk, Nat.le_refl _⟩
      intro p hp
      simp only [List.mem_cons, List.not_mem_nil, or_false] at hp
      rcases hp with rfl | rfl | rfl <;> rfl
    case step =>
      clear p
      intro L i o a W hi hLi hdep hsl hI
      have hlt : i < 19 := (Array.getElem?_eq_some_iff.1 hi).1
      have MU : ∀ {i : Nat}, (∃ M rs, M ≤ m + 72 + 2 * cnt 19 L ∧ MS w W g A n c M B G (.slice (some ⟨gr, 0, none⟩) k c') rs ∧ rs.length = k ∧ v0.heap.size ≤ W.heap.size) → L i = false → (i < 19) → ∃ M rs, M ≤ m + 72 + 2 * cnt 19 (upd L i) ∧ MS w W g A n c M B G (.slice (some ⟨gr, 0, none⟩) k c') rs ∧ rs.length = k ∧ v0.heap.size ≤ W.heap.size := by
        rintro i ⟨M, rs, hM, hq, hrs, hsz⟩ hL hi1
        exact ⟨M, rs, by rw [cnt_upd hi1 hL]; omega, hq, hrs, hsz⟩
      match i, hlt with
      | 0, _ =>
        obtain rfl := Option.some.inj hi
        have hx := hI.held (s := 3) (v := .pointer (some ⟨B, 0, none⟩)) (by simp)
        exact wpOp_value (v := .pointer (some ⟨B, 1, none⟩)) (w' := W) hi rfl (by simp [execOp, go_sem, hx]) (hI.value hi rfl rfl hsl rfl (Ext.refl g gr W) hgl hrl (MU hI.mem hLi (by decide)))
      | 1, _ =>
        obtain rfl := Option.some.inj hi
        have d0 : L 0 = true := hdep { on := 0, ground := .data } (by simp) rfl
        obtain ⟨x, ex, kx⟩ := hI.at 0 (d := 26) (k := .is (.pointer (some ⟨B, 1, none⟩))) rfl rfl rfl d0
        have hxx := kx
        subst hxx
        obtain ⟨M, rs, hM, hq, hrs, hsz⟩ := hI.mem
        obtain ⟨c0, c1⟩ := hq.bB.two
        exact wpOp_value (v := .slice (some ⟨gr, 0, none⟩) k c') (w' := W) hi rfl (by simp [execOp, go_sem, ex, c1]) (hI.value hi rfl rfl hsl rfl (Ext.refl g gr W) hgl hrl (MU hI.mem hLi (by decide)))
      | 2, _ =>
        obtain rfl := Option.some.inj hi
        have hx := hI.held (s := 0) (v := .pointer (some ⟨g, 0, none⟩)) (by simp)
        exact wpOp_value (v := .pointer (some ⟨g, 0, none⟩)) (w' := W) hi rfl (by simp [execOp, go_sem, hx]) (hI.value hi rfl rfl hsl rfl (Ext.refl g gr W) hgl hrl (MU hI.mem hLi (by decide)))
      | 3, _ =>
        obtain rfl := Option.some.inj hi
        have hx := hI.held (s := 3) (v := .pointer (some ⟨B, 0, none⟩)) (by simp)
        exact wpOp_value (v := .pointer (some ⟨B, 1, none⟩)) (w' := W) hi rfl (by simp [execOp, go_sem, hx]) (hI.value hi rfl rfl hsl rfl (Ext.refl g gr W) hgl hrl (MU hI.mem hLi (by decide)))
      | 4, _ =>
        obtain rfl := Option.some.inj hi
        have d3 : L 3 = true := hdep { on := 3, ground := .data } (by simp) rfl
        obtain ⟨x, ex, kx⟩ := hI.at 3 (d := 29) (k := .is (.pointer (some ⟨B, 1, none⟩))) rfl rfl rfl d3
        have hxx := kx
        subst hxx
        obtain ⟨M, rs, hM, hq, hrs, hsz⟩ := hI.mem
        obtain ⟨c0, c1⟩ := hq.bB.two
        exact wpOp_value (v := .slice (some ⟨gr, 0, none⟩) k c') (w' := W) hi rfl (by simp [execOp, go_sem, ex, c1]) (hI.value hi rfl rfl hsl rfl (Ext.refl g gr W) hgl hrl (MU hI.mem hLi (by decide)))
      | 5, _ =>
        obtain rfl := Option.some.inj hi
        have d4 : L 4 = true := hdep { on := 4, ground := .data } (by simp) rfl
        obtain ⟨x, ex, kx⟩ := hI.at 4 (d := 30) (k := .is (.slice (some ⟨gr, 0, none⟩) k c')) rfl rfl rfl d4
        have hxx := kx
        subst hxx
        exact wpOp_value (v := .int .i64 (k : Nat)) (w' := W) hi rfl (by simp [execOp, go_sem, ex]) (hI.value hi rfl rfl hsl rfl (Ext.refl g gr W) hgl hrl (MU hI.mem hLi (by decide)))
      | 6, _ =>
        obtain rfl := Option.some.inj hi
        have d2 : L 2 = true := hdep { on := 2, ground := .data } (by simp) rfl
        obtain ⟨x, ex, kx⟩ := hI.at 2 (d := 28) (k := .is (.pointer (some ⟨g, 0, none⟩))) rfl rfl rfl d2
        obtain rfl : x = .pointer (some ⟨g, 0, none⟩) := kx
        have d5 : L 5 = true := hdep { on := 5, ground := .data } (by simp) rfl
        obtain ⟨y, ey, ky⟩ := hI.at 5 (d := 31) (k := .is (.int .i64 (k : Nat))) rfl rfl rfl d5
        have hyy := ky
        subst hyy
        obtain ⟨M, rs, hM, hq, hrs, hsz⟩ := hI.mem
        have hcl := cnt_lt (n := 19) (L := L) (by decide) hLi
        refine wpOp_enter (f := 32) (args := #[.pointer (some ⟨g, 0, none⟩), .int .i64 (k : Nat)]) (w' := W) hi rfl (by simp [execOp, go_sem, ex, ey]) ?_
        refine (pick_any g A n c M ((k : Nat) : Int) W hq.cur hn (by omega) (by omega) (by omega)).mono ?_
        rintro e W' ⟨r, rfl, hr, hC, hG⟩
        exact ⟨_, rfl, hI.value hi rfl rfl hsl ⟨r, by omega, rfl⟩ (Ext.of hG) hgl hrl ⟨M + 1, rs, by rw [cnt_upd (by decide) hLi]; omega, hq.far hG hC, hrs, Nat.le_trans hsz hG.size⟩⟩
      | 7, _ =>
        obtain rfl := Option.some.inj hi
        have hx := hI.held (s := 0) (v := .pointer (some ⟨g, 0, none⟩)) (by simp)
        exact wpOp_value (v := .pointer (some ⟨g, 0, none⟩)) (w' := W) hi rfl (by simp [execOp, go_sem, hx]) (hI.value hi rfl rfl hsl rfl (Ext.refl g gr W) hgl hrl (MU hI.mem hLi (by decide)))
      | 8, _ =>
        obtain rfl := Option.some.inj hi
        have d7 : L 7 = true := hdep { on := 7, ground := .data } (by simp) rfl
        obtain ⟨x, ex, kx⟩ := hI.at 7 (d := 33) (k := .is (.pointer (some ⟨g, 0, none⟩))) rfl rfl rfl d7
        obtain rfl : x = .pointer (some ⟨g, 0, none⟩) := kx
        obtain ⟨M, rs, hM, hq, hrs, hsz⟩ := hI.mem
        have hcl := cnt_lt (n := 19) (L := L) (by decide) hLi
        refine wpOp_enter (f := 33) (args := #[.pointer (some ⟨g, 0, none⟩)]) (w' := W) hi rfl (by simp [execOp, go_sem, ex]) ?_
        refine (raw_any g A n c M W hq.cur hn (by omega)).mono ?_
        rintro e W' ⟨r, rfl, hr1, hr2, hC, hG⟩
        exact ⟨_, rfl, hI.value hi rfl rfl hsl ⟨r, rfl⟩ (Ext.of hG) hgl hrl ⟨M + 2, rs, by rw [cnt_upd (by decide) hLi]; omega, hq.far hG hC, hrs, Nat.le_trans hsz hG.size⟩⟩
      | 9, _ =>
        obtain rfl := Option.some.inj hi
        have hx := hI.held (s := 0) (v := .pointer (some ⟨g, 0, none⟩)) (by simp)
        exact wpOp_value (v := .pointer (some ⟨g, 0, none⟩)) (w' := W) hi rfl (by simp [execOp, go_sem, hx]) (hI.value hi rfl rfl hsl rfl (Ext.refl g gr W) hgl hrl (MU hI.mem hLi (by decide)))
      | 10, _ =>
        obtain rfl := Option.some.inj hi
        have d9 : L 9 = true := hdep { on := 9, ground := .data } (by simp) rfl
        obtain ⟨x, ex, kx⟩ := hI.at 9 (d := 35) (k := .is (.pointer (some ⟨g, 0, none⟩))) rfl rfl rfl d9
        obtain rfl : x = .pointer (some ⟨g, 0, none⟩) := kx
        obtain ⟨M, rs, hM, hq, hrs, hsz⟩ := hI.mem
        have hcl := cnt_lt (n := 19) (L := L) (by decide) hLi
        refine wpOp_enter (f := 32) (args := #[.pointer (some ⟨g, 0, none⟩), .int .i64 40]) (w' := W) hi rfl (by simp [execOp, go_sem, ex]) ?_
        refine (pick_any g A n c M 40 W hq.cur hn (by omega) (by omega) (by omega)).mono ?_
        rintro e W' ⟨r, rfl, hr, hC, hG⟩
        exact ⟨_, rfl, hI.value hi rfl rfl hsl ⟨r, by omega, rfl⟩ (Ext.of hG) hgl hrl ⟨M + 1, rs, by rw [cnt_upd (by decide) hLi]; omega, hq.far hG hC, hrs, Nat.le_trans hsz hG.size⟩⟩
      | 11, _ =>
        obtain rfl := Option.some.inj hi
        have d8 : L 8 = true := hdep { on := 8, ground := .data } (by simp) rfl
        obtain ⟨x0, ex0, kx0⟩ := hI.at 8 (d := 34) (k := .int) rfl rfl rfl d8
        obtain ⟨z0, rfl⟩ := kx0
        have d10 : L 10 = true := hdep { on := 10, ground := .data } (by simp) rfl
        obtain ⟨x1, ex1, kx1⟩ := hI.at 10 (d := 36) (k := .nat 40) rfl rfl rfl d10
        obtain ⟨z1, hz1, rfl⟩ := kx1
        obtain ⟨M, rs, hM, hq, hrs, hsz⟩ := hI.mem
        refine wpOp_value (v := .slice (some ⟨W.heap.size, 0, none⟩) 4 4) (w' := W.alloc (.cells #[.int .i64 z0, .int .i64 (z1 : Int), .int .i64 1000, .int .i64 1001] 3)) hi rfl (by simp [execOp, go_sem, ex0, ex1]) ?_
        exact hI.value hi rfl rfl hsl ⟨W.heap.size, [z0, (z1 : Int), 1000, 1001], rfl, hsz, rfl, Own.new W _ [.int .i64 z0, .int .i64 (z1 : Int), .int .i64 1000, .int .i64 1001]⟩ (Ext.below (below_alloc _ _)) hgl hrl ⟨M, rs, by rw [cnt_upd (by decide) hLi]; omega, hq.grow (below_alloc _ _), hrs, Nat.le_trans hsz (by simp)⟩
      | 12, _ =>
        obtain rfl := Option.some.inj hi
        have hx := hI.held (s := 0) (v := .pointer (some ⟨g, 0, none⟩)) (by simp)
        exact wpOp_value (v := .pointer (some ⟨g, 0, none⟩)) (w' := W) hi rfl (by simp [execOp, go_sem, hx]) (hI.value hi rfl rfl hsl rfl (Ext.refl g gr W) hgl hrl (MU hI.mem hLi (by decide)))
      | 13, _ =>
        obtain rfl := Option.some.inj hi
        have d12 : L 12 = true := hdep { on := 12, ground := .data } (by simp) rfl
        obtain ⟨x, ex, kx⟩ := hI.at 12 (d := 38) (k := .is (.pointer (some ⟨g, 0, none⟩))) rfl rfl rfl d12
        obtain rfl : x = .pointer (some ⟨g, 0, none⟩) := kx
        obtain ⟨M, rs, hM, hq, hrs, hsz⟩ := hI.mem
        have hcl := cnt_lt (n := 19) (L := L) (by decide) hLi
        refine wpOp_enter (f := 32) (args := #[.pointer (some ⟨g, 0, none⟩), .int .i64 4]) (w' := W) hi rfl (by simp [execOp, go_sem, ex]) ?_
        refine (pick_any g A n c M 4 W hq.cur hn (by omega) (by omega) (by omega)).mono ?_
        rintro e W' ⟨r, rfl, hr, hC, hG⟩
        exact ⟨_, rfl, hI.value hi rfl rfl hsl ⟨r, by omega, rfl⟩ (Ext.of hG) hgl hrl ⟨M + 1, rs, by rw [cnt_upd (by decide) hLi]; omega, hq.far hG hC, hrs, Nat.le_trans hsz hG.size⟩⟩
      | 14, _ =>
        obtain rfl := Option.some.inj hi
        have d11 : L 11 = true := hdep { on := 11, ground := .data } (by simp) rfl
        obtain ⟨x, ex, kx⟩ := hI.at 11 (d := 37) (k := .lit 4) rfl rfl rfl d11
        have d13 : L 13 = true := hdep { on := 13, ground := .data } (by simp) rfl
        obtain ⟨y, ey, ky⟩ := hI.at 13 (d := 39) (k := .nat 4) rfl rfl rfl d13
        obtain ⟨h, zs, rfl, hlo, hzl, ho⟩ := kx
        obtain ⟨r, hr, rfl⟩ := ky
        have hr0 : 0 ≤ (r : Int) ∧ (r : Int) < 4 := by omega
        exact wpOp_value (v := .pointer (some ⟨h, r, none⟩)) (w' := W) hi rfl (by simp [execOp, go_sem, ex, ey, hr0]) (hI.value hi rfl rfl hsl ⟨h, r, zs, rfl, hlo, by omega, ho⟩ (Ext.refl g gr W) hgl hrl (MU hI.mem hLi (by decide)))
      | 15, _ =>
        obtain rfl := Option.some.inj hi
        have d14 : L 14 = true := hdep { on := 14, ground := .data } (by simp) rfl
        obtain ⟨x, ex, kx⟩ := hI.at 14 (d := 40) (k := .cell) rfl rfl rfl d14
        obtain ⟨h, j, zs, rfl, hlo, hj, ho⟩ := kx
        have hc : W.cell? ⟨h, j, none⟩ = some (.int .i64 (iat zs j)) := by rw [ho.cell, iz_iat hj]
        exact wpOp_value (v := .int .i64 (iat zs j)) (w' := W) hi rfl (by simp [execOp, go_sem, ex, hc]) (hI.value hi rfl rfl hsl ⟨_, rfl⟩ (Ext.refl g gr W) hgl hrl (MU hI.mem hLi (by decide)))
      | 16, _ =>
        obtain rfl := Option.some.inj hi
        have d1 : L 1 = true := hdep { on := 1, ground := .data } (by simp) rfl
        obtain ⟨x, ex, kx⟩ := hI.at 1 (d := 27) (k := .is (.slice (some ⟨gr, 0, none⟩) k c')) rfl rfl rfl d1
        have d6 : L 6 = true := hdep { on := 6, ground := .data } (by simp) rfl
        obtain ⟨y, ey, ky⟩ := hI.at 6 (d := 32) (k := .nat k) rfl rfl rfl d6
        have hxx := kx
        subst hxx
        obtain ⟨r, hr, rfl⟩ := ky
        have hr0 : 0 ≤ (r : Int) ∧ (r : Int) < k := by omega
        exact wpOp_value (v := .pointer (some ⟨gr, r * 2, none⟩)) (w' := W) hi rfl (by simp [execOp, go_sem, ex, ey, hr0]) (hI.value hi rfl rfl hsl ⟨r, hr, rfl⟩ (Ext.refl g gr W) hgl hrl (MU hI.mem hLi (by decide)))
      | 17, _ =>
        obtain rfl := Option.some.inj hi
        have d16 : L 16 = true := hdep { on := 16, ground := .data } (by simp) rfl
        obtain ⟨x, ex, kx⟩ := hI.at 16 (d := 42) (k := .row gr 2 k) rfl rfl rfl d16
        obtain ⟨r, hr, rfl⟩ := kx
        exact wpOp_value (v := .pointer (some ⟨gr, r * 2, none⟩)) (w' := W) hi rfl (by simp [execOp, go_sem, ex]) (hI.value hi rfl rfl hsl ⟨r, hr, rfl⟩ (Ext.refl g gr W) hgl hrl (MU hI.mem hLi (by decide)))
      | 18, _ =>
        obtain rfl := Option.some.inj hi
        have d17 : L 17 = true := hdep { on := 17, ground := .data } (by simp) rfl
        obtain ⟨x, ex, kx⟩ := hI.at 17 (d := 43) (k := .row gr 2 k) rfl rfl rfl d17
        have d15 : L 15 = true := hdep { on := 15, ground := .data } (by simp) rfl
        obtain ⟨y, ey, ky⟩ := hI.at 15 (d := 41) (k := .int) rfl rfl rfl d15
        obtain ⟨r, hr, rfl⟩ := kx
        obtain ⟨z, rfl⟩ := ky
        obtain ⟨M, rs, hM, hq, hrs, hsz⟩ := hI.mem
        have hrow := hq.row
        rw [hrs] at hrow
        have hc : W.cell? ⟨gr, r * 2, none⟩ = some (.int .i64 (mat rs r).1) := by rw [hrow.cellAt (r * 2) (by omega), mz_lo (by omega)]
        have hf := hrow.frozenAt (r * 2)
        refine wpOp_skip (w' := W.setCell ⟨gr, r * 2, none⟩ (.int .i64 z)) hi rfl (by simp [execOp, go_sem, ex, ey, hc, hf]) ?_
        exact hI.none hi rfl (g := g) (r := gr) (Ext.set _) hgl hrl ⟨M, rs.set r (z, (mat rs r).2), by rw [cnt_upd (by decide) hLi]; omega, hq.putRow hrs hr z, by rw [List.length_set]; exact hrs, by simpa using hsz⟩ _
    case fin =>
      intro L a W hall hI
      have e0 := hI.held (s := 0) (v := .pointer (some ⟨g, 0, none⟩)) (by simp)
      have e2 := hI.held (s := 2) (v := .pointer (some ⟨w.heap.size, 0, none⟩)) (by simp)
      have e3 := hI.held (s := 3) (v := .pointer (some ⟨B, 0, none⟩)) (by simp)
      obtain ⟨M, rs, hM, q, hrs, hsz⟩ := hI.mem
      have hcl := cnt_le 19 L
      have ha : a = ⟨#[a.eval (.tmp 0), a.eval (.tmp 1), a.eval (.tmp 2), a.eval (.tmp 3), a.eval (.tmp 4), a.eval (.tmp 5), a.eval (.tmp 6), a.eval (.tmp 7), a.eval (.tmp 8), a.eval (.tmp 9), a.eval (.tmp 10), a.eval (.tmp 11), a.eval (.tmp 12), a.eval (.tmp 13), a.eval (.tmp 14), a.eval (.tmp 15), a.eval (.tmp 16), a.eval (.tmp 17), a.eval (.tmp 18), a.eval (.tmp 19), a.eval (.tmp 20), a.eval (.tmp 21), a.eval (.tmp 22), a.eval (.tmp 23), a.eval (.tmp 24), a.eval (.tmp 25), a.eval (.tmp 26), a.eval (.tmp 27), a.eval (.tmp 28), a.eval (.tmp 29), a.eval (.tmp 30), a.eval (.tmp 31), a.eval (.tmp 32), a.eval (.tmp 33), a.eval (.tmp 34), a.eval (.tmp 35), a.eval (.tmp 36), a.eval (.tmp 37), a.eval (.tmp 38), a.eval (.tmp 39), a.eval (.tmp 40), a.eval (.tmp 41), a.eval (.tmp 42), a.eval (.tmp 43), a.eval (.tmp 44), a.eval (.tmp 45), a.eval (.tmp 46), a.eval (.tmp 47), a.eval (.tmp 48), a.eval (.tmp 49), a.eval (.tmp 50), a.eval (.tmp 51), a.eval (.tmp 52), a.eval (.tmp 53)], []⟩ := act_list hI.size hI.defers
      rw [ha, eval_of e0, eval_of e2, eval_of e3]
      clear hI ha e0 e2 e3 p hall
      obtain ⟨d0, d1⟩ := q.bB.two
      obtain ⟨t0, t1⟩ := q.b0.two
      have ft0 := q.b0.free 0
      have ft1 := q.b0.free 1
      have HF := Lib.hid q.fin
      clear q
      go_wp2
      refine bodyPost_ret (v := msv G (.slice (some ⟨gr, 0, none⟩) k c')) (by simp [results, Try.results31, go_sem, t0, t1]) rfl ?_
      obtain ⟨h1, h2, h3⟩ := HF.out
      exact bad_ret rfl hrs (by omega) h1 (h2.more (by omega)) h3
  have hn0 : ((r0 : Int) == 0) = false := by simp; omega
  have hn1 : ((r0 : Int) == 1) = false := by simp; omega
  by_cases h2 : r0 = 2
  · subst h2
    have hsz := p.gr.size
    have hrow := p.row
    rw [hk] at hrow
    obtain ⟨i0, hi, hz0, hz1', hz2⟩ := info_parts info_Mark
    have HI := Lib.hid hi
    have HZ0 := Lib.hid hz0
    have HZ1 := Lib.hid hz1'
    have HZ2 := Lib.hid hz2
    have HR := Lib.hid hrow
    have HP := Lib.hid p
    obtain ⟨c0, c1⟩ := p.bB.two
    clear hi hz0 hz1' hz2 hrow p hk
    go_wp2_with (at_builtin; refine wpList_append_zeros rfl _ 24 3 4 rfl w.heap.size 36 i0 (.agg #[.int .i64 0, .bool false]) 2 16 .i64 Try.underlying24 Try.underlying3 HI.out HZ0.out HZ1.out HZ2.out rfl (by decide) gr k c' (mz ms) rfl HR.out (by decide) (by rw [zero4]; exact mz_one _) (by unfold maxLen; omega) (by omega) hsz ?_; intro g' cap' w3 hrow3 hgrow3)
    rw [zero4, ← mz_append] at hrow3
    have hcap : k + 4 ≤ cap' := by
      rcases hrow3.2 with ⟨h', _⟩ | ⟨g0, cap0, cur0, h', _, _, hnc, _⟩
      · cases h'
      · cases h'; exact hnc
    have hbB3 := own_kept HP.out.bB hgrow3 (fun e => types_farS HP.out.bB (by decide) HP.out.row e.symm)
    have hlz : (ms ++ List.replicate 4 ((0 : Int), false)).length = k + 4 := by rw [List.length_append, HKk.out]; rfl
    obtain ⟨C3, G3⟩ : Cur w3 g A n c (m + 72) ∧ w.grownBy w3 (some g) ∧ Own w3 w.heap.size 26 [.int .i64 0, .slice none 0 0] := by
      have hgr' := (HP.out.row.lt gr rfl).1
      have h0 := types_farS HP.out.b0 (by decide) HP.out.row
      have hne : w.heap.size ≠ gr := fun e => h0 (by rw [e]; rfl)
      refine ⟨?_, ?_, own_kept HP.out.b0 hgrow3 (by simpa using hne)⟩
      · obtain ⟨i, s, ho, hi, hs⟩ := HP.out.cur.ex
        exact ⟨⟨i, s, own_kept ho hgrow3 (by simp; omega), hi, hs⟩, HP.out.cur.byt.below ((Below.refl g v0).grown hgrow3 (Nat.le_of_lt HP.out.cur.lt) (fun k e => by cases e; omega))⟩
      · have h := HP.out.gr
        exact ⟨hgrow3.os.trans h.os, hgrow3.tape.trans h.tape, hgrow3.output.trans h.output, Nat.le_trans h.size hgrow3.size, fun k hk hne' => (hgrow3.block k (Nat.lt_of_lt_of_le hk h.size) (by simp; omega)).trans (h.block k hk hne')⟩
    obtain ⟨G3, B3⟩ := G3
    have hgb := HP.out.hB
    clear c0 c1 HP HR HI HZ0 HZ1 HZ2
    have HC3 := Lib.hid C3
    clear C3
    go_wp2_with fail
    refine (pick_any g A n c (m + 72) 6 _ HC3.out hn (by omega) (by omega) (by omega)).mono ?_
    rintro e w4 ⟨r, rfl, hr, hC4, hG4⟩
    have hrow4 := owns_far hrow3 hG4 (owns_lt hrow3 hgl0)
    have hcut := owns_cut hrow4 (p := r) (by omega)
    rw [← mz_take] at hcut
    have hlt : ((ms ++ List.replicate 4 ((0 : Int), false)).take r).length = r := by rw [List.length_take, hlz]; omega
    have b4 := own_far hbB3 hG4 (by omega)
    have r4 := own_far B3 hG4 (by omega)
    have g4 := grownBy_trans G3 hG4
    generalize (ms ++ List.replicate 4 ((0 : Int), false)).take r = rs at *
    have HQ := Lib.hid (show MS w (w4.setCell ⟨B, 1, none⟩ (.slice (some ⟨g', 0, none⟩) r cap')) g A n c (m + 73) B G (.slice (some ⟨g', 0, none⟩) r cap') rs from by
      have hO : w4.grownBy (w4.setCell ⟨B, 1, none⟩ (.slice (some ⟨g', 0, none⟩) r cap')) (some B) := only_set (World.grownBy.refl _ _)
      refine ⟨own_kept r4 hO (by simp; omega), b4.set 1 _, ?_, ?_, ?_, hgl0, hgb⟩
      · rw [hlt]
        exact owns_far hcut hO (types_farS b4 (by decide) hcut)
      · obtain ⟨i, s, ho, hi, hs⟩ := hC4.ex
        exact ⟨⟨i, s, own_kept ho hO (by simp; omega), hi, by omega⟩, hC4.byt.below ((Below.refl g w4).setCell (by simp; omega) _)⟩
      · exact ⟨g4.os, g4.tape, g4.output, by simpa using g4.size, fun k hk hne' => (hO.block k (Nat.lt_of_lt_of_le hk g4.size) (by simp; omega)).trans (g4.block k hk hne')⟩)
    obtain ⟨c0, c1⟩ := b4.two
    have fB1 := b4.free 1
    have hr6 : r ≤ cap' := by omega
    have hr7 : ¬ (cap' : Int) < (r : Int) := by omega
    have hr8 : (0 : Int) ≤ (r : Int) := by omega
    clear hrow3 hgrow3 hrow4 hcut b4 r4 g4 hC4 hG4 HC3 G3 B3 hbB3
    have q := HQ.out
    obtain ⟨d0, d1⟩ := q.bB.two
    obtain ⟨t0, t1⟩ := q.b0.two
    have ft0 := q.b0.free 0
    have ft1 := q.b0.free 1
    have HF := Lib.hid q.fin
    clear q
    go_wp2
    refine bodyPost_ret (v := msv G (.slice (some ⟨g', 0, none⟩) r cap')) (by simp [results, Try.results31, go_sem, t0, t1]) rfl ?_
    obtain ⟨h1, h2, h3⟩ := HF.out
    exact bad_ret rfl hlt (by omega) h1 (h2.more (by omega)) h3
  · have hn2 : ((r0 : Int) == 2) = false := by simp; omega
    have q := p
    clear p
    obtain ⟨d0, d1⟩ := q.bB.two
    obtain ⟨t0, t1⟩ := q.b0.two
    have ft0 := q.b0.free 0
    have ft1 := q.b0.free 1
    have HF := Lib.hid q.fin
    clear q
    go_wp2
    refine bodyPost_ret (v := msv G (.slice (some ⟨gr, 0, none⟩) k c')) (by simp [results, Try.results31, go_sem, t0, t1]) rfl ?_
    obtain ⟨h1, h2, h3⟩ := HF.out
    exact bad_ret rfl hk (by omega) h1 (h2.more (by omega)) h3
end Go.Proofs.Ytmipieoglcefkaa
