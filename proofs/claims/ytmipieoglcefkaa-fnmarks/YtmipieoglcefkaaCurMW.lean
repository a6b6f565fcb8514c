/-
  The cursor's marks: the walk.
-/
import Derived.Test.YtmipieoglcefkaaCurM
import Derived.Deep.DeepCutAuto
import Derived.Deep.CutBlock
import Derived.Deep.CutRange
namespace Go.Proofs.Ytmipieoglcefkaa
open Go.RowKit

set_option maxRecDepth 100000 in
set_option maxHeartbeats 4000000 in
theorem marks_any (g : Nat) (A : Option Addr) (n c m : Nat) (w : World) (h : Cur w g A n c m) (hn : n ≤ 1048576) (hm : m ≤ 1099511600000) :
    Calls Try.prog 50 #[.pointer (some ⟨g, 0, none⟩)] w fun e w' => ∃ (G : Int) (A' : Option Addr) (c' : Nat) (ms : List Mk), e = .returned (msv G (.slice A' ms.length c')) ∧ marksOk G ms ∧ w'.ownsRow w.heap.size 36 2 (.slice A' ms.length c') ms.length (mz ms) ∧ Cur w' g A n c (m + 70) ∧ w.grownBy w' (some g) := by
  have hgl := h.lt
  have H0 := Lib.hid (h.grow (below_alloc w (.cells #[.int .i64 0, .slice none 0 0] 26)))
  clear h
  go_enter Try.func50, Try.ntmps50
  go_wp2_with fail
  refine (pick_any g A n c m 4 _ H0.out hn (by omega) (by omega) (by omega)).mono ?_
  rintro e w1 ⟨r, rfl, hr, hC1, hG1⟩
  have b0 := own_far (Own.new w 26 [.int .i64 0, .slice none 0 0]) hG1 (by omega)
  have gr1 := grownBy_trans (grownBy_of (below_alloc w (.cells #[.int .i64 0, .slice none 0 0] 26)) (some g)) hG1
  have z1 := b0.lt
  clear hG1 H0
  have hNew : newM (1 + (r : Int)) = List.replicate (r + 1) (0, false) := by
    unfold newM
    rw [if_neg (by omega), show (1 + (r : Int)).toNat = r + 1 by omega]
  go_wp2_with fail
  refine (specMarksNew_any (1 + (r : Int)) _).mono ?_
  rw [hNew]
  rintro e w2 ⟨A2, c2, rfl, r2, hb2⟩
  have HOK2 := Lib.hid (newM_ok (n := r + 1) (by omega) (by omega))
  generalize List.replicate (r + 1) ((0 : Int), false) = ms0 at *
  have z2 := hb2.size
  have P2 := Lib.hid (show MS w (w2.alloc (.cells #[.int .i64 0, .slice A2 ms0.length c2] 26)) g A n c (m + 1) w2.heap.size 0 (.slice A2 ms0.length c2) ms0 from
    ⟨(b0.grow hb2).alloc _, Own.new w2 _ [_, _], owns_grow (owns_base r2.1 (by omega)) (below_alloc _ _), (hC1.grow hb2).grow (below_alloc _ _), grownBy_trans gr1 (grownBy_trans (grownBy_of hb2 _) (grownBy_of (below_alloc _ _) _)), hgl, by omega⟩)
  clear b0 gr1 hC1 hb2 r2 hNew
  go_wp2_with fail
  refine (size_any g A n c (m + 1) 12 _ P2.out.cur hn (by omega) (by omega)).mono ?_
  rintro e w3 ⟨k, rfl, hk, hC3, hG3⟩
  have p3 := P2.out.far hG3 hC3
  clear P2 hC3 hG3
  have P3 := Lib.hid p3
  clear p3
  go_wp2
  go_loopw [4] (fun i wr => ∃ (j : Nat) (G : Int) (A' : Option Addr) (c' : Nat) (ms : List Mk), j ≤ 12 ∧ i = .int .i64 j ∧ marksOk G ms ∧ MS w wr g A n c (m + 2 + (12 - j) * 5) w2.heap.size G (.slice A' ms.length c') ms) (fun i _ => (intOf i).toNat)
  case atStart => exact ⟨k, 0, A2, c2, ms0, hk, rfl, HOK2.out, P3.out.more (by omega)⟩
  case round =>
    obtain ⟨j, G, A', c', ms, hj, rfl, hok, p⟩ := hrel
    clear P3 HOK2
    have hln := hok.1
    have hln4 := hok.2.1
    by_cases hlt : 0 < j
    · have P := Lib.hid p
      obtain ⟨k0, k1⟩ := p.bB.two
      clear p
      go_wp2_with fail
      clear k0 k1
      refine (pick_any g A n c _ ms.length _ P.out.cur hn (by omega) (by omega) (by omega)).mono ?_
      rintro e w4 ⟨src, rfl, hsrc, hC4, hG4⟩
      have P4 := Lib.hid (P.out.far hG4 hC4)
      clear P hC4 hG4
      obtain ⟨k0, k1⟩ := P4.out.bB.two
      have hlt4 := P4.out.bB.lt
      have hgB : g < w2.heap.size := by omega
      go_upto_region 6 with (fail)
      go_cut [6, 7] from 14 to 43 (fun s6 s7 wx => ∃ (D : Nat) (G6 : Int) (A6 : Option Addr) (c6 : Nat) (rs6 : List Mk) (q : Int), s6 = .pointer (some ⟨D, 0, none⟩) ∧ s7 = .int .i64 q ∧ NX w wx D w2.heap.size G6 (.slice A6 rs6.length c6) rs6 q ∧ MS w wx g A n c (m + 2 + (12 - j) * 5 + 1 + 1) w2.heap.size G (.slice A' ms.length c') ms)
      case first =>
        go_region_with (first
          | (go_at_call 32; refine (pick_any g A n c _ 40 _ (by first | exact P4.out.drew.cur | exact (P4.out.grow (below_alloc _ _)).drew.cur | exact (P4.out.drew.grow (below_alloc _ _)).cur) hn (by omega) (by omega) (by omega)).mono ?_; rintro e w5 ⟨x5, rfl, hx5, hC5, hG5⟩; have p5 : MS w w5 g A n c (m + 2 + (12 - j) * 5 + 1 + 1) w2.heap.size G (.slice A' ms.length c') ms := (by first | exact P4.out.drew.far hG5 hC5 | exact (P4.out.grow (below_alloc _ _)).drew.far hG5 hC5 | exact (P4.out.drew.grow (below_alloc _ _)).far hG5 hC5); obtain ⟨e0, e1⟩ := p5.bB.two; have hlt5 := p5.bB.lt; have hrd5 := rd_of p5.row; first | (have q5 := own_far (show Own (w4.alloc (.cells #[.int .i64 0, .slice none 0 0] 26)).drew w4.heap.size 26 [.int .i64 0, .slice none 0 0] from Own.new w4 _ [_, _]) hG5 (by omega)) | skip)
          | (go_at_call 16; refine (specMarkSet_any G A' ms.length c' ms src x5 _ (by first | exact hrd5 | exact hrd5.below (below_alloc _ _)) rfl (by omega)).mono ?_; rintro e w6 ⟨A6, c6, rfl, r6, hb6⟩; have p6 : MS w w6 g A n c (m + 2 + (12 - j) * 5 + 1 + 1) w2.heap.size G (.slice A' ms.length c') ms := (by first | exact p5.grow hb6 | exact (p5.grow (below_alloc _ _)).grow hb6); first | (have q6 := q5.grow hb6; obtain ⟨t0, t1⟩ := q6.two; have ft0 := q6.free 0; have ft1 := q6.free 1) | (have q6 := (Own.new w5 26 [.int .i64 0, .slice none 0 0]).grow hb6; obtain ⟨t0, t1⟩ := q6.two; have ft0 := q6.free 0; have ft1 := q6.free 1) | skip))
        all_goals
          have zz4 := P4.out.b0.lt
          have zz5 := p5.b0.lt
          go_wp2_with fail
          go_meet
          case rel =>
            first
              | exact ⟨_, _, A6, c6, _, _, rfl, rfl, (nx_new p6 (by first | exact p5.gr.size | (have := p5.gr.size; simp; omega)) r6.1 setG_ok).1, (nx_new p6 (by first | exact p5.gr.size | (have := p5.gr.size; simp; omega)) r6.1 setG_ok).2⟩
              | exact ⟨_, _, A6, c6, _, _, rfl, rfl, (nx_set p6 q6 (by omega) (by omega) (by first | exact p5.gr.size | (have := p5.gr.size; simp; omega)) r6.1 setG_ok).1, (nx_set p6 q6 (by omega) (by omega) (by first | exact p5.gr.size | (have := p5.gr.size; simp; omega)) r6.1 setG_ok).2⟩
      case rest =>
        obtain ⟨D, G6, A6, c6, rs6, q, rfl, rfl, nx, p⟩ := hcut
        clear P4 k0 k1
        go_wp2_with fail
        refine (once_any g A n c _ 4 _ p.cur hn (by omega) (by omega) (by omega)).mono ?_
        rintro e w7 ⟨t, rfl, hC7, hG7⟩
        replace nx := nx.far hgl hG7
        replace p := p.far hG7 hC7
        clear hC7 hG7
        cases t with
        | false =>
          obtain ⟨d0, d1⟩ := nx.own.two
          obtain ⟨d2, d3⟩ := p.bB.two
          have fB0 := p.bB.free 0
          have fB1 := p.bB.free 1
          by_cases hcode : q = 0
          · subst hcode
            have HP := Lib.hid (p.put (G' := G6) nx.row)
            have HOK := Lib.hid (nx.ok rfl)
            clear nx p hok
            go_wp2
            go_roundw
            case rel => exact ⟨j - 1, G6, A6, c6, rs6, by omega, by first | go_num | (congr 1; omega), HOK.out, HP.out.more (by omega)⟩
            case measure => simp [intOf]; omega
          · have hcb : (q == 0) = false := by simpa using hcode
            have HP := Lib.hid p
            have HOK := Lib.hid hok
            clear nx p hok hcode
            go_wp2
            go_roundw
            case rel => exact ⟨j - 1, G, A', c', ms, by omega, by first | go_num | (congr 1; omega), HOK.out, HP.out.more (by omega)⟩
            case measure => simp [intOf]; omega
        | true =>
          have P7 := Lib.hid p
          have NX7 := Lib.hid nx
          obtain ⟨k0, k1⟩ := p.bB.two
          clear p nx
          go_upto_region 8 with (fail)
          go_cut [7] from 14 to 43 (fun s7 wx => ∃ (G6 : Int) (A6 : Option Addr) (c6 : Nat) (rs6 : List Mk) (q : Int), s7 = .int .i64 q ∧ NX w wx D w2.heap.size G6 (.slice A6 rs6.length c6) rs6 q ∧ MS w wx g A n c (m + 2 + (12 - j) * 5 + 1 + 1 + 1 + 1) w2.heap.size G (.slice A' ms.length c') ms)
          case first =>
            go_region_with (first
              | (go_at_call 55; refine (once_any g A n c _ 2 _ P7.out.drew.cur hn (by omega) (by omega) (by omega)).mono ?_; rintro e w8 ⟨t8, rfl, hC8, hG8⟩; have p8 := P7.out.drew.far hG8 hC8; have nx8 := NX7.out.far hgl (grownBy_trans (grownBy_of (Below.refl _ _).drew _) hG8); obtain ⟨e0, e1⟩ := p8.bB.two; have hrd8 := rd_of p8.row)
              | (go_at_call 18; refine (specMarkIdle_any G A' ms.length c' ms src t8 _ hrd8 rfl (by omega)).mono ?_; rintro e w9 ⟨A9, c9, rfl, r9, hb9⟩; have p9 := p8.grow hb9; have nx9 := nx8.own.grow hb9; obtain ⟨t0, t1⟩ := nx9.two; have ft0 := nx9.free 0; have ft1 := nx9.free 1))
            all_goals
              go_wp2_with fail
              go_meet
              case rel => exact ⟨_, A9, c9, _, _, rfl, (nx_set p9 nx9 nx8.hD nx8.hDB p8.gr.size r9.1 idleG_ok).1, (nx_set p9 nx9 nx8.hD nx8.hDB p8.gr.size r9.1 idleG_ok).2⟩
          case rest =>
            clear P7 NX7 k0 k1
            obtain ⟨G6, A6, c6, rs6, q, rfl, nx, p⟩ := hcut
            obtain ⟨d0, d1⟩ := nx.own.two
            obtain ⟨d2, d3⟩ := p.bB.two
            have fB0 := p.bB.free 0
            have fB1 := p.bB.free 1
            by_cases hcode : q = 0
            · subst hcode
              have HP := Lib.hid (p.put (G' := G6) nx.row)
              have HOK := Lib.hid (nx.ok rfl)
              clear nx p hok
              go_wp2
              go_roundw
              case rel => exact ⟨j - 1, G6, A6, c6, rs6, by omega, by first | go_num | (congr 1; omega), HOK.out, HP.out.more (by omega)⟩
              case measure => simp [intOf]; omega
            · have hcb : (q == 0) = false := by simpa using hcode
              have HP := Lib.hid p
              have HOK := Lib.hid hok
              clear nx p hok hcode
              go_wp2
              go_roundw
              case rel => exact ⟨j - 1, G, A', c', ms, by omega, by first | go_num | (congr 1; omega), HOK.out, HP.out.more (by omega)⟩
              case measure => simp [intOf]; omega
    · have HOK := Lib.hid hok
      obtain ⟨d0, d1⟩ := p.bB.two
      obtain ⟨t0, t1⟩ := p.b0.two
      have ft0 := p.b0.free 0
      have ft1 := p.b0.free 1
      have hC := p.cur
      have hO : wr.grownBy ((wr.setCell ⟨w.heap.size, 0, none⟩ (.int .i64 G)).setCell ⟨w.heap.size, 1, none⟩ (.slice A' ms.length c')) (some w.heap.size) := only_set (only_set (World.grownBy.refl _ _))
      have HR := Lib.hid (owns_far p.row hO (types_farS p.b0 (by decide) p.row))
      have HC := Lib.hid (show Cur ((wr.setCell ⟨w.heap.size, 0, none⟩ (.int .i64 G)).setCell ⟨w.heap.size, 1, none⟩ (.slice A' ms.length c')) g A n c (m + 2 + (12 - j) * 5) from by
        obtain ⟨i, s, ho, hi, hs⟩ := hC.ex
        exact ⟨⟨i, s, own_kept ho hO (by simp; omega), hi, hs⟩, hC.byt.below (((Below.refl g wr).setCell (by simp; omega) _).setCell (by simp; omega) _)⟩)
      have HG := Lib.hid (show w.grownBy ((wr.setCell ⟨w.heap.size, 0, none⟩ (.int .i64 G)).setCell ⟨w.heap.size, 1, none⟩ (.slice A' ms.length c')) (some g) from by
        have h := p.gr
        exact ⟨h.os, h.tape, h.output, by simpa using h.size, fun k hk hne' => (hO.block k (Nat.lt_of_lt_of_le hk h.size) (by simp; omega)).trans (h.block k hk hne')⟩)
      clear hO hC p hok
      go_wp2
      refine bodyPost_ret (v := msv G (.slice A' ms.length c')) (by simp [results, Try.results50, go_sem, t0, t1]) rfl ?_
      exact ⟨G, A', c', ms, rfl, HOK.out, HR.out, HC.out.more (by omega), HG.out⟩
end Go.Proofs.Ytmipieoglcefkaa
