/-
  The law FnSessAdd: after an addition the window and every earlier session lie in one session.
-/
import Derived.Test.YtdphbfapccnhlaaLawWinKit
import Derived.Test.YtdphbfapccnhlaaDrawWin
import Derived.Deep.DeepCutAuto
import Derived.Deep.CutBlock
namespace Go.Proofs.Ytdphbfapccnhlaa
open Go.RowKit

theorem all_ok {ws : List Wn} {x : Wn} (h : addOk ws x) {k : Nat} (hk : k < (ws ++ [x]).length) : winOk (wat (ws ++ [x]) k) ∧ Within (wat (ws ++ [x]) k) (addAll ws x) := by
  have hm : wat (ws ++ [x]) k ∈ ws ++ [x] := by
    have : wat (ws ++ [x]) k = (ws ++ [x])[k] := by simp [wat, List.getD_eq_getElem?_getD, List.getElem?_eq_getElem hk]
    rw [this]; exact List.getElem_mem hk
  rcases List.mem_append.1 hm with h1 | h1
  · exact ⟨(srt_of_sessTo h.1.2).1 _ h1, add_within (.inl h1)⟩
  · rw [List.mem_singleton.1 h1]; exact ⟨h.2.1, add_within (.inr rfl)⟩
theorem more_ok {ws : List Wn} {x : Wn} (h : addOk ws x) : sessOk (addAll ws x) := (sessOk_iff _).2 ⟨h.2.2, add_srt (srt_of_sessTo h.1.2) h.2.1⟩

set_option maxRecDepth 100000 in
set_option maxHeartbeats 8000000 in
theorem fnSessAdd_walk (A : Option Addr) (c n : Nat) (w : World) (hA : Byt w A n w.heap.size) (hn : n ≤ 9223372036854775807) :
    Calls Try.prog 5 #[.slice A n c] w fun e w' => e = .returned (.bool true) ∧ Below w.heap.size w w' := by
  by_cases hb : 1048576 < n
  · go_enter Try.func5, Try.ntmps5
    go_wp2_with fail
    refine (bigW_any A n c true _ (by simpa using hb) hn).mono ?_
    rintro e w' ⟨rfl, rfl⟩
    go_wp2
    go_ret
    exact ⟨rfl, Below.refl _ _⟩
  · go_enter Try.func5, Try.ntmps5
    go_wp2_with fail
    refine (bigW_any A n c false _ (by simpa using hb) hn).mono ?_
    rintro e w' ⟨rfl, rfl⟩
    go_wp2_with fail
    refine (drawSessAdd_any A n c _ hA (by omega)).mono ?_
    rintro e w1 ⟨ws, A', c', a, b, rfl, hws, hrow, hb1⟩
    have hfit := owns_fit hrow
    have hR1 : Rd w1 A' (ez ws) := RowAt.reads (RowAt.of hrow)
    have HBx := Lib.hid (Own.new w1 32 [.int .i64 a, .int .i64 b])
    have HR := Lib.hid (fun W (h : Below w1.heap.size w1 W) => hR1.below h)
    have HB1 := Lib.hid hb1
    have HF := Lib.hid hfit
    obtain ⟨m, hm⟩ : ∃ m, ws.length = m := ⟨_, rfl⟩
    have HM := Lib.hid hm
    rw [hm] at HF hws ⊢
    clear hrow hR1 hb1 hfit hA hb hn hm
    obtain ⟨c0, c1⟩ := HBx.out.two
    have hbB := below_alloc w1 (.cells #[.int .i64 a, .int .i64 b] 32)
    go_wp2_with fail
    refine (specSessAdd_any A' m c' ws a b _ (HR.out _ hbB) HM.out (by omega)).mono ?_
    rintro e w2 ⟨A0, cc0, rfl, r0, hb2⟩
    have hBx2 := HBx.out.grow hb2
    have hbB2 := below_trans hbB hb2
    clear c0 c1
    obtain ⟨c0, c1⟩ := hBx2.two
    by_cases hx : addOk ws (a, b)
    · rw [← tf_yes hx, sessAdd_yes hx]
      rw [sessAdd_yes hx] at r0
      have HX := Lib.hid hx
      have HM1 := Lib.hid (add_length ws (a, b))
      clear hx
      obtain ⟨q, hq⟩ : ∃ q, (addAll ws (a, b)).length = q := ⟨_, rfl⟩
      have HQ := Lib.hid hq
      have hq3 : q ≤ 300 := by rw [← hq]; exact HX.out.2.2
      have hqm : (q : Int) ≤ (m : Int) + 1 := by have := HM1.out; rw [hq, HM.out] at this; omega
      rw [hq] at r0 ⊢
      clear hq
      go_wp2_with fail
      have HI := implSessAdd_any A' m c' ws a b w2 (HR.out _ hbB2) HM.out (by omega) HF.out
      rw [← tf_yes HX.out, sessAdd_yes HX.out] at HI
      refine (HI.mono fun _ _ h => wb_at h HQ.out).mono ?_
      clear HI
      rintro e w3 ⟨A1, cc1, rfl, r1, hb3⟩
      have hbB3 := below_trans hbB2 hb3
      have r0' := r0.grow hb3
      have hBx3 := hBx2.grow hb3
      clear c0 c1 r0 hBx2
      go_wp2_with fail
      refine (sameWins_same A1 A0 q cc1 cc0 (addAll ws (a, b)) _ r1.reads r0'.reads HQ.out (by omega)).mono ?_
      rintro e w4 ⟨rfl, hb4⟩
      have hbB4 := below_trans hbB3 hb4
      have hBx4 := hBx3.grow hb4
      have HR1 := Lib.hid (fun W (h : Below w4.heap.size w4 W) => r1.reads.below (below_trans hb4 h))
      have HR4 := Lib.hid (fun W (h : Below w4.heap.size w4 W) => HR.out W (below_trans hbB4 h))
      have HBB := Lib.hid (below_trans HB1.out hbB4)
      clear r0' r1 hBx3 hb4 hb3 hb2 hbB hbB2 hbB3 hbB4
      generalize w1.heap.size = B at *
      go_upto_region 8 with (fail)
      go_cut [9] (fun s9 wx => ∃ A9 c9, s9 = .slice A9 (m + 1) c9 ∧ wx.ownsRow w4.heap.size 32 2 (.slice A9 (m + 1) c9) (m + 1) (ez (ws ++ [(a, b)])) ∧ Below w4.heap.size w4 wx)
      case first =>
        obtain ⟨k0, k1⟩ := hBx4.two
        have hpl : B < w4.heap.size := hBx4.lt
        have HP := Lib.hid (fun W (h : Below w4.heap.size w4 W) => (hBx4.grow h).two)
        have HB := Lib.hid (fun o => (below_alloc w4 o).drew)
        have HB2 := Lib.hid (fun o o' => (below_trans (below_alloc w4 o) (below_alloc _ o')).drew)
        have HE1 := Lib.hid (owns_empty (size := 2) (Own.new w4 32 []) (Nat.le_refl w4.heap.size))
        have HE2 := Lib.hid (fun o => owns_empty (size := 2) ((Own.new w4 32 []).alloc o) (Nat.le_refl w4.heap.size))
        have HE3 := Lib.hid (fun o => owns_empty (size := 2) (base := w4.heap.size) (new_second w4 o 32 []) (by omega))
        have HN2 := Lib.hid (show ∀ o, Own ((w4.alloc o).alloc (.cells #[.int .i64 a, .int .i64 b] 32)).drew (w4.heap.size + 1) 32 [.int .i64 a, .int .i64 b] from fun o => new_second w4 o 32 [.int .i64 a, .int .i64 b])
        have HN3 := Lib.hid (show ∀ o, Own ((w4.alloc (.cells #[.int .i64 a, .int .i64 b] 32)).alloc o).drew w4.heap.size 32 [.int .i64 a, .int .i64 b] from fun o => (Own.new w4 32 [.int .i64 a, .int .i64 b]).alloc o)
        have HLm : Hid (0 + m ≤ 2097152) := Lib.hid (by omega)
        have HLm1 : Hid (m + 1 ≤ 2097152) := Lib.hid (by omega)
        have HLe := Lib.hid (show (ez ws).length = m * 2 by rw [ez_length, HM.out])
        clear HQ HM1 hBx4
        go_region_law (first
          | (refine appWin.step rfl (.tmp 52) (.tmp 53) rfl w4.heap.size _ 0 [] rfl (by first | exact HE1.out | exact HE2.out _ | exact HE3.out _) A' m c' (ez ws) rfl (HR4.out _ (by first | exact HB.out _ | exact HB2.out _ _)) HF.out HLe.out (ez_one _) HLm (by first | exact (HB.out _).size | exact (HB2.out _ _).size) ?_; intro A5 c5 w5 hown5 hgrow5 hb5; rw [Nat.zero_add, List.nil_append] at hown5; rw [Nat.zero_add]; have hbel5 : Below w4.heap.size w4 w5 := (by first | exact below_trans' (HB.out _) hb5 (Nat.le_refl _) | exact below_trans' (HB2.out _ _) hb5 (Nat.le_refl _)); obtain ⟨f0, f1⟩ := HP.out _ hbel5; have hlt5 := Nat.lt_of_lt_of_le hpl hbel5.size)
          | (refine appWin.step rfl (.tmp 54) (.tmp 56) rfl w4.heap.size (.slice A5 m c5) m (ez ws) rfl (by first | exact hown5 | exact hown5.alloc _) (some ⟨_, 0, none⟩) 1 1 [.int .i64 a, .int .i64 b] rfl (by first | exact (Own.new w5 32 [.int .i64 a, .int .i64 b]).rd | exact (own_kept (HN2.out _) hgrow5 (fun h => absurd (show some (w4.heap.size + 1) = some w4.heap.size from h) (by simp))).rd | exact (own_kept (HN3.out _) hgrow5 (fun h => absurd (show some w4.heap.size = some (w4.heap.size + 1) from h) (by simp))).rd) ⟨Nat.le_refl _, fun h => by cases h⟩ rfl (ez_one [(a, b)]) HLm1 (by first | exact hbel5.size | exact (below_trans hbel5 (below_alloc _ _)).size) ?_; intro A6 c6 w6 hown6 hgrow6 hb6; have hbel6 : Below w4.heap.size w4 w6 := (by first | exact below_trans' hbel5 hb6 (Nat.le_refl _) | exact below_trans' (below_trans hbel5 (below_alloc _ _)) hb6 (Nat.le_refl _))))
        all_goals
          go_wp2_with fail
          go_meet
          case rel => exact ⟨A6, c6, rfl, owns_as hown6 (ez_snoc ws a b), hbel6⟩
      case rest =>
        obtain ⟨A9, c9, rfl, row9, hbc⟩ := hcut
        have HA9 := Lib.hid (RowAt.reads (RowAt.of row9))
        have HR5 := Lib.hid (fun W (h : Below wc.heap.size wc W) => HR1.out W (below_trans hbc h))
        have HBC := Lib.hid (below_trans HBB.out hbc)
        have HL9 := Lib.hid (show (ws ++ [(a, b)]).length = m + 1 by rw [List.length_append, HM.out]; rfl)
        clear row9 hbc hBx4 HR1 HR4 HBB HF HR HBx
        generalize wc = w5 at *
        go_wp2
        go_loopw [10] (fun s10 wr => ∃ k : Nat, k ≤ m + 1 ∧ s10 = .int .i64 (k : Int) ∧ Below w5.heap.size w5 wr) (fun s10 _ => m + 1 - (intOf s10).toNat)
        case atStart => exact ⟨0, Nat.zero_le _, rfl, Below.refl _ _⟩
        case round =>
          obtain ⟨k, hk, rfl, hbel⟩ := hrel
          by_cases hlt : k < m + 1
          · have hlm : k < (ws ++ [(a, b)]).length := by rw [HL9.out]; exact hlt
            obtain ⟨bb, off, rfl, c0, c1⟩ := win_cells HA9.out hbel hlm
            have c0' := c0 ⟨wr, Below.refl _ _⟩
            simp only at c0'
            have HK := Lib.hid (all_ok HX.out hlm)
            generalize wat (ws ++ [(a, b)]) k = y at *
            obtain ⟨y0, y1⟩ := y
            obtain ⟨j, hj, hjq, hj1, hj2⟩ := sessAt_within (more_ok HX.out) HK.out.1.2.1 HK.out.2
            have HJ := Lib.hid hj
            rw [HQ.out] at hjq
            simp only at hj1 hj2
            clear hj
            go_wp2_with fail
            refine (as_int HJ.out (implSessAt_any A1 q cc1 (addAll ws (a, b)) y0 _ (HR5.out _ hbel) HQ.out (by omega))).mono ?_
            rintro e w6 ⟨rfl, hb6⟩
            have hbel6 := below_trans hbel hb6
            have hjq' : j < (addAll ws (a, b)).length := by rw [HQ.out]; exact hjq
            obtain ⟨mb, mo, hA1, d0, d1⟩ := win_cells (HR5.out _ (Below.refl _ _)) hbel6 hjq'
            have e0 : ∀ u : Bel w6, u.w.cell? ⟨bb, off + k * 2, none⟩ = some (.int .i64 y0) := fun u => c0 ⟨u.w, below_trans hb6 u.ok⟩
            have e1 : ∀ u : Bel w6, u.w.cell? ⟨bb, off + k * 2 + 1, none⟩ = some (.int .i64 y1) := fun u => c1 ⟨u.w, below_trans hb6 u.ok⟩
            subst hA1
            generalize wat (addAll ws (a, b)) j = z at *
            obtain ⟨z0, z1⟩ := z
            simp only at hj1 hj2 d0 d1
            have hjd : decide ((j : Int) < 0) = false := by simp
            have hjd1 : decide (y0 < z0) = false := by simp; omega
            have hjd2 : decide (z1 < y1) = false := by simp; omega
            clear c0 c1 c0' hjq' hb6
            go_wp2
            refine wp_region_bel (by kernel_rfl) (by kernel_rfl) ?_
            repeat (go_big_quiet_step (fail))
            refine wpQuiet_nil ?_
            rintro _ ⟨u, rfl⟩
            go_wp2
            go_roundw
            case rel => exact ⟨k + 1, by omega, by go_num, below_trans hbel6 u.ok⟩
            case measure => simp [intOf]; omega
          · go_wp2_with fail
            refine (as_bool (tf_yes (more_ok HX.out)).symm (specSessOk_any A1 q cc1 (addAll ws (a, b)) _ (HR5.out _ hbel) HQ.out (by omega))).mono ?_
            rintro e w6 ⟨rfl, hb6⟩
            go_wp2
            go_ret
            exact ⟨rfl, below_trans HBC.out (below_trans hbel hb6)⟩
    · rw [← tf_no hx, sessAdd_no hx]
      rw [sessAdd_no hx] at r0
      have HX := Lib.hid hx
      clear hx
      go_wp2_with fail
      have HI := implSessAdd_any A' m c' ws a b w2 (HR.out _ hbB2) HM.out (by omega) HF.out
      rw [← tf_no HX.out, sessAdd_no HX.out] at HI
      refine HI.mono ?_
      clear HI
      rintro e w3 ⟨A1, cc1, rfl, r1, hb3⟩
      have hbB3 := below_trans hbB2 hb3
      have r0' := r0.grow hb3
      clear c0 c1 r0 hBx2
      simp only [List.length_nil] at r0' r1
      go_wp2_with fail
      refine (sameWins_same A1 A0 0 cc1 cc0 [] _ r1.reads r0'.reads rfl (by omega)).mono ?_
      rintro e w4 ⟨rfl, hb4⟩
      have hbB4 := below_trans hbB3 hb4
      go_wp2_with fail
      refine (sameWins_same A1 A0 0 cc1 cc0 [] _ (r1.grow hb4).reads (r0'.grow hb4).reads rfl (by omega)).mono ?_
      rintro e w5 ⟨rfl, hb5⟩
      go_wp2
      go_ret
      exact ⟨rfl, below_trans HB1.out (below_trans hbB4 hb5)⟩
end Go.Proofs.Ytdphbfapccnhlaa
