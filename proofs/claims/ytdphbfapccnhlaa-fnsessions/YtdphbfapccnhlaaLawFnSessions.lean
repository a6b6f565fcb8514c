/-
  The law FnSessions: the sessions of a list of times, of the list turned round and of its two parts joined are the same, and each time lies in one.
-/
import Derived.Test.YtdphbfapccnhlaaLawSessMath
import Derived.Test.YtdphbfapccnhlaaSOfI
import Derived.Test.YtdphbfapccnhlaaDrawSO
import Derived.Test.YtdphbfapccnhlaaPickV
import Derived.Deep.RegionWith
import Derived.Deep.DeepCutAuto
import Derived.Deep.CutBlock
namespace Go.Proofs.Ytdphbfapccnhlaa
open Go.RowKit

set_option maxRecDepth 100000 in
set_option maxHeartbeats 8000000 in
theorem fnSessions_walk (A : Option Addr) (c n : Nat) (w : World) (hA : Byt w A n w.heap.size) (hn : n ≤ 9223372036854775807) :
    Calls Try.prog 4 #[.slice A n c] w fun e w' => e = .returned (.bool true) ∧ Below w.heap.size w w' := by
  by_cases hb : 1048576 < n
  · go_enter Try.func4, Try.ntmps4
    go_wp2_with fail
    refine (bigW_any A n c true _ (by simpa using hb) hn).mono ?_
    rintro e w' ⟨rfl, rfl⟩
    go_wp2
    go_ret
    exact ⟨rfl, Below.refl _ _⟩
  · obtain ⟨f, hf⟩ := BytF.of hA
    go_enter Try.func4, Try.ntmps4
    go_wp2_with fail
    refine (bigW_any A n c false _ (by simpa using hb) hn).mono ?_
    rintro e w' ⟨rfl, rfl⟩
    go_wp2_with fail
    refine (drawSessOf_any A n c _ hA (by omega)).mono ?_
    rintro e w1 ⟨k, s, t, ts, A', c', rfl, hts, hrow, hb1⟩
    have HPick := Lib.hid (show ∀ W, Below w1.heap.size w1 W → ∀ N : Nat, 1 ≤ N → N ≤ 1000 → Calls Try.prog 21 #[.slice A n c, .int .i64 3, .int .i64 (N : Int)] W fun e w' => e = .returned (.int .i64 (pickV f n 3 N : Nat)) ∧ Below W.heap.size W w' from fun W h N h1 h2 => lawPickI A n c 3 N 3 N f W rfl rfl ((hf.below (hb1.trans (h.mono hb1.size))).up (Nat.le_trans hb1.size h.size)) (by omega) h1 h2 (by omega))
    obtain ⟨m, hm⟩ : ∃ m, ts.length = m := ⟨_, rfl⟩
    rw [hm] at hts hrow ⊢
    have HBx := Lib.hid (Own.new w1 25 [.int .i64 k, .int .i64 s, .int .i64 t])
    have HRow := Lib.hid hrow
    have hR1 : Rd w1 A' (iz ts) := RowAt.reads (RowAt.of hrow)
    have HR := Lib.hid (fun W (h : Below w1.heap.size w1 W) => hR1.below h)
    have HB1 := Lib.hid hb1
    have HM := Lib.hid hm
    clear hrow hR1 hb1 hA hb hn hm hf
    have hbB := below_alloc w1 (.cells #[.int .i64 k, .int .i64 s, .int .i64 t] 25)
    obtain ⟨c0, c1, c2⟩ := HBx.out.three
    obtain ⟨L, hL⟩ : ∃ L, sessOf k s t ts = L := ⟨_, rfl⟩
    obtain ⟨q, hq⟩ : ∃ q, L.length = q := ⟨_, rfl⟩
    have hq3 : q ≤ 300 := by rw [← hq, ← hL]; exact sessOf_len _ _ _ _
    have HQ := Lib.hid hq
    have HL := Lib.hid hL
    have HS := Lib.hid (show ∀ W, Below w1.heap.size w1 W → Calls Try.prog 19 #[.agg #[.int .i64 k, .int .i64 s, .int .i64 t], .slice A' m c'] W (WbAt q L (tf (ofOk k s t ts)) W) from fun W h => by
      have h1 := specSessOf_any k s t A' m c' ts W (HR.out W h) HM.out (by omega)
      rw [HL.out] at h1
      exact h1.mono fun _ _ h => wb_at h HQ.out)
    have HI := Lib.hid (show ∀ W, Below w1.heap.size w1 W → Calls Try.prog 20 #[.agg #[.int .i64 k, .int .i64 s, .int .i64 t], .slice A' m c'] W (WbAt q L (tf (ofOk k s t ts)) W) from fun W h => by
      have h1 := implSessOf_any k s t A' m c' ts W (HR.out W h) HM.out (by omega)
      rw [HL.out] at h1
      exact h1.mono fun _ _ h => wb_at h HQ.out)
    clear hL hq
    by_cases hx : ofOk k s t ts
    · have HX := Lib.hid hx
      rw [← tf_yes hx] at HS HI
      clear hx
      go_wp2_with fail
      refine (HS.out _ hbB).mono ?_
      rintro e w2 ⟨A0, cc0, rfl, r0, hb2⟩
      have hBx2 := HBx.out.grow hb2
      have hbB2 := below_trans hbB hb2
      clear c0 c1 c2
      obtain ⟨c0, c1, c2⟩ := hBx2.three
      go_wp2_with fail
      refine (HI.out _ hbB2).mono ?_
      rintro e w3 ⟨A1, cc1, rfl, r1, hb3⟩
      have hBx3 := hBx2.grow hb3
      have hbB3 := below_trans hbB2 hb3
      replace r0 := r0.grow hb3
      clear c0 c1 c2 hBx2
      go_wp2_with fail
      refine (sameWins_same A1 A0 q cc1 cc0 L _ r1.reads r0.reads HQ.out (by omega)).mono ?_
      rintro e w4 ⟨rfl, hb4⟩
      have hBx4 := hBx3.grow hb4
      have hbB4 := below_trans hbB3 hb4
      have HD := Lib.hid (fun W (h : Below w4.heap.size w4 W) => (hBx4.grow h).three)
      have HR1 := Lib.hid (fun W (h : Below w4.heap.size w4 W) => r1.reads.below (below_trans hb4 h))
      have HR4 := Lib.hid (fun W (h : Below w4.heap.size w4 W) => HR.out W (below_trans hbB4 h))
      have HBB := Lib.hid (below_trans HB1.out hbB4)
      obtain ⟨p, hp⟩ : ∃ p, pickV f n 3 (m + 1) = p := ⟨_, rfl⟩
      have hpm : p ≤ m := by have := pickV_lt (f := f) (n := n) (i := 3) (N := m + 1) (by omega); omega
      have HP4 := Lib.hid (show ∀ W, Below w4.heap.size w4 W → Calls Try.prog 21 #[.slice A n c, .int .i64 3, .int .i64 ((m : Int) + 1)] W fun e w' => e = .returned (.int .i64 (p : Int)) ∧ Below W.heap.size W w' from fun W h => by
        have h1 := HPick.out W (below_trans hbB4 h) (m + 1) (by omega) (by omega)
        rw [hp] at h1
        exact h1)
      obtain ⟨Ah, ch, hhead, rhead⟩ := int_head HRow.out HM.out hpm
      obtain ⟨At, ct, htail, rtail⟩ := int_tail HRow.out HM.out hpm
      obtain ⟨La, hLa⟩ : ∃ La, sessOf k s t (ts.take p) = La := ⟨_, rfl⟩
      obtain ⟨Lb, hLb⟩ : ∃ Lb, sessOf k s t (ts.drop p) = Lb := ⟨_, rfl⟩
      obtain ⟨q1, hq1⟩ : ∃ q1, La.length = q1 := ⟨_, rfl⟩
      obtain ⟨q2, hq2⟩ : ∃ q2, Lb.length = q2 := ⟨_, rfl⟩
      have hq1' : q1 ≤ 300 := by rw [← hq1, ← hLa]; exact sessOf_len _ _ _ _
      have hq2' : q2 ≤ 300 := by rw [← hq2, ← hLb]; exact sessOf_len _ _ _ _
      obtain ⟨d, hd⟩ : ∃ d, m - p = d := ⟨_, rfl⟩
      rw [hd] at htail
      have HA15 := Lib.hid (show ∀ W, Below w4.heap.size w4 W → Calls Try.prog 20 #[.agg #[.int .i64 k, .int .i64 s, .int .i64 t], .slice Ah p ch] W (WbAt q1 La true W) from fun W h => by
        have h1 := implSessOf_any k s t Ah p ch (ts.take p) W (rhead W (below_trans hbB4 h)) (by rw [List.length_take, HM.out]; omega) (by omega)
        rw [hLa, ← tf_yes (ofOk_take HX.out p)] at h1
        exact h1.mono fun _ _ h => wb_at h hq1)
      have HA16 := Lib.hid (show ∀ W, Below w4.heap.size w4 W → Calls Try.prog 20 #[.agg #[.int .i64 k, .int .i64 s, .int .i64 t], .slice At d ct] W (WbAt q2 Lb true W) from fun W h => by
        have h1 := implSessOf_any k s t At d ct (ts.drop p) W (rtail W (below_trans hbB4 h)) (by rw [List.length_drop, HM.out]; omega) (by omega)
        rw [hLb, ← tf_yes (ofOk_drop HX.out p)] at h1
        exact h1.mono fun _ _ h => wb_at h hq2)
      have HB13 := Lib.hid (show ∀ W A9 c9, Rd W A9 (iz ts.reverse) → Calls Try.prog 20 #[.agg #[.int .i64 k, .int .i64 s, .int .i64 t], .slice A9 m c9] W (WbAt q L true W) from fun W A9 c9 h => by
        have h1 := implSessOf_any k s t A9 m c9 ts.reverse W h (by rw [List.length_reverse, HM.out]) (by omega)
        rw [sessOf_rev HX.out, HL.out, ← tf_yes (ofOk_rev HX.out)] at h1
        exact h1.mono fun _ _ h => wb_at h HQ.out)
      have HJ := Lib.hid (show ∀ W A14 c14 A16 c16, Rd W A14 (ez La) → SFit A14 q1 c14 → Rd W A16 (ez Lb) → Calls Try.prog 22 #[.slice A14 q1 c14, .slice A16 q2 c16] W (WbAt q L true W) from fun W A14 c14 A16 c16 h1 h2 h3 => by
        have hj := sessOf_join HX.out p
        rw [hLa, hLb, HL.out] at hj
        have h4 := implSessJoin_any A14 q1 c14 La A16 q2 c16 Lb W h1 hq1 (by omega) h2 h3 hq2 (by omega)
        rw [hj.2, ← tf_yes hj.1] at h4
        exact h4.mono fun _ _ h => wb_at h HQ.out)
      have HAt := Lib.hid (show ∀ i, i < m → 0 ≤ sessAt L (iat ts i) from fun i hi => by rw [← HL.out]; exact sessOf_at HX.out (by rw [HM.out]; exact hi))
      have HSok := Lib.hid (show sessOk L from by rw [← HL.out]; exact sessOf_ok HX.out)
      have hpl := hBx4.lt
      clear hb4 hb3 hb2 hbB hbB2 hbB3 hbB4 r0 r1 hBx3 hBx4 HS HI HBx HPick HRow HR rhead rtail hLa hLb hq1 hq2 hp HX HL
      generalize w1.heap.size = B at *
      go_wp2
      go_loopw [9, 10] (fun s9 s10 wr => ∃ (i j : Nat) (z : Int) (A9 : Option Addr) (c9 : Nat), i + j = m ∧ z + 1 = (i : Int) ∧ s10 = .int .i64 z ∧ s9 = .slice A9 j c9 ∧ wr.ownsRow w4.heap.size 3 1 (.slice A9 j c9) j (iz (ts.drop i).reverse) ∧ Below w4.heap.size w4 wr) (fun _ s10 _ => (intOf s10 + 1).toNat)
      case atStart => exact ⟨m, 0, (m : Int) - 1, _, _, rfl, by omega, by go_num, rfl, owns_as (owns_empty (Own.new w4 3 []) (Nat.le_refl _)) (by rw [List.drop_eq_nil_of_le (by rw [HM.out]; exact Nat.le_refl _)]; rfl), below_alloc _ _⟩
      case round =>
        obtain ⟨i, j, z, A9, c9, hij, hz, rfl, rfl, hrow9, hbel⟩ := hrel
        by_cases hlt : 0 < i
        · obtain ⟨i', rfl⟩ : ∃ i', i = i' + 1 := ⟨i - 1, by omega⟩
          obtain rfl : z = (i' : Int) := by omega
          have hlm : i' < ts.length := by rw [HM.out]; omega
          obtain ⟨bb, off, rfl, x0⟩ := int_cells (HR4.out _ (Below.refl _ _)) hbel hlm
          replace x0 := x0 ⟨wr, Below.refl _ _⟩
          simp only at x0
          have HBS := Lib.hid (back_step hlm)
          have HL1 : Hid (j + 1 ≤ 2097152) := Lib.hid (by omega)
          generalize iat ts i' = x at *
          clear hz
          go_wp2_with (at_builtin; refine appInt.own rfl _ (.tmp 74) rfl w4.heap.size (.slice A9 j c9) j (iz (ts.drop (i' + 1)).reverse) rfl (hrow9.alloc _) wr.heap.size 1 1 [.int .i64 x] rfl (Own.new wr _ _) rfl (iz_one [x]) HL1 (below_trans hbel (below_alloc _ _)).size ?_)
          intro A10 c10 w10 hown10 hgrow10 hb10
          have hbel10 := below_trans' (below_trans hbel (below_alloc wr (.cells #[.int .i64 x] 3))) hb10 (Nat.le_refl _)
          go_wp2
          go_roundw
          case rel => exact ⟨i', j + 1, (i' : Int) - 1, A10, c10, by omega, by omega, by go_num, rfl, owns_as hown10 (by rw [HBS.out, iz_append]; rfl), hbel10⟩
          case measure => simp [intOf]
        · obtain rfl : i = 0 := by omega
          obtain rfl : z = -1 := by omega
          obtain rfl : m = j := by omega
          have HRb := Lib.hid (show Rd wr A9 (iz ts.reverse) from RowAt.reads (RowAt.of hrow9))
          clear hrow9 hz hij hlt
          obtain ⟨c0, c1, c2⟩ := HD.out wr hbel
          go_wp2_with fail
          refine (HB13.out _ A9 c9 HRb.out).mono ?_
          rintro e w6 ⟨A11, cc11, rfl, r11, hb6⟩
          have hbel6 := below_trans hbel hb6
          clear c0 c1 c2
          go_wp2_with fail
          refine (HP4.out _ hbel6).mono ?_
          rintro e w7 ⟨rfl, hb7⟩
          have hbel7 := below_trans hbel6 hb7
          replace r11 := r11.grow hb7
          have HR11 := Lib.hid (fun W (h : Below w7.heap.size w7 W) => r11.reads.below h)
          clear r11 hb7 hb6 hbel6 hbel HRb
          obtain ⟨c0, c1, c2⟩ := HD.out w7 hbel7
          go_upto_region 15 with (fail)
          go_cut [14, 15] (fun s14 s15 wx => ∃ A14 c14, s14 = .slice A14 q1 c14 ∧ s15 = .bool true ∧ wx.ownsRow w7.heap.size 32 2 (.slice A14 q1 c14) q1 (ez La) ∧ Below w7.heap.size w7 wx)
          case first =>
            clear htail
            go_region_with (go_at_call 20; refine (HA15.out _ (below_trans hbel7 (Below.refl _ _).drew)).mono ?_; rintro e w8 ⟨A14, c14, rfl, r14, hb8⟩)
            all_goals
              go_wp2_with fail
              go_meet
              case rel => exact ⟨A14, c14, rfl, rfl, r14.1, below_trans (Below.refl w7.heap.size w7).drew hb8⟩
          case rest =>
            obtain ⟨A14, c14, rfl, rfl, row14, hbc⟩ := hcut
            have hbelc := below_trans hbel7 hbc
            clear c0 c1 c2
            generalize wc = w9 at *
            obtain ⟨c0, c1, c2⟩ := HD.out w9 hbelc
            go_upto_region 16 with (fail)
            go_cut [16, 17] (fun s16 s17 wx => ∃ A16 c16, s16 = .slice A16 q2 c16 ∧ s17 = .bool true ∧ wx.ownsRow w9.heap.size 32 2 (.slice A16 q2 c16) q2 (ez Lb) ∧ Below w9.heap.size w9 wx)
            case first =>
              clear hhead
              go_region_with (go_at_call 20; refine (HA16.out _ (below_trans hbelc (Below.refl _ _).drew)).mono ?_; rintro e w10 ⟨A16, c16, rfl, r16, hb10⟩)
              all_goals
                go_wp2_with fail
                go_meet
                case rel => exact ⟨A16, c16, rfl, rfl, r16.1, below_trans (Below.refl w9.heap.size w9).drew hb10⟩
            case rest =>
              obtain ⟨A16, c16, rfl, rfl, row16, hbd⟩ := hcut
              have hbeld := below_trans hbelc hbd
              have h714 := below_trans hbc hbd
              clear c0 c1 c2
              generalize wc = w11 at *
              replace row14 := owns_grow row14 hbd
              have HRa := Lib.hid (RowAt.reads (RowAt.of row14))
              have HFa := Lib.hid (owns_fit row14)
              have HRc := Lib.hid (RowAt.reads (RowAt.of row16))
              clear row14 row16 hhead htail
              go_wp2_with fail
              refine (HJ.out _ A14 c14 A16 c16 HRa.out HFa.out HRc.out).mono ?_
              rintro e w12 ⟨A18, cc18, rfl, r18, hb12⟩
              have hbel12 := below_trans hbeld hb12
              have HRt := Lib.hid (fun W (h : Below w12.heap.size w12 W) => HR11.out W (below_trans (below_trans h714 hb12) h))
              have HRl := Lib.hid (fun W (h : Below w12.heap.size w12 W) => HR1.out W (below_trans hbel12 h))
              have HRj := Lib.hid (fun W (h : Below w12.heap.size w12 W) => r18.reads.below h)
              have HRm := Lib.hid (fun W (h : Below w12.heap.size w12 W) => HR4.out W (below_trans hbel12 h))
              have HBE := Lib.hid (below_trans HBB.out hbel12)
              clear r18 hb12 hbel12 hbeld hbelc hbel7 hbc hbd h714 HRa HFa HRc HR11 HR1 HR4 HBB HJ HA15 HA16 HB13 HP4 HD
              generalize w12 = w5 at *
              go_wp2
              go_loopw [20] (fun s20 wr => ∃ i : Nat, i ≤ m ∧ s20 = .int .i64 (i : Int) ∧ Below w5.heap.size w5 wr) (fun s20 _ => m - (intOf s20).toNat)
              case atStart => exact ⟨0, Nat.zero_le _, rfl, Below.refl _ _⟩
              case round =>
                obtain ⟨i, hi, rfl, hbel⟩ := hrel
                by_cases hlt : i < m
                · have hlm : i < ts.length := by rw [HM.out]; exact hlt
                  obtain ⟨bb, off, rfl, x0⟩ := int_cells (HRm.out _ (Below.refl _ _)) hbel hlm
                  replace x0 := x0 ⟨wr, Below.refl _ _⟩
                  simp only at x0
                  have hAt := HAt.out i hlt
                  generalize iat ts i = x at *
                  obtain ⟨y, hy⟩ : ∃ y, sessAt L x = y := ⟨_, rfl⟩
                  rw [hy] at hAt
                  have HY := Lib.hid hy
                  have hyd : decide (y < 0) = false := by simp; omega
                  clear hy hAt
                  go_wp2_with fail
                  refine (as_int HY.out (implSessAt_any A1 q cc1 L x _ (HRl.out _ hbel) HQ.out (by omega))).mono ?_
                  rintro e w13 ⟨rfl, hb13⟩
                  go_wp2
                  go_roundw
                  case rel => exact ⟨i + 1, by omega, by go_num, below_trans hbel hb13⟩
                  case measure => simp [intOf]; omega
                · go_wp2_with fail
                  refine (sameWins_same A11 A1 q cc11 cc1 L _ (HRt.out _ hbel) (HRl.out _ hbel) HQ.out (by omega)).mono ?_
                  rintro e w13 ⟨rfl, hb13⟩
                  have hbel13 := below_trans hbel hb13
                  go_wp2_with fail
                  refine (sameWins_same A18 A1 q cc18 cc1 L _ (HRj.out _ hbel13) (HRl.out _ hbel13) HQ.out (by omega)).mono ?_
                  rintro e w14 ⟨rfl, hb14⟩
                  have hbel14 := below_trans hbel13 hb14
                  go_wp2_with fail
                  refine (as_bool (tf_yes HSok.out).symm (implSessOk_any A1 q cc1 L _ (HRl.out _ hbel14) HQ.out (by omega))).mono ?_
                  rintro e w15 ⟨rfl, hb15⟩
                  go_wp2
                  go_ret
                  exact ⟨rfl, below_trans HBE.out (below_trans hbel14 hb15)⟩
    · have HX := Lib.hid hx
      have hL0 : L = [] := by rw [← HL.out]; exact sessOf_no hx
      subst hL0
      obtain rfl : q = 0 := HQ.out.symm
      rw [← tf_no hx] at HS HI
      clear hx
      go_wp2_with fail
      refine (HS.out _ hbB).mono ?_
      rintro e w2 ⟨A0, cc0, rfl, r0, hb2⟩
      have hBx2 := HBx.out.grow hb2
      have hbB2 := below_trans hbB hb2
      clear c0 c1 c2
      obtain ⟨c0, c1, c2⟩ := hBx2.three
      go_wp2_with fail
      refine (HI.out _ hbB2).mono ?_
      rintro e w3 ⟨A1, cc1, rfl, r1, hb3⟩
      have hbB3 := below_trans hbB2 hb3
      replace r0 := r0.grow hb3
      clear c0 c1 c2 hBx2
      go_wp2_with fail
      refine (sameWins_same A1 A0 0 cc1 cc0 [] _ r1.reads r0.reads rfl (by omega)).mono ?_
      rintro e w4 ⟨rfl, hb4⟩
      have hbB4 := below_trans hbB3 hb4
      go_wp2_with fail
      refine (sameWins_same A1 A0 0 cc1 cc0 [] _ (r1.grow hb4).reads (r0.grow hb4).reads rfl (by omega)).mono ?_
      rintro e w5 ⟨rfl, hb5⟩
      go_wp2
      go_ret
      exact ⟨rfl, below_trans HB1.out (below_trans hbB4 hb5)⟩
end Go.Proofs.Ytdphbfapccnhlaa
