/-
  The law FnWins: a time lies in each of its windows, and in no other window of the kind.
-/
import Derived.Test.YtdphbfapccnhlaaLawWinKit
import Derived.Test.YtdphbfapccnhlaaLawWinsOf
import Derived.Test.YtdphbfapccnhlaaDrawWin
import Derived.Deep.DeepCutAuto
import Derived.Deep.CutBlock
namespace Go.Proofs.Ytdphbfapccnhlaa
open Go.RowKit

theorem from_le_div {s t tm : Nat} (ht : 0 < t) (hs : t ≤ s) : slideFrom s t tm ≤ tm / t := (Nat.le_div_iff_mul_le ht).2 (from_le ht hs)
theorem slides_slid {s t tm : Nat} (ht : 0 < t) (hs : t ≤ s) : slides s t tm = slid s t tm (tm / t + 1 - slideFrom s t tm) := by
  have h := from_le_div (tm := tm) ht hs
  refine (slid_all ht hs (fun j hj => ?_) ?_).symm
  · exact (Nat.le_div_iff_mul_le ht).1 (by omega)
  · rw [show slideFrom s t tm + (tm / t + 1 - slideFrom s t tm) = tm / t + 1 by omega]
    exact (Nat.div_lt_iff_lt_mul ht).1 (Nat.lt_succ_self _)
theorem slid_wat {s t tm i j : Nat} (h : j < i) : wat (slid s t tm i) j = winAt s t (slideFrom s t tm + j) := by simp [wat, slid, h]
/-- what holds of each window of a time -/
structure WinFacts (L : List Wn) (s t tm : Int) : Prop where
  pos : 0 < L.length
  small : L.length ≤ 1001
  at_ : ∀ i, i < L.length → 0 ≤ (wat L i).1 ∧ (wat L i).1 ≤ tm ∧ tm < (wat L i).2 ∧ (wat L i).2 = (wat L i).1 + s
  step : ∀ i, i + 1 < L.length → (wat L (i + 1)).1 = (wat L i).1 + t
theorem wins_facts {k s t tm : Int} (hd : defOk k s t) (ht : isT tm) : WinFacts (winsOf k s t tm) s t tm := by
  have h1 := hd.2.2.1
  have h2 := ht.1
  by_cases e1 : k = 1
  · subst e1
    obtain ⟨S, rfl⟩ : ∃ S : Nat, s = (S : Int) := ⟨s.toNat, by omega⟩
    obtain ⟨T, rfl⟩ : ∃ T : Nat, tm = (T : Int) := ⟨tm.toNat, by omega⟩
    refine ⟨?_, winsOf_len _ _ _ _, ?_, ?_⟩
    · rw [winsOf_tumble hd ht]; simp
    · rw [winsOf_tumble hd ht]
      intro i hi
      obtain rfl : i = 0 := by simpa using hi
      have h3 := Nat.div_mul_le_self T S
      have h4 := Nat.lt_div_mul_add (a := T) (show 0 < S by omega)
      simp only [Int.toNat_natCast, wat, List.getD_cons_zero]
      generalize T / S * S = F at *
      omega
    · rw [winsOf_tumble hd ht]
      intro i hi
      simp at hi
  · by_cases e3 : k = 3
    · subst e3
      refine ⟨?_, winsOf_len _ _ _ _, ?_, ?_⟩
      · rw [winsOf_sess hd ht]; simp
      · rw [winsOf_sess hd ht]
        intro i hi
        obtain rfl : i = 0 := by simpa using hi
        show 0 ≤ tm ∧ tm ≤ tm ∧ tm < tm + s ∧ tm + s = tm + s
        omega
      · rw [winsOf_sess hd ht]
        intro i hi
        simp at hi
    · have hst := hd.2.2.2.2.2 (by have h1 := hd.1; have h2 := hd.2.1; omega)
      obtain ⟨S, rfl⟩ : ∃ S : Nat, s = (S : Int) := ⟨s.toNat, by omega⟩
      obtain ⟨T, rfl⟩ : ∃ T : Nat, tm = (T : Int) := ⟨tm.toNat, by omega⟩
      obtain ⟨D, rfl⟩ : ∃ D : Nat, t = (D : Int) := ⟨t.toNat, by omega⟩
      have hD : 0 < D := by omega
      have hDS : D ≤ S := by omega
      have hj := from_le_div (tm := T) hD hDS
      have hlen := winsOf_len k S D T
      rw [winsOf_slide hd ht e1 e3] at hlen ⊢
      simp only [Int.toNat_natCast] at hlen ⊢
      rw [slides_slid hD hDS] at hlen ⊢
      refine ⟨by rw [slid_length]; omega, hlen, fun i hi => ?_, fun i hi => ?_⟩
      · rw [slid_length] at hi
        rw [slid_wat hi]
        have h3 := from_open (s := S) (tm := T) (j := slideFrom S D T + i) hD (Nat.le_add_right _ _)
        have h4 : (slideFrom S D T + i) * D ≤ T := (Nat.le_div_iff_mul_le hD).1 (by omega)
        simp only [winAt]
        generalize (slideFrom S D T + i) * D = F at *
        omega
      · rw [slid_length] at hi
        rw [slid_wat hi, slid_wat (by omega)]
        simp only [winAt]
        rw [← Nat.add_assoc, Nat.add_mul (slideFrom S D T + i), Nat.one_mul]
        omega
/-- the last sliding window -/
theorem slides_last {S D T : Nat} (hD : 0 < D) (hDS : D ≤ S) : (wat (slides S D T) ((slides S D T).length - 1)).1 = ((T / D * D : Nat) : Int) := by
  have hj := from_le_div (tm := T) hD hDS
  rw [slides_slid hD hDS, slid_length, slid_wat (by omega)]
  simp only [winAt]
  rw [show slideFrom S D T + (T / D + 1 - slideFrom S D T - 1) = T / D by omega]

set_option maxRecDepth 100000 in
set_option maxHeartbeats 8000000 in
theorem fnWins_walk (A : Option Addr) (c n : Nat) (w : World) (hA : Byt w A n w.heap.size) (hn : n ≤ 9223372036854775807) :
    Calls Try.prog 3 #[.slice A n c] w fun e w' => e = .returned (.bool true) ∧ Below w.heap.size w w' := by
  by_cases hb : 1048576 < n
  · go_enter Try.func3, Try.ntmps3
    go_wp2_with fail
    refine (bigW_any A n c true _ (by simpa using hb) hn).mono ?_
    rintro e w' ⟨rfl, rfl⟩
    go_wp2
    go_ret
    exact ⟨rfl, Below.refl _ _⟩
  · go_enter Try.func3, Try.ntmps3
    go_wp2_with fail
    refine (bigW_any A n c false _ (by simpa using hb) hn).mono ?_
    rintro e w' ⟨rfl, rfl⟩
    go_wp2_with fail
    refine (drawWinsOf_any A n c _ hA (by omega)).mono ?_
    rintro e w1 ⟨k, s, t, tm, rfl, hb1⟩
    have HBx := Lib.hid (Own.new w1 25 [.int .i64 k, .int .i64 s, .int .i64 t])
    have HB1 := Lib.hid hb1
    have hlen := winsOf_len k s t tm
    obtain ⟨L, hL⟩ : ∃ L, winsOf k s t tm = L := ⟨_, rfl⟩
    obtain ⟨q, hq⟩ : ∃ q, L.length = q := ⟨_, rfl⟩
    have HS := Lib.hid (fun W => (show Calls Try.prog 17 #[.agg #[.int .i64 k, .int .i64 s, .int .i64 t], .int .i64 tm] W (WsAt q L W) from by have h := specWinsOf_any k s t tm W; rw [hL] at h; exact h.mono fun _ _ h => ws_at h hq))
    have HI := Lib.hid (fun W => (show Calls Try.prog 15 #[.agg #[.int .i64 k, .int .i64 s, .int .i64 t], .int .i64 tm] W (WsAt q L W) from by have h := implWinsOf_any k s t tm W; rw [hL] at h; exact h.mono fun _ _ h => ws_at h hq))
    have HQ := Lib.hid hq
    have HL := Lib.hid hL
    have hq1 : q ≤ 1001 := by rw [← hq, ← hL]; exact hlen
    clear hb1 hA hb hn hlen hq hL
    have hbB := below_alloc w1 (.cells #[.int .i64 k, .int .i64 s, .int .i64 t] 25)
    obtain ⟨c0, c1, c2⟩ := HBx.out.three
    go_wp2_with fail
    refine (HI.out _).mono ?_
    rintro e w2 ⟨A1, cc1, rfl, r1, hb2⟩
    have hBx2 := HBx.out.grow hb2
    have hbB2 := below_trans hbB hb2
    clear c0 c1 c2
    obtain ⟨c0, c1, c2⟩ := hBx2.three
    go_wp2_with fail
    refine (HS.out _).mono ?_
    rintro e w3 ⟨A0, cc0, rfl, r0, hb3⟩
    have hBx3 := hBx2.grow hb3
    have hbB3 := below_trans hbB2 hb3
    replace r1 := r1.grow hb3
    clear c0 c1 c2 hBx2
    go_wp2_with fail
    refine (sameWins_same A1 A0 q cc1 cc0 L _ r1.reads r0.reads HQ.out (by omega)).mono ?_
    rintro e w4 ⟨rfl, hb4⟩
    have hBx4 := hBx3.grow hb4
    have hbB4 := below_trans hbB3 hb4
    replace r1 := r1.grow hb4
    clear r0 hBx3
    by_cases hv : defOk k s t ∧ isT tm
    · have HF := Lib.hid (show WinFacts L s t tm from by rw [← HL.out]; exact wins_facts hv.1 hv.2)
      have HV := Lib.hid hv
      have hs1 := hv.1.2.2.1
      have hs2 := hv.1.2.2.2.1
      have ht0 := hv.2.1
      have ht1 := hv.2.2
      have hq0 : 0 < q := by rw [← HQ.out]; exact HF.out.pos
      have hqb : ((q : Int) == 0) = false := by simp; omega
      have HR := Lib.hid (fun W (h : Below w4.heap.size w4 W) => r1.reads.below h)
      have HD := Lib.hid (fun W (h : Below w4.heap.size w4 W) => (hBx4.grow h).three)
      have HBB := Lib.hid (below_trans HB1.out hbB4)
      have hpl := hBx4.lt
      clear hv hb4 hb3 hb2 hbB hbB2 hbB3 hbB4 r1 hBx4 HS HI HBx
      generalize w1.heap.size = B at *
      go_wp2
      go_loopw [6] (fun s6 wr => ∃ i : Nat, i ≤ q ∧ s6 = .int .i64 (i : Int) ∧ Below w4.heap.size w4 wr) (fun s6 _ => q - (intOf s6).toNat)
      case atStart => exact ⟨0, Nat.zero_le _, rfl, Below.refl _ _⟩
      case round =>
        obtain ⟨i, hi, rfl, hbel⟩ := hrel
        by_cases hlt : i < q
        · have hlm : i < L.length := by rw [HQ.out]; exact hlt
          have hA1 := HR.out _ (Below.refl _ _)
          have hbx := below_trans hbel (below_alloc wr (.cells #[.int .i64 (wat L i).1, .int .i64 (wat L i).2] 32))
          obtain ⟨bb, off, rfl, c0, c1⟩ := win_cells hA1 hbel hlm
          replace c0 := c0 ⟨wr, Below.refl _ _⟩
          replace c1 := c1 ⟨wr, Below.refl _ _⟩
          simp only at c0 c1
          obtain ⟨z1, z2, z3, z4⟩ := HF.out.at_ i hlm
          have HDb := Lib.hid (fun W (h : Below (wr.alloc (.cells #[.int .i64 (wat L i).1, .int .i64 (wat L i).2] 32)).heap.size (wr.alloc (.cells #[.int .i64 (wat L i).1, .int .i64 (wat L i).2] 32)) W) => HD.out W (below_trans hbx h))
          by_cases hi0 : 0 < i
          · obtain ⟨j, rfl⟩ : ∃ j, i = j + 1 := ⟨i - 1, by omega⟩
            have hst := HF.out.step j hlm
            obtain ⟨bb', off', e', y0, _⟩ := win_cells hA1 hbx (k := j) (by omega)
            cases e'
            obtain ⟨y1, y2, _, _⟩ := HF.out.at_ j (by omega)
            generalize wat L (j + 1) = z at *
            generalize wat L j = y at *
            obtain ⟨a0, a1⟩ := z
            obtain ⟨b0, b1⟩ := y
            simp only at z1 z2 z3 z4 hst y1 y2 y0 c0 c1
            have p0 := fun u : Bel (wr.alloc (.cells #[.int .i64 a0, .int .i64 a1] 32)) => (box_win u).1
            have p1 := fun u : Bel (wr.alloc (.cells #[.int .i64 a0, .int .i64 a1] 32)) => (box_win u).2
            have q1 : ∀ u : Bel (wr.alloc (.cells #[.int .i64 a0, .int .i64 a1] 32)), u.w.cell? ⟨B, 1, none⟩ = some (.int .i64 s) := fun u => (HDb.out u.w u.ok).2.1
            have q2 : ∀ u : Bel (wr.alloc (.cells #[.int .i64 a0, .int .i64 a1] 32)), u.w.cell? ⟨B, 2, none⟩ = some (.int .i64 t) := fun u => (HDb.out u.w u.ok).2.2
            have t1 : decide (tm < a0) = false := by simp; omega
            have t2 : decide (a1 ≤ tm) = false := by simp; omega
            have t3 : IntKind.i64.wrap (a1 - a0) = s := by rw [IntKind.wrap_i64]; omega
            have t4 : IntKind.i64.wrap (a0 - b0) = t := by rw [IntKind.wrap_i64]; omega
            have t5 : decide ((0 : Int) < (j : Int) + 1) = true := decide_eq_true (by omega)
            have t6 : (s != s) = false := by simp
            have t7 : (t != t) = false := by simp
            have t8 : IntKind.i64.wrap ((j : Int) + 1 - 1) = (j : Int) := by rw [IntKind.wrap_i64]; omega
            have t9 : IntKind.i64.wrap (j : Int) = (j : Int) := by rw [IntKind.wrap_i64]; omega
            clear z1 z2 z3 z4 hst y1 y2
            go_wp2
            refine wp_region_bel (by kernel_rfl) (by kernel_rfl) ?_
            repeat (go_big_quiet_step (fail))
            refine wpQuiet_nil ?_
            rintro _ ⟨u, rfl⟩
            clear t8 t9 t3 t4
            go_wp2
            go_roundw
            case rel => exact ⟨j + 1 + 1, by omega, by go_num, below_trans hbx u.ok⟩
            case measure => simp [intOf]; omega
          · obtain rfl : i = 0 := by omega
            generalize wat L 0 = z at *
            obtain ⟨a0, a1⟩ := z
            simp only at z1 z2 z3 z4 c0 c1
            simp only [Nat.zero_mul, Nat.add_zero] at c0 c1
            have p0 := fun u : Bel (wr.alloc (.cells #[.int .i64 a0, .int .i64 a1] 32)) => (box_win u).1
            have p1 := fun u : Bel (wr.alloc (.cells #[.int .i64 a0, .int .i64 a1] 32)) => (box_win u).2
            have q1 : ∀ u : Bel (wr.alloc (.cells #[.int .i64 a0, .int .i64 a1] 32)), u.w.cell? ⟨B, 1, none⟩ = some (.int .i64 s) := fun u => (HDb.out u.w u.ok).2.1
            have q2 : ∀ u : Bel (wr.alloc (.cells #[.int .i64 a0, .int .i64 a1] 32)), u.w.cell? ⟨B, 2, none⟩ = some (.int .i64 t) := fun u => (HDb.out u.w u.ok).2.2
            have t1 : decide (tm < a0) = false := by simp; omega
            have t2 : decide (a1 ≤ tm) = false := by simp; omega
            have t3 : IntKind.i64.wrap (a1 - a0) = s := by rw [IntKind.wrap_i64]; omega
            have t6 : (s != s) = false := by simp
            clear z1 z2 z3 z4
            go_wp2
            refine wp_region_bel (by kernel_rfl) (by kernel_rfl) ?_
            repeat (go_big_quiet_step (fail))
            refine wpQuiet_nil ?_
            rintro _ ⟨u, rfl⟩
            clear t3
            go_wp2
            go_roundw
            case rel => exact ⟨0 + 1, by omega, by go_num, below_trans hbx u.ok⟩
            case measure => simp [intOf]; omega
        · obtain rfl : i = q := by omega
          clear hlt hi
          obtain ⟨k0, k1, k2⟩ := HD.out wr hbel
          have hA1 := HR.out _ (Below.refl _ _)
          by_cases e1 : k = 1
          · subst e1
            obtain ⟨S, rfl⟩ : ∃ S : Nat, s = (S : Int) := ⟨s.toNat, by omega⟩
            obtain ⟨T, rfl⟩ : ∃ T : Nat, tm = (T : Int) := ⟨tm.toNat, by omega⟩
            have hL := winsOf_tumble HV.out.1 HV.out.2
            rw [HL.out] at hL
            simp only [Int.toNat_natCast] at hL
            have hmod : T / S * S % S = 0 := Nat.mul_mod_left _ _
            generalize T / S * S = F at *
            have hF0 : (wat L 0).1 = (F : Int) := by rw [hL]; rfl
            have hF2 := (HF.out.at_ 0 HF.out.pos).2.1
            rw [hF0] at hF2
            obtain ⟨bb, off, rfl, c0, _⟩ := win_cells hA1 hbel HF.out.pos
            rw [hF0] at c0
            simp only [Nat.zero_mul, Nat.add_zero] at c0
            obtain rfl : i = 1 := by rw [← HQ.out, hL]; rfl
            have q1' : ∀ u : Bel wr, u.w.cell? ⟨B, 1, none⟩ = some (.int .i64 (S : Int)) := fun u => (HD.out u.w (below_trans hbel u.ok)).2.1
            have hm1 : (F : Int) % (S : Int) = 0 := by rw [← Int.natCast_emod, hmod]; rfl
            have hm2 : (F : Int).tmod (S : Int) = 0 := by rw [Int.tmod_eq_emod_of_nonneg (by omega)]; exact hm1
            have hS0 : ¬ (S : Int) = 0 := by omega
            clear hL hmod hF0
            go_wp2
            refine wp_region_bel (by kernel_rfl) (by kernel_rfl) ?_
            repeat (go_big_quiet_step (fail))
            refine wpQuiet_nil ?_
            rintro _ ⟨u, rfl⟩
            go_wp2
            go_ret
            exact ⟨rfl, below_trans HBB.out (below_trans hbel u.ok)⟩
          · by_cases e3 : k = 3
            · subst e3
              have hL := winsOf_sess HV.out.1 HV.out.2
              rw [HL.out] at hL
              have hF0 : (wat L 0).1 = tm := by rw [hL]; rfl
              obtain ⟨bb, off, rfl, c0, _⟩ := win_cells hA1 hbel HF.out.pos
              replace c0 := c0 ⟨wr, Below.refl _ _⟩
              rw [hF0] at c0
              simp only [Nat.zero_mul, Nat.add_zero] at c0
              obtain rfl : i = 1 := by rw [← HQ.out, hL]; rfl
              clear hL hF0
              go_wp2
              go_ret
              exact ⟨ret_bool (by simp), below_trans HBB.out hbel⟩
            · have hst := HV.out.1.2.2.2.2.2 (by have h1 := HV.out.1.1; have h2 := HV.out.1.2.1; omega)
              obtain ⟨S, rfl⟩ : ∃ S : Nat, s = (S : Int) := ⟨s.toNat, by omega⟩
              obtain ⟨T, rfl⟩ : ∃ T : Nat, tm = (T : Int) := ⟨tm.toNat, by omega⟩
              obtain ⟨D, rfl⟩ : ∃ D : Nat, t = (D : Int) := ⟨t.toNat, by omega⟩
              have hD : 0 < D := by omega
              have hDS : D ≤ S := by omega
              have hSl := HL.out
              rw [winsOf_slide HV.out.1 HV.out.2 e1 e3] at hSl
              simp only [Int.toNat_natCast] at hSl
              have HSl := Lib.hid hSl
              have b1 : (k == 1) = false := by simpa using e1
              have b3 : (k == 3) = false := by simpa using e3
              have hS : S ≤ 100 := by omega
              have hT : T ≤ 1000 := by omega
              generalize wr = w5 at *
              clear hst hSl e1 e3 hs1 hs2 ht0 ht1
              go_wp2
              clear k0 k1 k2
              go_loopw [8, 9] (fun s8 s9 wr => ∃ (j F cn : Nat), s9 = .int .i64 (F : Int) ∧ s8 = .int .i64 (cn : Int) ∧ F ≤ T + D ∧ cn ≤ 1101 ∧ Hid (F = j * D ∧ (∀ i, i < j → i * D ≤ T) ∧ (slideTo S D T j).length = cn ∧ cn ≤ j ∧ j ≤ F) ∧ Below w5.heap.size w5 wr) (fun _ s9 _ => 1101 - (intOf s9).toNat)
              case atStart => exact ⟨0, 0, 0, rfl, rfl, Nat.zero_le _, Nat.zero_le _, Lib.hid ⟨by simp, fun i hi => by omega, by simp [slideTo_zero], Nat.le_refl _, Nat.le_refl _⟩, Below.refl _ _⟩
              case round =>
                obtain ⟨j, F, cn, rfl, rfl, hF, hcn, HFj, hbw⟩ := hrel
                have hbel' := below_trans hbel hbw
                obtain ⟨k0, k1, k2⟩ := HD.out wr hbel'
                by_cases hlt : F ≤ T
                · have HJ := Lib.hid (show F + D = (j + 1) * D ∧ (∀ i, i < j + 1 → i * D ≤ T) ∧ j + 1 ≤ F + D from ⟨by rw [HFj.out.1, Nat.add_mul, Nat.one_mul], fun i hi => by
                    by_cases hij : i = j
                    · rw [hij, ← HFj.out.1]; exact hlt
                    · exact HFj.out.2.1 i (by omega), by have := HFj.out.2.2.2.2; omega⟩)
                  by_cases hin : T < F + S
                  · have HS := Lib.hid (slideTo_yes (s := S) (t := D) (tm := T) (k := j) (by rw [← HFj.out.1]; exact hin))
                    have hcn1 : cn + 1 ≤ 1101 := by have := HFj.out.2.2.2.1; have := HFj.out.2.2.2.2; omega
                    go_wp2
                    go_roundw
                    case rel => exact ⟨j + 1, F + D, cn + 1, by go_num, by go_num, by omega, hcn1, Lib.hid ⟨HJ.out.1, HJ.out.2.1, by rw [HS.out, List.length_append, HFj.out.2.2.1]; rfl, by have := HFj.out.2.2.2.1; omega, HJ.out.2.2⟩, hbw⟩
                    case measure => simp [intOf]; omega
                  · have HS := Lib.hid (slideTo_no (s := S) (t := D) (tm := T) (k := j) (by rw [← HFj.out.1]; exact hin))
                    go_wp2
                    go_roundw
                    case rel => exact ⟨j + 1, F + D, cn, by go_num, rfl, by omega, hcn, Lib.hid ⟨HJ.out.1, HJ.out.2.1, by rw [HS.out]; exact HFj.out.2.2.1, by have := HFj.out.2.2.2.1; omega, HJ.out.2.2⟩, hbw⟩
                    case measure => simp [intOf]; omega
                · have hrd := rounds_at (t := D) (tm := T) (k := j) hD HFj.out.2.1 (by rw [← HFj.out.1]; omega)
                  have hcq : cn = i := by
                    rw [← HFj.out.2.2.1, hrd, ← HQ.out, ← HSl.out]; rfl
                  subst hcq
                  have hlast := slides_last (T := T) hD hDS
                  rw [HSl.out, HQ.out] at hlast
                  have hdm := Nat.div_mul_le_self T D
                  obtain ⟨Q, hQ⟩ : ∃ Q : Nat, T / D = Q := ⟨_, rfl⟩
                  rw [hQ] at hlast hdm
                  obtain ⟨G, hG⟩ : ∃ G : Nat, Q * D = G := ⟨_, rfl⟩
                  rw [hG] at hlast hdm
                  obtain ⟨bb, off, rfl, c0, _⟩ := win_cells hA1 hbel' (k := cn - 1) (by rw [HQ.out]; omega)
                  rw [hlast] at c0
                  obtain ⟨cm, rfl⟩ : ∃ cm, cn = cm + 1 := ⟨cn - 1, by omega⟩
                  simp only [Nat.add_sub_cancel] at c0
                  have q2 : ∀ u : Bel wr, u.w.cell? ⟨B, 2, none⟩ = some (.int .i64 (D : Int)) := fun u => (HD.out u.w (below_trans hbel' u.ok)).2.2
                  have hq1 : (T : Int) / (D : Int) = (Q : Int) := by rw [← hQ]; exact (Int.natCast_ediv T D).symm
                  have hmu : (Q : Int) * (D : Int) = (G : Int) := by rw [← hG]; exact (Int.natCast_mul Q D).symm
                  have hD0 : ¬ (D : Int) = 0 := by omega
                  have hQ1 : (Q : Int) ≤ 1000 := by
                    have := Nat.div_le_self T D
                    omega
                  have t8 : IntKind.i64.wrap ((cm : Int) + 1 - 1) = (cm : Int) := by rw [IntKind.wrap_i64]; omega
                  have t9 : IntKind.i64.wrap (cm : Int) = (cm : Int) := by rw [IntKind.wrap_i64]; omega
                  clear hlast hrd hQ hG k0 k1 k2
                  go_wp2
                  refine wp_region_bel (by kernel_rfl) (by kernel_rfl) ?_
                  repeat (go_big_quiet_step (fail))
                  refine wpQuiet_nil ?_
                  rintro _ ⟨u, rfl⟩
                  clear t8 t9
                  go_wp2
                  go_ret
                  exact ⟨by simp, below_trans HBB.out (below_trans hbel' u.ok)⟩
    · have hL0 : L = [] := by rw [← HL.out]; exact winsOf_no hv
      subst hL0
      obtain rfl : q = 0 := HQ.out.symm
      obtain ⟨c0, c1, c2⟩ := hBx4.three
      go_wp2_with fail
      refine (HS.out _).mono ?_
      rintro e w5 ⟨A5, cc5, rfl, r5, hb5⟩
      clear c0 c1 c2
      go_wp2_with fail
      refine (sameWins_same A1 A5 0 cc1 cc5 [] _ (r1.grow hb5).reads r5.reads rfl (by omega)).mono ?_
      rintro e w6 ⟨rfl, hb6⟩
      go_wp2
      go_ret
      exact ⟨rfl, below_trans HB1.out (below_trans hbB4 (below_trans hb5 hb6))⟩
end Go.Proofs.Ytdphbfapccnhlaa
