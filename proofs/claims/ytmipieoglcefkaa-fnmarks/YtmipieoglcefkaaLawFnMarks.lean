/-
  The law of watermarks: at every list of bytes it returns true. By genlawmarks.py.
-/
import Derived.Test.YtmipieoglcefkaaDrawMW
import Derived.Test.YtmipieoglcefkaaLawMarksKit
import Derived.Deep.CutRange
import Derived.Deep.CutBlock
namespace Go.Proofs.Ytmipieoglcefkaa
open Go.RowKit

set_option maxRecDepth 100000 in
set_option maxHeartbeats 16000000 in
theorem fnMarks_walk (A : Option Addr) (n c : Nat) (w : World) (hA : Byt w A n w.heap.size) (hn : n ≤ 9223372036854775807) :
    Calls Try.prog 3 #[.slice A n c] w fun e w' => e = .returned (.bool true) ∧ Below w.heap.size w w' := by
  by_cases hbig : 1048576 < n
  · go_enter Try.func3, Try.ntmps3
    go_wp2_with (go_at_call 10; refine (bigV A n c true _ (by simpa using hbig) hn).mono ?_; rintro e _ ⟨rfl, rfl⟩)
    go_ret
    exact ⟨rfl, Below.refl _ _⟩
  have hn1 : n ≤ 1048576 := by omega
  have HNB := Lib.hid (show decide (1048576 < n) = false by simpa using hbig)
  obtain ⟨f, hf⟩ := BytF.of hA
  have HFB := Lib.hid (fun W (h : Below w.heap.size w W) => (hf.below h).up h.size)
  have HDr := Lib.hid (drawMarkSet_any A n c w hA hn1)
  clear hf hA hbig
  go_enter Try.func3, Try.ntmps3
  go_wp2_with fail
  refine (bigV A n c false _ HNB.out hn).mono ?_
  rintro e _ ⟨rfl, rfl⟩
  go_wp2_with fail
  refine HDr.out.mono ?_
  rintro e w2 ⟨G, A', c', ms, x, y, rfl, hml, hrow, hb2⟩
  have z2 := hb2.size
  have PB := Lib.hid (bx_new (w := w) (G := G) z2 hrow)
  have HB := Lib.hid (below_trans hb2 (below_alloc w2 (.cells #[.int .i64 G, .slice A' ms.length c'] 26)))
  clear hrow hb2 HDr HNB
  go_wp2_with fail
  refine (specMarksOk_any G A' ms.length c' ms _ (rd_row PB.out.row) rfl (by omega)).mono ?_
  rintro e w3 ⟨rfl, hb3⟩
  have PB3 := Lib.hid (PB.out.grow hb3)
  have HB3 := Lib.hid (below_trans HB.out hb3)
  clear PB HB hb3
  generalize w2.heap.size = B at *
  by_cases hok : marksOk G ms
  · rw [← tf_yes hok]
    obtain ⟨k0, k1⟩ := PB3.out.own.two
    obtain ⟨T, hT, hT20⟩ : ∃ T : Int, (if (n : Int) < 20 then (n : Int) else 20) = T ∧ T ≤ 20 := ⟨_, rfl, by split <;> omega⟩
    have HOK := Lib.hid hok
    clear hok hml
    go_wp2
    clear k0 k1
    go_loopw [6] (fun i wr => ∃ (k : Nat) (G : Int) (A' : Option Addr) (c' : Nat) (ms : List Mk), k ≤ 20 ∧ i = .int .i64 k ∧ marksOk G ms ∧ BX w wr B G (.slice A' ms.length c') ms ∧ Below w.heap.size w wr) (fun i _ => 20 - (intOf i).toNat)
    case atStart => exact ⟨0, G, A', c', ms, by omega, rfl, HOK.out, PB3.out, HB3.out⟩
    case round =>
      clear PB3 HB3 HOK
      obtain ⟨k, G, A', c', ms, hk, rfl, hok, pb, hb⟩ := hrel
      have PB := Lib.hid pb
      have HB := Lib.hid hb
      have hln := hok.1
      have hln4 := hok.2.1
      have HOK := Lib.hid hok
      clear pb hb hok
      by_cases hlt : (k : Int) < T
      · have hk20 : k < 20 := by omega
        obtain ⟨S, HS⟩ : ∃ S : Nat, Hid (∀ W, Below w.heap.size w W → ∀ iI NI : Int, iI = ((k : Nat) : Int) → NI = ((ms.length + 1 : Nat) : Int) → Calls Try.prog 14 #[.slice A n c, .int .i64 iI, .int .i64 NI] W fun e w' => e = .returned (.int .i64 (S : Nat)) ∧ Below W.heap.size W w') :=
          ⟨_, Lib.hid fun W hW iI NI h1 h2 => lawPickI A n c (k) (ms.length + 1) iI NI f W h1 h2 (HFB.out W hW) hn1 (by omega) (by omega) (by omega)⟩
        obtain ⟨x2, Hx2⟩ : ∃ x2 : Nat, Hid (∀ W, Below w.heap.size w W → ∀ iI NI : Int, iI = ((k + 2 : Nat) : Int) → NI = ((80 : Nat) : Int) → Calls Try.prog 14 #[.slice A n c, .int .i64 iI, .int .i64 NI] W fun e w' => e = .returned (.int .i64 (x2 : Nat)) ∧ Below W.heap.size W w') :=
          ⟨_, Lib.hid fun W hW iI NI h1 h2 => lawPickI A n c (k + 2) (80) iI NI f W h1 h2 (HFB.out W hW) hn1 (by omega) (by omega) (by omega)⟩
        obtain ⟨x1, Hx1⟩ : ∃ x1 : Nat, Hid (∀ W, Below w.heap.size w W → ∀ iI NI : Int, iI = ((k + 1 : Nat) : Int) → NI = ((3 : Nat) : Int) → Calls Try.prog 14 #[.slice A n c, .int .i64 iI, .int .i64 NI] W fun e w' => e = .returned (.int .i64 (x1 : Nat)) ∧ Below W.heap.size W w') :=
          ⟨_, Lib.hid fun W hW iI NI h1 h2 => lawPickI A n c (k + 1) (3) iI NI f W h1 h2 (HFB.out W hW) hn1 (by omega) (by omega) (by omega)⟩
        obtain ⟨x4, Hx4⟩ : ∃ x4 : Nat, Hid (∀ W, Below w.heap.size w W → ∀ iI NI : Int, iI = ((k + 4 : Nat) : Int) → NI = ((2 : Nat) : Int) → Calls Try.prog 14 #[.slice A n c, .int .i64 iI, .int .i64 NI] W fun e w' => e = .returned (.int .i64 (x4 : Nat)) ∧ Below W.heap.size W w') :=
          ⟨_, Lib.hid fun W hW iI NI h1 h2 => lawPickI A n c (k + 4) (2) iI NI f W h1 h2 (HFB.out W hW) hn1 (by omega) (by omega) (by omega)⟩
        obtain ⟨R1, hR1⟩ : ∃ R, setG G ms S x2 = R := ⟨_, rfl⟩
        have HI1 := Lib.hid (fun A0 c0 W (h : Rd W A0 (mz ms)) => implMarkSet_any G A0 ms.length c0 ms S x2 W h rfl (by omega))
        have HS1 := Lib.hid (fun A0 c0 W (h : Rd W A0 (mz ms)) => specMarkSet_any G A0 ms.length c0 ms S x2 W h rfl (by omega))
        have HG1 := Lib.hid (setG_good (G := G) (ms := ms) (S := S) (x := x2))
        rw [hR1] at HI1 HS1 HG1
        obtain ⟨R2, hR2⟩ : ∃ R, idleG G ms S ((x4 : Int) == 0) = R := ⟨_, rfl⟩
        have HI2 := Lib.hid (fun A0 c0 W (h : Rd W A0 (mz ms)) => implMarkIdle_any G A0 ms.length c0 ms S ((x4 : Int) == 0) W h rfl (by omega))
        have HS2 := Lib.hid (fun A0 c0 W (h : Rd W A0 (mz ms)) => specMarkIdle_any G A0 ms.length c0 ms S ((x4 : Int) == 0) W h rfl (by omega))
        have HG2 := Lib.hid (idleG_good (G := G) (ms := ms) (S := S) (i := ((x4 : Int) == 0)))
        rw [hR2] at HI2 HS2 HG2
        clear hR1 hR2
        obtain ⟨M1, rs1, q1⟩ := R1
        obtain ⟨M2, rs2, q2⟩ := R2
        obtain ⟨k0, k1⟩ := PB.out.own.two
        go_wp2_with fail
        clear k0 k1
        refine (HS.out _ HB.out _ _ rfl (by omega)).mono ?_
        rintro e w4 ⟨rfl, hb4⟩
        replace PB := Lib.hid (PB.out.grow hb4)
        replace HB := Lib.hid (below_trans HB.out hb4)
        clear hb4
        obtain ⟨k0, k1⟩ := PB.out.own.two
        have hltB := PB.out.own.lt
        go_upto_region 10 with (fail)
        go_cut [8, 9] from 28 to 152 (fun sp sq wx => ∃ (D1 : Nat) (A1 : Option Addr) (c1 : Nat), sp = .pointer (some ⟨D1, 0, none⟩) ∧ sq = .int .i64 q1 ∧ D1 ≠ B ∧ BX w wx D1 M1 (.slice A1 rs1.length c1) rs1 ∧ BX w wx B G (.slice A' ms.length c') ms ∧ Below w.heap.size w wx)
        case first =>
          as_aux_lemma =>
            go_region_with (first
              | (go_at_call 14; refine (Hx2.out _ (by first | exact HB.out.drew | exact (below_trans HB.out (below_alloc _ _)).drew) _ _ (by first | omega | (rw [IntKind.wrap_i64]; omega)) (by rfl)).mono ?_; rintro e w5 ⟨rfl, hb5⟩; have hb45 : Below w4.heap.size w4 w5 := (by first | exact below_trans (Below.refl w4.heap.size w4).drew hb5 | exact below_trans (below_alloc w4 (.cells #[.int .i64 0, .slice none 0 0] 26)).drew hb5); have PB5 := PB.out.grow hb45; obtain ⟨e0, e1⟩ := PB5.own.two; have hlt5 := PB5.own.lt; have hrd5 := rd_row PB5.row; first | (have q5 := (show Own (w4.alloc (.cells #[.int .i64 0, .slice none 0 0] 26)).drew w4.heap.size 26 [.int .i64 0, .slice none 0 0] from Own.new w4 _ [_, _]).grow hb5) | skip)
              | (go_at_call 15; refine (HI1.out _ _ _ (by first | exact hrd5 | exact hrd5.below (below_alloc _ _))).mono ?_; rintro e w6 ⟨A1, c1, rfl, r6, hb6⟩; have hb56 : Below w5.heap.size w5 w6 := (by first | exact hb6 | exact below_trans (below_alloc _ _) hb6); have PB6 := PB5.grow hb56; first | (have q6 := q5.grow hb6; obtain ⟨t0, t1⟩ := q6.two; have ft0 := q6.free 0; have ft1 := q6.free 1) | (have q6 := (Own.new w5 26 [.int .i64 0, .slice none 0 0]).grow hb6; obtain ⟨t0, t1⟩ := q6.two; have ft0 := q6.free 0; have ft1 := q6.free 1) | skip))
            all_goals
              have z4 := HB.out.size
              have z45 := hb45.size
              have z56 := hb56.size
              have r6' : w6.ownsRow w.heap.size 36 2 (.slice A1 rs1.length c1) rs1.length (mz rs1) := owns_base r6.1 (by first | omega | (simp; omega))
              have hbw6 := below_trans (below_trans HB.out hb45) hb56
              have lPB := PB.out.own.lt
              clear r6 k0 k1
              go_wp2_with fail
              go_meet
              case rel =>
                first
                  | exact ⟨_, A1, c1, rfl, rfl, by omega, bx_new (by omega) r6', PB6.grow (below_alloc _ _), below_trans hbw6 (below_alloc _ _)⟩
                  | exact ⟨_, A1, c1, rfl, rfl, by omega, bx_put (by omega) q6 rfl r6', PB6.other2 q6 (by omega) _ _, (hbw6.setCell (by dsimp only; omega) _).setCell (by dsimp only; omega) _⟩
        case rest =>
          obtain ⟨D, A1, c1, rfl, rfl, hDB, pd, pb, hb⟩ := hcut
          replace PB := Lib.hid pb
          have PD := Lib.hid pd
          replace HB := Lib.hid hb
          clear k0 k1 hltB pd pb hb
          generalize wc = w7 at *
          obtain ⟨k0, k1⟩ := PB.out.own.two
          have hltB := PB.out.own.lt
          have hltD := PD.out.own.lt
          go_upto_region 11 with (fail)
          go_cut [10, 11] from 28 to 152 (fun sp sq wx => ∃ (D1 : Nat) (A2 : Option Addr) (c2 : Nat), sp = .pointer (some ⟨D1, 0, none⟩) ∧ sq = .int .i64 q1 ∧ D1 ≠ B ∧ D1 ≠ D ∧ BX w wx D1 M1 (.slice A2 rs1.length c2) rs1 ∧ BX w wx B G (.slice A' ms.length c') ms ∧ BX w wx D M1 (.slice A1 rs1.length c1) rs1 ∧ Below w.heap.size w wx)
          case first =>
            as_aux_lemma =>
              go_region_with (first
                | (go_at_call 14; refine (Hx2.out _ (by first | exact HB.out.drew | exact (below_trans HB.out (below_alloc _ _)).drew) _ _ (by first | omega | (rw [IntKind.wrap_i64]; omega)) (by rfl)).mono ?_; rintro e w5 ⟨rfl, hb5⟩; have hb45 : Below w7.heap.size w7 w5 := (by first | exact below_trans (Below.refl w7.heap.size w7).drew hb5 | exact below_trans (below_alloc w7 (.cells #[.int .i64 0, .slice none 0 0] 26)).drew hb5); have PB5 := PB.out.grow hb45; have PD5 := PD.out.grow hb45; obtain ⟨e0, e1⟩ := PB5.own.two; have hlt5 := PB5.own.lt; have hrd5 := rd_row PB5.row; first | (have q5 := (show Own (w7.alloc (.cells #[.int .i64 0, .slice none 0 0] 26)).drew w7.heap.size 26 [.int .i64 0, .slice none 0 0] from Own.new w7 _ [_, _]).grow hb5) | skip)
                | (go_at_call 16; refine (HS1.out _ _ _ (by first | exact hrd5 | exact hrd5.below (below_alloc _ _))).mono ?_; rintro e w6 ⟨A2, c2, rfl, r6, hb6⟩; have hb56 : Below w5.heap.size w5 w6 := (by first | exact hb6 | exact below_trans (below_alloc _ _) hb6); have PB6 := PB5.grow hb56; have PD6 := PD5.grow hb56; first | (have q6 := q5.grow hb6; obtain ⟨t0, t1⟩ := q6.two; have ft0 := q6.free 0; have ft1 := q6.free 1) | (have q6 := (Own.new w5 26 [.int .i64 0, .slice none 0 0]).grow hb6; obtain ⟨t0, t1⟩ := q6.two; have ft0 := q6.free 0; have ft1 := q6.free 1) | skip))
              all_goals
                have z4 := HB.out.size
                have z45 := hb45.size
                have z56 := hb56.size
                have r6' : w6.ownsRow w.heap.size 36 2 (.slice A2 rs1.length c2) rs1.length (mz rs1) := owns_base r6.1 (by first | omega | (simp; omega))
                have hbw6 := below_trans (below_trans HB.out hb45) hb56
                have lPB := PB.out.own.lt; have lPD := PD.out.own.lt
                clear r6 k0 k1
                go_wp2_with fail
                go_meet
                case rel =>
                  first
                    | exact ⟨_, A2, c2, rfl, rfl, by omega, by omega, bx_new (by omega) r6', PB6.grow (below_alloc _ _), PD6.grow (below_alloc _ _), below_trans hbw6 (below_alloc _ _)⟩
                    | exact ⟨_, A2, c2, rfl, rfl, by omega, by omega, bx_put (by omega) q6 rfl r6', PB6.other2 q6 (by omega) _ _, PD6.other2 q6 (by omega) _ _, (hbw6.setCell (by dsimp only; omega) _).setCell (by dsimp only; omega) _⟩
          case rest =>
            obtain ⟨E, A2, c2, rfl, rfl, hEB, hED, pe, pb, pd, hb⟩ := hcut
            clear k0 k1 hltB hltD PB PD HB
            generalize wc = w8 at *
            go_wp2_with fail
            refine (Hx1.out _ hb _ _ (by omega) rfl).mono ?_
            rintro e w9 ⟨rfl, hb9⟩
            have PB := Lib.hid (pb.grow hb9)
            have PD := Lib.hid (pd.grow hb9)
            have PE := Lib.hid (pe.grow hb9)
            have HB := Lib.hid (below_trans hb hb9)
            clear pb pd pe hb hb9
            go_upto_if 66 with (fail)
            go_cut [9, 11] from 28 to 152 (fun s9 s11 wx => ∃ (M : Int) (rs : List Mk) (q : Int) (A1 : Option Addr) (c1 : Nat) (A2 : Option Addr) (c2 : Nat), s9 = .int .i64 q ∧ s11 = .int .i64 q ∧ (q = 0 → Good G ms S M rs) ∧ BX w wx D M (.slice A1 rs.length c1) rs ∧ BX w wx E M (.slice A2 rs.length c2) rs ∧ BX w wx B G (.slice A' ms.length c') ms ∧ Below w.heap.size w wx)
            case first =>
              by_cases hx1 : x1 = 0
              · subst hx1
                obtain ⟨k0, k1⟩ := PB.out.own.two
                go_upto_region 13 with (fail)
                go_cut [9] from 28 to 152 (fun sq wx => ∃ (A1 : Option Addr) (c1 : Nat), sq = .int .i64 q2 ∧ BX w wx D M2 (.slice A1 rs2.length c1) rs2 ∧ BX w wx B G (.slice A' ms.length c') ms ∧ BX w wx E M1 (.slice A2 rs1.length c2) rs1 ∧ Below w.heap.size w wx)
                case first =>
                  as_aux_lemma =>
                    go_region_with (first
                      | (go_at_call 14; refine (Hx4.out _ HB.out.drew _ _ (by first | omega | (rw [IntKind.wrap_i64]; omega)) (by rfl)).mono ?_; rintro e w5 ⟨rfl, hb5⟩; have hb45 : Below w9.heap.size w9 w5 := below_trans (Below.refl w9.heap.size w9).drew hb5; have PD5 := PD.out.grow hb45; have PB5 := PB.out.grow hb45; have PE5 := PE.out.grow hb45; obtain ⟨e0, e1⟩ := PB5.own.two; have hrd5 := rd_row PB5.row)
                      | (go_at_call 17; refine (HI2.out _ _ _ hrd5).mono ?_; rintro e w6 ⟨A1, c1, rfl, r6, hb56⟩; have PD6 := PD5.grow hb56; have PB6 := PB5.grow hb56; have PE6 := PE5.grow hb56; obtain ⟨t0, t1⟩ := PD6.own.two; have ft0 := PD6.own.free 0; have ft1 := PD6.own.free 1))
                    all_goals
                      have z4 := HB.out.size
                      have z45 := hb45.size
                      have r6' : w6.ownsRow w.heap.size 36 2 (.slice A1 rs2.length c1) rs2.length (mz rs2) := owns_base r6.1 (by omega)
                      have hbw6 := below_trans (below_trans HB.out hb45) hb56
                      have hX := PD6.hX
                      clear r6 k0 k1
                      go_wp2_with fail
                      go_meet
                      case rel => exact ⟨A1, c1, rfl, bx_put hX PD6.own rfl r6', PB6.other2 PD6.own hDB _ _, PE6.other2 PD6.own (fun e => hED e.symm) _ _, (hbw6.setCell (by dsimp only; omega) _).setCell (by dsimp only; omega) _⟩
                case rest =>
                  obtain ⟨A3, c3, rfl, pd, pb, pe, hb⟩ := hcut
                  clear k0 k1 PB PD PE HB
                  generalize wc = w10 at *
                  have PB := Lib.hid pb
                  have PD := Lib.hid pd
                  have PE := Lib.hid pe
                  have HB := Lib.hid hb
                  clear pb pd pe hb
                  obtain ⟨k0, k1⟩ := PB.out.own.two
                  go_upto_region 14 with (fail)
                  go_cut [11] from 28 to 152 (fun sq wx => ∃ (A1 : Option Addr) (c1 : Nat), sq = .int .i64 q2 ∧ BX w wx E M2 (.slice A1 rs2.length c1) rs2 ∧ BX w wx B G (.slice A' ms.length c') ms ∧ BX w wx D M2 (.slice A3 rs2.length c3) rs2 ∧ Below w.heap.size w wx)
                  case first =>
                    as_aux_lemma =>
                      go_region_with (first
                        | (go_at_call 14; refine (Hx4.out _ HB.out.drew _ _ (by first | omega | (rw [IntKind.wrap_i64]; omega)) (by rfl)).mono ?_; rintro e w5 ⟨rfl, hb5⟩; have hb45 : Below w10.heap.size w10 w5 := below_trans (Below.refl w10.heap.size w10).drew hb5; have PD5 := PE.out.grow hb45; have PB5 := PB.out.grow hb45; have PX5 := PD.out.grow hb45; obtain ⟨e0, e1⟩ := PB5.own.two; have hrd5 := rd_row PB5.row)
                        | (go_at_call 18; refine (HS2.out _ _ _ hrd5).mono ?_; rintro e w6 ⟨A1, c1, rfl, r6, hb56⟩; have PD6 := PD5.grow hb56; have PB6 := PB5.grow hb56; have PX6 := PX5.grow hb56; obtain ⟨t0, t1⟩ := PD6.own.two; have ft0 := PD6.own.free 0; have ft1 := PD6.own.free 1))
                      all_goals
                        have z4 := HB.out.size
                        have z45 := hb45.size
                        have r6' : w6.ownsRow w.heap.size 36 2 (.slice A1 rs2.length c1) rs2.length (mz rs2) := owns_base r6.1 (by omega)
                        have hbw6 := below_trans (below_trans HB.out hb45) hb56
                        have hX := PD6.hX
                        clear r6 k0 k1
                        go_wp2_with fail
                        go_meet
                        case rel => exact ⟨A1, c1, rfl, bx_put hX PD6.own rfl r6', PB6.other2 PD6.own hEB _ _, PX6.other2 PD6.own hED _ _, (hbw6.setCell (by dsimp only; omega) _).setCell (by dsimp only; omega) _⟩
                  case rest =>
                    obtain ⟨A4, c4, rfl, pe, pb, pd, hb⟩ := hcut
                    go_wp2_with fail
                    go_meet
                    case rel => exact ⟨M2, rs2, q2, A3, c3, A4, c4, rfl, rfl, HG2.out, pd, pe, pb, hb⟩
              · have hx1b : ((x1 : Int) == 0) = false := by simp; omega
                go_wp2_with fail
                go_meet
                case rel => exact ⟨M1, rs1, q1, A1, c1, A2, c2, rfl, rfl, HG1.out, PD.out, PE.out, PB.out, HB.out⟩
            case rest =>
              clear PB PD PE HB HI1 HS1 HG1 HI2 HS2 HG2 HS Hx1 Hx2 Hx4
              obtain ⟨M, rs, q, A1, c1, A2, c2, rfl, rfl, hgood, pd, pe, pb, hb⟩ := hcut
              generalize wc = wz at *
              have hqq : (q != q) = false := by simp
              have hMM : (M != M) = false := by simp
              have HGD := Lib.hid hgood
              clear hgood
              by_cases hq : q = 0
              · subst hq
                obtain ⟨hS, hlen, hok2, hGM, hLM, hAt⟩ := HGD.out rfl
                have hS1 : S < rs.length := by omega
                have hM := hok2.2.2.1
                obtain ⟨hM0, hM1⟩ := hM
                have hrd1 := rd_row pd.row
                obtain ⟨b1, o1, hA1, _, hc1⟩ := hrd1.mark hS1
                subst hA1
                obtain ⟨b2, o2, hA2, _, hc2⟩ := (rd_row pb.row).mark hS
                subst hA2
                have a1 : ∀ u : Bel wz, u.w.cell? ⟨b1, o1 + S * 2, none⟩ = some (.int .i64 (mat rs S).1) := fun u => (hc1 _ u.ok).1
                have a2 : ∀ u : Bel wz, u.w.cell? ⟨b2, o2 + S * 2, none⟩ = some (.int .i64 (mat ms S).1) := fun u => (hc2 _ u.ok).1
                have k0 : ∀ u : Bel wz, u.w.cell? ⟨D, 0, none⟩ = some (.int .i64 M) := fun u => (pd.own.grow u.ok).two.1
                have k1 : ∀ u : Bel wz, u.w.cell? ⟨D, 1, none⟩ = some (.slice (some ⟨b1, o1, none⟩) rs.length c1) := fun u => (pd.own.grow u.ok).two.2
                have k2 : ∀ u : Bel wz, u.w.cell? ⟨B, 0, none⟩ = some (.int .i64 G) := fun u => (pb.own.grow u.ok).two.1
                have k3 : ∀ u : Bel wz, u.w.cell? ⟨B, 1, none⟩ = some (.slice (some ⟨b2, o2, none⟩) ms.length c') := fun u => (pb.own.grow u.ok).two.2
                have HC1 := Lib.hid (fun u : Bel wz => implMarksLeast_any M (some ⟨b1, o1, none⟩) rs.length c1 rs u.w (hrd1.below u.ok) rfl (by omega))
                have HC2 := Lib.hid (fun u : Bel wz => as_bool (tf_yes hok2).symm (specMarksOk_any M (some ⟨b1, o1, none⟩) rs.length c1 rs u.w (hrd1.below u.ok) rfl (by omega)))
                obtain ⟨lf, hlf⟩ : ∃ lf : Int → Bool, ∀ t, tf (marksOk M rs ∧ t < M) = lf t := ⟨_, fun _ => rfl⟩
                have HC3 := Lib.hid (fun (t : Int) (u : Bel wz) => as_bool (hlf t) (implMarksLate_any M (some ⟨b1, o1, none⟩) rs.length c1 rs t u.w (hrd1.below u.ok) rfl (by omega)))
                have l1 : lf M = false := by rw [← hlf, ← tf_no (fun h => by have := h.2; omega)]
                have l2 : lf (M - 1) = true := by rw [← hlf, ← tf_yes ⟨hok2, by omega⟩]
                have l3 : lf (IntKind.i64.wrap (M - 1)) = true := by rw [show IntKind.i64.wrap (M - 1) = M - 1 by rw [IntKind.wrap_i64]; omega]; exact l2
                clear hlf
                have hd1 : decide (M < G) = false := by simp; omega
                have hd2 : decide (M < leastOf rs) = false := by simp; omega
                have hd4 : decide ((mat rs S).1 < (mat ms S).1) = false := by simp; omega
                have hi1 : 0 ≤ (S : Int) ∧ (S : Int) < (rs.length : Int) := by omega
                have hi2 : 0 ≤ (S : Int) ∧ (S : Int) < (ms.length : Int) := by omega
                obtain ⟨j0, j1⟩ := pd.own.two
                obtain ⟨j2, j3⟩ := pe.own.two
                have PB := Lib.hid pb
                have PD := Lib.hid pd
                have HB := Lib.hid hb
                have HOK2 := Lib.hid hok2
                have HLEN := Lib.hid hlen
                clear pb pd pe hb hok2 hc1 hc2 hrd1 hlen HGD hAt hGM hLM HOK hln hln4
                generalize leastOf rs = L at *
                generalize (mat rs S).1 = y1 at *
                generalize (mat ms S).1 = y2 at *
                go_upto_region 18 with (fail)
                clear j0 j1 j2 j3
                go_cut [151] from 28 to 152 (fun sv wx => sv = .bool false ∧ Below wz.heap.size wz wx)
                case first =>
                  as_aux_lemma =>
                    clear PB PD HB HOK2 HLEN HFB hT hT20 hlt
                    by_cases hpos : 0 < M
                    · have hd5 : decide (0 < M) = true := by simp [hpos]
                      have hd6 : decide (M > 0) = true := by simp [hpos]
                      refine wp_region_bel (by kernel_rfl) (by kernel_rfl) ?_
                      repeat (go_big_quiet_step (first | (go_at_call 19; exact bel_of _ (HC1.out _)) | (go_at_call 12; exact bel_of _ (HC2.out _)) | (go_at_call 20; exact bel_of _ (HC3.out _ _))))
                      refine wpQuiet_nil ?_
                      rintro _ ⟨u, rfl⟩
                      go_wp2_with fail
                      go_meet
                      case rel => exact ⟨rfl, u.ok⟩
                    · have hd5 : decide (0 < M) = false := by simp; omega
                      have hd6 : decide (M > 0) = false := by simp; omega
                      refine wp_region_bel (by kernel_rfl) (by kernel_rfl) ?_
                      repeat (go_big_quiet_step (first | (go_at_call 19; exact bel_of _ (HC1.out _)) | (go_at_call 12; exact bel_of _ (HC2.out _)) | (go_at_call 20; exact bel_of _ (HC3.out _ _))))
                      refine wpQuiet_nil ?_
                      rintro _ ⟨u, rfl⟩
                      go_wp2_with fail
                      go_meet
                      case rel => exact ⟨rfl, u.ok⟩
                case rest =>
                  obtain ⟨rfl, hbz⟩ := hcut
                  clear k0 k1 k2 k3 a1 a2 HC1 HC2 HC3
                  have pb := PB.out.grow hbz
                  have pd := PD.out.grow hbz
                  have hb := below_trans HB.out hbz
                  obtain ⟨j0, j1⟩ := pd.own.two
                  obtain ⟨j2, j3⟩ := pb.own.two
                  have fB0 := pb.own.free 0
                  have fB1 := pb.own.free 1
                  have hX := pb.hX
                  have HPB := Lib.hid (bx_put (G := M) pb.hX pb.own rfl pd.row)
                  have HHB := Lib.hid ((hb.setCell (p := ⟨B, 0, none⟩) hX (.int .i64 M)).setCell (p := ⟨B, 1, none⟩) hX (.slice (some ⟨b1, o1, none⟩) rs.length c1))
                  clear pb pd hb PB PD HB
                  go_wp2
                  go_roundw
                  case rel => exact ⟨k + 1, M, some ⟨b1, o1, none⟩, c1, rs, by omega, by go_num, HOK2.out, HPB.out, HHB.out⟩
                  case measure => simp [intOf]; omega
              · have hq0 : (q != 0) = true := by simpa using hq
                obtain ⟨k0, k1⟩ := pd.own.two
                obtain ⟨k2, k3⟩ := pe.own.two
                have PB := Lib.hid pb
                have HB := Lib.hid hb
                clear pb pd pe hb hq
                go_wp2
                go_roundw
                case rel => exact ⟨k + 1, G, A', c', ms, by omega, by go_num, HOK.out, PB.out, HB.out⟩
                case measure => simp [intOf]; omega
      · go_wp2
        go_ret
        exact ⟨rfl, HB.out⟩
  · rw [← tf_no hok]
    have k0 : ∀ u : Bel w3, u.w.cell? ⟨B, 0, none⟩ = some (.int .i64 G) := fun u => (PB3.out.own.grow u.ok).two.1
    have k1 : ∀ u : Bel w3, u.w.cell? ⟨B, 1, none⟩ = some (.slice A' ms.length c') := fun u => (PB3.out.own.grow u.ok).two.2
    have HC1 := Lib.hid (fun u : Bel w3 => as_bool (tf_no hok).symm (implMarksOk_any G A' ms.length c' ms u.w ((rd_row PB3.out.row).below u.ok) rfl (by omega)))
    have HC2 := Lib.hid (fun u : Bel w3 => as_bool (tf_no hok).symm (specMarksOk_any G A' ms.length c' ms u.w ((rd_row PB3.out.row).below u.ok) rfl (by omega)))
    clear hok PB3
    go_wp2_with fail
    refine wp_region_bel (by kernel_rfl) (by kernel_rfl) ?_
    repeat (go_big_quiet_step (first | (go_at_call 13; exact bel_of _ (HC1.out _)) | (go_at_call 12; exact bel_of _ (HC2.out _))))
    refine wpQuiet_nil ?_
    rintro _ ⟨u, rfl⟩
    go_wp2
    go_ret
    exact ⟨rfl, below_trans HB3.out u.ok⟩
end Go.Proofs.Ytmipieoglcefkaa
