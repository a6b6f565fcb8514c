/-
  The law on PolicySet: at every lattice value, list of puncts and punct the program answers as the model, writes into no argument, and its answer owns its memory.
-/
import Derived.Test.YtipcjofmplpffaaPolicyRes
import Derived.Deep.RegionHeld3
import Derived.Deep.DeepCutAuto
import Derived.Deep.CutBlock
namespace Go.Proofs.Ytipcjofmplpffaa
open Go.RowKit

set_option maxRecDepth 100000 in
set_option maxHeartbeats 8000000 in
theorem fnExactPolicySet_walk (N : Int) (A : Option Addr) (ca : Nat) (xs : List Nat) (B : Option Addr) (cb : Nat) (ps : List Pn) (a b c d : Int) (w : World) (hA : Rd w A (us xs)) (hu : U64 xs) (hn : xs.length ≤ 9223372036854775807) (hB : Rd w B (iz (qz ps))) (hm : ps.length ≤ 9223372036854775807) :
    Calls Try.prog 8 #[.agg #[.int .i64 N, .slice A xs.length ca], .slice B ps.length cb, pv a b c d] w fun e w' => e = .returned (.bool true) ∧ Below w.heap.size w w' := by
  have HA := Lib.hid (fun W (h : Below w.heap.size w W) => hA.below h)
  have HB := Lib.hid (fun W (h : Below w.heap.size w W) => hB.below h)
  clear hA hB
  by_cases hl : xs.length ≤ 1048576
  · have e1 : less 1048576 xs.length = 1048576 - (xs.length : Int) := by simp [less]; omega
    have E1 := Lib.hid e1
    clear e1
    by_cases hl2 : (ps.length : Int) ≤ 1048576 - (xs.length : Int)
    · have hp : ps.length ≤ 1048576 := by omega
      have E2 := Lib.hid (show lessF (1048576 - (xs.length : Int)) ps.length = 1048576 - (xs.length : Int) - ps.length by simp [lessF]; omega)
      have hml := setV_len N xs ps (a, b, c, d)
      have HSp := Lib.hid (fun A' ca' B' cb' W (h1 : Rd W A' (us xs)) (h2 : Rd W B' (iz (qz ps))) => res_at (specPolicySet_any N A' ca' xs B' cb' ps a b c d W h1 hu hl h2 (by omega)))
      have HIm := Lib.hid (fun A' ca' B' cb' W (h1 : Rd W A' (us xs)) (h2 : Rd W B' (iz (qz ps))) => res_at (implPolicySet_any N A' ca' xs B' cb' ps a b c d W h1 hu hl h2 (by omega)))
      have HZ := Lib.hid (qz_length (setV N xs ps (a, b, c, d)))
      generalize tf (setOk N xs ps (a, b, c, d)) = T at *
      generalize qz (setV N xs ps (a, b, c, d)) = zs at *
      generalize (setV N xs ps (a, b, c, d)).length = m at *
      have hne : (T != T) = false := by simp
      go_enter Try.func8, Try.ntmps8
      go_wp2_with fail
      refine (as_int E1.out (szLat_any N A xs.length ca 1048576 _ (by omega) (by omega) hn)).mono ?_
      rintro e w1 ⟨rfl, hb1⟩
      obtain ⟨ho, hq, hb⟩ := box_two hb1
      clear hb1
      go_wp2_with fail
      refine (as_int E2.out (szPunctS_any B ps.length cb (1048576 - (xs.length : Int)) _ (by omega) (by omega) hm)).mono ?_
      rintro e _ ⟨rfl, rfl⟩
      go_upto_region 8 with (fail)
      go_cut [8, 9] (fun s8 s9 wx => ∃ A0 c0, s8 = .slice A0 m c0 ∧ s9 = .bool T ∧ RowAt w1.heap.size wx.heap.size wx 29 4 (.slice A0 m c0) m (iz zs) ∧ Below w1.heap.size w1 wx)
      case first =>
        obtain ⟨k0, k1, j0, j1, j2, j3⟩ := two_boxes ho hq
        have HAx := Lib.hid (fun W (h : Below w1.heap.size w1 W) => HA.out W (below_trans hb h))
        have HBx := Lib.hid (fun W (h : Below w1.heap.size w1 W) => HB.out W (below_trans hb h))
        go_region_held3 (fun W => Below w1.heap.size w1 W) (first | exact (Below.refl _ _).drew | exact below_trans (by assumption) (by assumption))
          (first
            | (go_at_call 27; refine (toLat_any N A ca xs _ (HAx.out _ (by assumption)) hl).mono ?_; rintro e wa ⟨ga, rfl, hga, howna, hba⟩)
            | (go_at_call 32; refine (toPunctS_any B ps.length cb (qz ps) _ (HBx.out _ (by assumption)) (qz_length ps) hp).mono ?_; rintro e wb ⟨gb, rfl, hgb, hownb, hbb⟩)
            | (go_at_call 28; refine (toPunct_any a b c d _).mono ?_; rintro e wd ⟨rfl, hbd⟩)
            | (go_at_call 13; refine (HSp.out _ _ _ _ _ (by first | exact howna.rd | exact (howna.grow (by assumption)).rd | exact (howna.grow (below_trans (by assumption) (by assumption))).rd) (by first | exact hownb.rd | exact (hownb.grow (by assumption)).rd)).mono ?_; rintro e we ⟨A0, c0, rfl, r0, hbe⟩))
        all_goals
          have hB : Below w1.heap.size w1 we := by assumption
          go_wp2_with fail
          go_meet
          case rel => exact ⟨A0, c0, rfl, rfl, ⟨owns_base r0.1 (Nat.le_trans (show w1.heap.size ≤ wa.heap.size from hba.size) (Nat.le_trans hbb.size hbd.size)), r0.2⟩, hB⟩
      case rest =>
        obtain ⟨A0, c0, rfl, rfl, r0, hbc⟩ := hcut
        have z0 := hq.lt
        have z1 := hbc.size
        replace ho := ho.grow hbc
        replace hq := hq.grow hbc
        replace hb := below_trans hb hbc
        clear hbc
        obtain ⟨k0, k1⟩ := ho.two
        go_wp2_with fail
        clear k0 k1
        refine (toLat_at N A ca xs _ (HA.out _ hb) hl).mono ?_
        rintro e w3 ⟨g2, rfl, rx, hb3⟩
        have z2 := hb3.size
        replace ho := (ho.grow hb3).alloc (.cells #[.int .i64 N, .slice (some ⟨g2, 0, none⟩) xs.length xs.length] 26)
        replace hq := (hq.grow hb3).alloc (.cells #[.int .i64 N, .slice (some ⟨g2, 0, none⟩) xs.length xs.length] 26)
        replace hb := below_trans (below_trans hb hb3) (below_alloc w3 (.cells #[.int .i64 N, .slice (some ⟨g2, 0, none⟩) xs.length xs.length] 26))
        have hx : Own (w3.alloc (.cells #[.int .i64 N, .slice (some ⟨g2, 0, none⟩) xs.length xs.length] 26)) w3.heap.size 26 [.int .i64 N, .slice (some ⟨g2, 0, none⟩) xs.length xs.length] := Own.new _ _ [_, _]
        replace r0 := (r0.grow hb3).grow (below_alloc w3 (.cells #[.int .i64 N, .slice (some ⟨g2, 0, none⟩) xs.length xs.length] 26))
        replace rx := rx.grow (below_alloc w3 (.cells #[.int .i64 N, .slice (some ⟨g2, 0, none⟩) xs.length xs.length] 26))
        clear hb3
        go_wp2_with fail
        refine (toPunctS_at B ps.length cb (qz ps) _ (HB.out _ hb) (qz_length ps) hp).mono ?_
        rintro e w4 ⟨g4, rfl, ry, hb4⟩
        have z3 := hb4.size
        rw [World.size_alloc] at z3 ry
        replace ho := ho.grow hb4
        replace hq := hq.grow hb4
        replace hx := hx.grow hb4
        replace r0 := r0.grow hb4
        replace rx := rx.grow hb4
        replace hb := below_trans hb hb4
        clear hb4
        go_upto_region 11 with (fail)
        go_cut [12, 13] (fun s12 s13 wx => ∃ A1 c1, s12 = .slice A1 m c1 ∧ s13 = .bool T ∧ RowAt w4.heap.size wx.heap.size wx 29 4 (.slice A1 m c1) m (iz zs) ∧ Below w4.heap.size w4 wx)
        case first =>
          obtain ⟨k0, k1, j0, j1, j2, j3⟩ := two_boxes hx hq
          go_region_held3 (fun W => Below w4.heap.size w4 W) (first | exact (Below.refl _ _).drew | exact below_trans (by assumption) (by assumption))
            (first
              | (go_at_call 28; refine (toPunct_any a b c d _).mono ?_; rintro e wd ⟨rfl, hbd⟩)
              | (go_at_call 14; refine (HIm.out _ _ _ _ _ (rx.reads.below (by assumption)) (ry.reads.below (by assumption))).mono ?_; rintro e we ⟨A1, c1, rfl, r1, hbe⟩))
          all_goals
            have hB : Below w4.heap.size w4 we := by assumption
            go_wp2_with fail
            go_meet
            case rel => exact ⟨A1, c1, rfl, rfl, ⟨owns_base r1.1 (show w4.heap.size ≤ wd.heap.size from hbd.size), r1.2⟩, hB⟩
        case rest =>
          obtain ⟨A1, c1, rfl, rfl, r1, hbc⟩ := hcut
          have z4 := hbc.size
          replace ho := ho.grow hbc
          replace hq := hq.grow hbc
          replace hx := hx.grow hbc
          replace r0 := r0.grow hbc
          replace rx := rx.grow hbc
          replace ry := ry.grow hbc
          replace hb := below_trans hb hbc
          clear hbc
          generalize wc = w5 at *
          go_wp2_with fail
          refine (eqPunctS_same A1 A0 m c1 c0 zs _ r1.reads r0.reads HZ.out (by omega)).mono ?_
          rintro e w6 ⟨rfl, hbn⟩
          have z5 := hbn.size
          replace ho := ho.grow hbn
          replace hq := hq.grow hbn
          replace hx := hx.grow hbn
          replace r0 := r0.grow hbn
          replace rx := rx.grow hbn
          replace ry := ry.grow hbn
          replace r1 := r1.grow hbn
          replace hb := below_trans hb hbn
          clear hbn
          have k1 : ∀ W, Below w6.heap.size w6 W → W.cell? ⟨w.heap.size, 0, none⟩ = some (.int .i64 N) := fun W h => (ho.grow h).two.1
          have k2 : ∀ W, Below w6.heap.size w6 W → W.cell? ⟨w.heap.size, 1, none⟩ = some (.slice A xs.length ca) := fun W h => (ho.grow h).two.2
          have k3 : ∀ W, Below w6.heap.size w6 W → W.cell? ⟨w3.heap.size, 0, none⟩ = some (.int .i64 N) := fun W h => (hx.grow h).two.1
          have k4 : ∀ W, Below w6.heap.size w6 W → W.cell? ⟨w3.heap.size, 1, none⟩ = some (.slice (some ⟨g2, 0, none⟩) xs.length xs.length) := fun W h => (hx.grow h).two.2
          have HR := Lib.hid (fun W (h : Below w6.heap.size w6 W) => rx.reads.below h)
          have HA6 := Lib.hid (fun W (h : Below w6.heap.size w6 W) => HA.out W (below_trans hb h))
          go_wp2
          go_region_held3 (fun W => Below w6.heap.size w6 W) (first | exact (Below.refl _ _).drew | exact below_trans (by assumption) (by assumption))
            (first
              | (go_at_call 27; refine (toLat_any N A ca xs _ (HA6.out _ (by assumption)) hl).mono ?_; rintro e w7 ⟨g3, rfl, hg3, hown3, hb7⟩)
              | (go_at_call 30; refine (eqLat_same N _ _ _ _ xs _ (HR.out _ (by assumption)) hown3.rd (by omega)).mono ?_; rintro e w8 ⟨rfl, hb8⟩))
          have hbn : Below w6.heap.size w6 w8 := by assumption
          clear hb7 hb8 hg3 hown3 k1 k2 k3 k4 HR HA6
          have z6 := hbn.size
          replace ho := ho.grow hbn
          replace hq := hq.grow hbn
          replace hx := hx.grow hbn
          replace r0 := r0.grow hbn
          replace rx := rx.grow hbn
          replace ry := ry.grow hbn
          replace r1 := r1.grow hbn
          replace hb := below_trans hb hbn
          clear hbn
          go_wp2_with fail
          refine (toPunctS_any B ps.length cb (qz ps) _ (HB.out _ hb) (qz_length ps) hp).mono ?_
          rintro e w9 ⟨g9, rfl, hg9, hown9, hbn⟩
          have z7 := hbn.size
          replace ho := ho.grow hbn
          replace hq := hq.grow hbn
          replace hx := hx.grow hbn
          replace r0 := r0.grow hbn
          replace rx := rx.grow hbn
          replace ry := ry.grow hbn
          replace r1 := r1.grow hbn
          replace hb := below_trans hb hbn
          clear hbn
          go_wp2_with fail
          refine (eqPunctS_same _ _ ps.length _ _ (qz ps) _ ry.reads hown9.rd (qz_length ps) hp).mono ?_
          rintro e w10 ⟨rfl, hbn⟩
          clear hown9 hg9
          have z8 := hbn.size
          replace ho := ho.grow hbn
          replace hq := hq.grow hbn
          replace hx := hx.grow hbn
          replace r0 := r0.grow hbn
          replace rx := rx.grow hbn
          replace ry := ry.grow hbn
          replace r1 := r1.grow hbn
          replace hb := below_trans hb hbn
          clear hbn
          obtain ⟨c0', c1'⟩ := hx.two
          go_wp2_with fail
          clear c0' c1'
          refine (markLat_at N g2 _ _ xs 1 _ rx (by omega) (by omega) hl).mono ?_
          rintro e w11 ⟨rfl, _, hO⟩
          have z9 := hO.size
          replace ho := ho.only hO (.inl (by omega))
          replace hq := hq.only hO (.inl (by omega))
          replace hb := below_only hb hO (by omega) (by omega)
          replace r0 := r0.move (hO.same (.inl (by omega)) (by omega))
          replace ry := ry.move (hO.same (.inr (by omega)) (by omega))
          replace r1 := r1.move (hO.same (.inr (by omega)) (by omega))
          clear hO hx rx
          go_wp2_with fail
          refine (markPunctS_at _ _ _ ps.length (qz ps) (1 + xs.length) _ ry (by omega) (by omega) (qz_length ps) hp).mono ?_
          rintro e w12 ⟨rfl, _, hO⟩
          have z10 := hO.size
          replace ho := ho.only hO (.inl (by omega))
          replace hq := hq.only hO (.inl (by omega))
          replace hb := below_only hb hO (by omega) (by omega)
          replace r0 := r0.move (hO.same (.inl (by omega)) (by omega))
          replace r1 := r1.move (hO.same (.inr (by omega)) (by omega))
          clear hO ry
          go_wp2_with fail
          refine (eqPunctS_same A1 A0 m c1 c0 zs _ r1.reads r0.reads HZ.out (by omega)).mono ?_
          rintro e w13 ⟨rfl, hbn⟩
          have z11 := hbn.size
          replace ho := ho.grow hbn
          replace hq := hq.grow hbn
          replace r0 := r0.grow hbn
          replace r1 := r1.grow hbn
          replace hb := below_trans hb hbn
          clear hbn
          go_wp2_with fail
          obtain ⟨q1, HQ⟩ : ∃ q1 : Int, Hid (1 + ((m * 4 : Nat) : Int) = q1) := ⟨_, Lib.hid rfl⟩
          have hne2 : (q1 != q1) = false := by simp
          have hpos2 : decide (q1 < 0) = false := by have := HQ.out; simp; omega
          refine (as_int HQ.out (markPunctS_at (.slice A1 m c1) _ _ m zs 1 _ r1 (by omega) (by omega) HZ.out (by omega))).mono ?_
          rintro e w14 ⟨rfl, r1m, hO⟩
          have z12 := hO.size
          replace ho := ho.only hO (.inl (by omega))
          replace hq := hq.only hO (.inl (by omega))
          replace hb := below_only hb hO (by omega) (by omega)
          replace r0 := r0.move (hO.same (.inl (by omega)) (by omega))
          clear hO r1
          go_wp2_with fail
          refine (as_int HQ.out (heldPunctS_any A1 c1 m 1 _ r1m.reads (by omega) (by omega) (by omega))).mono ?_
          rintro e w' ⟨rfl, rfl⟩
          go_upto_region 31 with (fail)
          go_cut [17, 18] (fun s17 s18 wx => ∃ A2 c2, s17 = .slice A2 m c2 ∧ s18 = .bool T ∧ RowAt w14.heap.size wx.heap.size wx 29 4 (.slice A2 m c2) m (iz zs) ∧ Below w14.heap.size w14 wx)
          case first =>
            obtain ⟨k0, k1, j0, j1, j2, j3⟩ := two_boxes ho hq
            have HAx := Lib.hid (fun W (h : Below w14.heap.size w14 W) => HA.out W (below_trans hb h))
            have HBx := Lib.hid (fun W (h : Below w14.heap.size w14 W) => HB.out W (below_trans hb h))
            go_region_held3 (fun W => Below w14.heap.size w14 W) (first | exact (Below.refl _ _).drew | exact below_trans (by assumption) (by assumption))
              (first
                | (go_at_call 27; refine (toLat_any N A ca xs _ (HAx.out _ (by assumption)) hl).mono ?_; rintro e wa ⟨ga, rfl, hga, howna, hba⟩)
                | (go_at_call 32; refine (toPunctS_any B ps.length cb (qz ps) _ (HBx.out _ (by assumption)) (qz_length ps) hp).mono ?_; rintro e wb ⟨gb, rfl, hgb, hownb, hbb⟩)
                | (go_at_call 28; refine (toPunct_any a b c d _).mono ?_; rintro e wd ⟨rfl, hbd⟩)
                | (go_at_call 14; refine (HIm.out _ _ _ _ _ (by first | exact howna.rd | exact (howna.grow (by assumption)).rd | exact (howna.grow (below_trans (by assumption) (by assumption))).rd) (by first | exact hownb.rd | exact (hownb.grow (by assumption)).rd)).mono ?_; rintro e we ⟨A0', c0', rfl, r0', hbe⟩))
            all_goals
              have hB : Below w14.heap.size w14 we := by assumption
              go_wp2_with fail
              go_meet
              case rel => exact ⟨A0', c0', rfl, rfl, ⟨owns_base r0'.1 (Nat.le_trans (show w14.heap.size ≤ wa.heap.size from hba.size) (Nat.le_trans hbb.size hbd.size)), r0'.2⟩, hB⟩
          case rest =>
            obtain ⟨A2, c2, rfl, rfl, r2, hbc⟩ := hcut
            replace r0 := r0.grow hbc
            replace r1m := r1m.grow hbc
            replace hb := below_trans hb hbc
            clear hbc ho hq
            go_wp2_with fail
            refine (eqPunctS_same A2 A0 m c2 c0 zs _ r2.reads r0.reads HZ.out (by omega)).mono ?_
            rintro e w15 ⟨rfl, hbn⟩
            replace r1m := r1m.grow hbn
            replace hb := below_trans hb hbn
            clear hbn r0 r2
            go_wp2_with fail
            refine (as_int HQ.out (heldPunctS_any A1 c1 m 1 _ r1m.reads (by omega) (by omega) (by omega))).mono ?_
            rintro e w' ⟨rfl, rfl⟩
            go_wp2
            go_ret
            exact ⟨rfl, hb⟩
    · have E2 := Lib.hid (show lessF (1048576 - (xs.length : Int)) ps.length = -1 by simp [lessF]; omega)
      go_enter Try.func8, Try.ntmps8
      go_wp2_with fail
      refine (as_int E1.out (szLat_any N A xs.length ca 1048576 _ (by omega) (by omega) hn)).mono ?_
      rintro e w1 ⟨rfl, hb1⟩
      go_wp2_with fail
      refine (as_int E2.out (szPunctS_any B ps.length cb (1048576 - (xs.length : Int)) _ (by omega) (by omega) hm)).mono ?_
      rintro e _ ⟨rfl, rfl⟩
      go_wp2
      go_ret
      exact ⟨rfl, (box_two hb1).2.2⟩
  · have e1 : less 1048576 xs.length = -1 := by simp [less]; omega
    go_enter Try.func8, Try.ntmps8
    go_wp2_with fail
    refine (as_int e1 (szLat_any N A xs.length ca 1048576 _ (by omega) (by omega) hn)).mono ?_
    rintro e w1 ⟨rfl, hb1⟩
    go_wp2
    go_ret
    exact ⟨rfl, (box_two hb1).2.2⟩
end Go.Proofs.Ytipcjofmplpffaa
