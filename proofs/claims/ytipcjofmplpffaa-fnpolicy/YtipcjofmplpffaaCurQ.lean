/-
  The cursor's punct: the walk. (By gencurq.py.)
-/
import Derived.Test.YtipcjofmplpffaaCurP
import Derived.Deep.RegionHeld3
namespace Go.Proofs.Ytipcjofmplpffaa
open Go.RowKit

set_option maxRecDepth 100000 in
set_option maxHeartbeats 8000000 in
theorem punct_any (g : Nat) (A : Option Addr) (n c m : Nat) (N : Int) (u : Value) (w : World) (h : Cur w g A n c m) (hn : n ≤ 1048576) (hm : m ≤ 1099511620000) :
    Calls Try.prog 42 #[.pointer (some ⟨g, 0, none⟩), .agg #[.int .i64 N, u]] w fun e w' => ∃ a b c' d : Int, e = .returned (pv a b c' d) ∧ Cur w' g A n c (m + 12) ∧ w.grownBy w' (some g) := by
  have p0 : PB w ((w.alloc (.cells #[.int .i64 N, u] 26)).alloc (.cells #[.int .i64 0, .int .i64 0, .int .i64 0, .int .i64 0] 29)) g A n c m N u := by
    obtain ⟨h1, h2, h3⟩ := box_two (w := w) (cs := [.int .i64 N, u]) (ds := zeroP) (t := 26) (s := 29) (Below.refl _ _)
    exact ⟨h1, h2, h.grow h3, grownBy_of h3 _, h.lt⟩
  have P0 := Lib.hid p0
  clear h p0
  go_enter Try.func42, Try.ntmps42
  go_wp2_with fail
  refine (pick_pb P0.out hn (by omega) (by omega) (by omega)).mono ?_
  rintro e w1 ⟨b, rfl, hb, p1⟩
  have hb4 : (b : Int) ≤ 4 := by omega
  clear P0
  have hw := pw_range (4 - (b : Int))
  have HPW := Lib.hid (fun W => l04Pow_any (4 - (b : Int)) W (by omega) (by omega))
  generalize pw (4 - (b : Int)) = L at *
  go_wp2_with fail
  refine (HPW.out _).mono ?_
  rintro e _ ⟨rfl, rfl⟩
  clear HPW
  have P1 := Lib.hid p1
  go_upto_region 3 with (fail)
  go_cut [7] (fun s7 wx => ∃ (h : Nat) (a b c' d : Int), s7 = .pointer (some ⟨h, 0, none⟩) ∧ PQ w wx g A n c (m + 4) N u h [.int .i64 a, .int .i64 b, .int .i64 c', .int .i64 d])
  case first =>
    have HM0 := Lib.hid (show ∀ r : Nat, 0 ≤ (r : Int) / L * L ∧ (r : Int) / L * L ≤ r ∧ 0 ≤ (r : Int) / L ∧ (r : Int) / L ≤ r from fun r => ⟨Int.mul_nonneg (Int.ediv_nonneg (by omega) (by omega)) (by omega), by
      have h1 := Int.mul_ediv_add_emod (r : Int) L
      have h2 := Int.emod_nonneg (r : Int) (b := L) (by omega)
      rw [Int.mul_comm] at h1
      omega, Int.ediv_nonneg (by omega) (by omega), Int.ediv_le_self _ (by omega)⟩)
    have HQ := Lib.hid (show ∀ r : Nat, (r : Int) < 17 → IntKind.i64.wrap ((r : Int) / L) = (r : Int) / L from fun r hr => by have := HM0.out r; rw [IntKind.wrap_i64]; omega)
    have HM := Lib.hid (show ∀ r : Nat, (r : Int) < 17 → IntKind.i64.wrap ((r : Int) / L * L) = (r : Int) / L * L from fun r hr => by have := HM0.out r; rw [IntKind.wrap_i64]; omega)
    have hz0 : ¬ L = 0 := by omega
    obtain ⟨M1, hM1⟩ : ∃ M1 : Int, (if N < 16 then N else 16) = M1 := ⟨_, rfl⟩
    obtain ⟨KK, hM2⟩ : ∃ KK : Int, (if 1 < M1 then M1 else 1) = KK := ⟨_, rfl⟩
    have hKK : 1 ≤ KK ∧ KK ≤ 16 := by rw [← hM2, ← hM1]; split <;> split <;> omega
    have H1 := P1.out.drew
    have H2 := P1.out.new.drew
    clear P1 p1 HM0
    refine wp_region_held_drew (S := fun W => W.cell? ⟨w.heap.size, 0, none⟩ = some (.int .i64 N)) (by kernel_rfl) (PB.s H1) (fun hHeld => ?_)
    refine wpAnyH_take (i := 0) (v := ?v0x1) rfl (by kernel_rfl) (by kernel_rfl) (by kernel_rfl) (fun _ _ _ h => h) (Or.inl ⟨by rfl, ?y0x1⟩) (by with_reducible assumption) ?_
    case y0x1 =>
      intro w0 hSw
      (try dsimp only at hSw)
      go_simp
      (try with_reducible rfl)
    simp only [Act.put, List.setIfInBounds_toArray]
    refine wpAnyH_take (i := 2) (v := ?v2x2) rfl (by kernel_rfl) (by kernel_rfl) (by kernel_rfl) (fun _ _ _ h => h) (Or.inl ⟨by rfl, ?y2x2⟩) (by with_reducible assumption) ?_
    case y2x2 =>
      intro w0 hSw
      (try dsimp only at hSw)
      go_simp
      (try with_reducible rfl)
    simp only [Act.put]
    refine wpAnyH_take (i := 3) (v := ?v3x3) rfl (by kernel_rfl) (by kernel_rfl) (by kernel_rfl) (fun _ _ _ h => h) (Or.inl ⟨by rfl, ?y3x3⟩) (by with_reducible assumption) ?_
    case y3x3 =>
      intro w0 hSw
      (try dsimp only at hSw)
      go_simp
      (try with_reducible rfl)
    simp only [Act.put]
    refine wpAnyH_take (i := 5) (v := ?v5x4) rfl (by kernel_rfl) (by kernel_rfl) (by kernel_rfl) (fun _ _ _ h => h) (Or.inl ⟨by rfl, ?y5x4⟩) (by with_reducible assumption) ?_
    case y5x4 =>
      intro w0 hSw
      (try dsimp only at hSw)
      go_simp
      (try with_reducible rfl)
    simp only [Act.put]
    refine wpAnyH_take (i := 7) (v := ?v7x5) rfl (by kernel_rfl) (by kernel_rfl) (by kernel_rfl) (fun _ _ _ h => h) (Or.inl ⟨by rfl, ?y7x5⟩) (by with_reducible assumption) ?_
    case y7x5 =>
      intro w0 hSw
      (try dsimp only at hSw)
      go_simp
      (try with_reducible rfl)
    simp only [Act.put]
    refine wpAnyH_take (i := 9) (v := ?v9x6) rfl (by kernel_rfl) (by kernel_rfl) (by kernel_rfl) (fun _ _ _ h => h) (Or.inl ⟨by rfl, ?y9x6⟩) (by with_reducible assumption) ?_
    case y9x6 =>
      intro w0 hSw
      (try dsimp only at hSw)
      go_simp
      (try with_reducible rfl)
    simp only [Act.put]
    refine wpAnyH_take (i := 10) (v := ?v10x7) rfl (by kernel_rfl) (by kernel_rfl) (by kernel_rfl) (fun _ _ _ h => h) (Or.inl ⟨by rfl, ?y10x7⟩) (by with_reducible assumption) ?_
    case y10x7 =>
      intro w0 hSw
      (try dsimp only at hSw)
      go_simp
      (try with_reducible rfl)
    simp only [Act.put]
    refine wpAnyH_take (i := 11) (v := ?v11x8) rfl (by kernel_rfl) (by kernel_rfl) (by kernel_rfl) (fun _ _ _ h => h) (Or.inl ⟨by rfl, ?y11x8⟩) (by with_reducible assumption) ?_
    case y11x8 =>
      intro w0 hSw
      (try dsimp only at hSw)
      go_simp
      (try with_reducible rfl)
    simp only [Act.put]
    refine wpAnyH_take (i := 12) (v := ?v12x9) rfl (by kernel_rfl) (by kernel_rfl) (by kernel_rfl) (fun _ _ _ h => h) (Or.inl ⟨by rfl, ?y12x9⟩) (by with_reducible assumption) ?_
    case y12x9 =>
      intro w0 hSw
      (try dsimp only at hSw)
      go_simp
      (try with_reducible rfl)
    simp only [Act.put]
    refine wpAnyH_take (i := 13) (v := ?v13x10) rfl (by kernel_rfl) (by kernel_rfl) (by kernel_rfl) (fun _ _ _ h => h) (Or.inl ⟨by rfl, ?y13x10⟩) (by with_reducible assumption) ?_
    case y13x10 =>
      intro w0 hSw
      (try dsimp only at hSw)
      go_simp
      (try with_reducible rfl)
    simp only [Act.put]
    refine wpAnyH_ready (rs := [1, 16]) (by kernel_rfl) (by simp) ?_
    refine AllReadyH.cons rfl (fun K hK => ?_) ?_
    · go_simp
      go_at_call 61
      refine (pick_pb (by with_reducible assumption) hn (by omega) (by omega) (by omega)).mono ?_
      rintro e w9 ⟨r9, rfl, hr9, q9⟩
      have hdv := HQ.out r9 (by omega)
      have hmv := HM.out r9 (by omega)
      clear hr9
      have q9n := q9.new
      refine hK.out _ _ (by (try dsimp only); first | (with_reducible exact PB.s (by assumption)) | (with_reducible exact PQ.s (by assumption)) | (with_reducible exact PQ.s (PB.newOf (by assumption) _ _ _ _)) | (with_reducible exact PQ.s (PQ.set4 (by assumption) _ _ _ _))) (fun hHeld => ?_)
      clear hK K
      (try simp only [Act.put, List.setIfInBounds_toArray, List.set_cons_zero, List.set_cons_succ])
      refine wpAnyH_ready (rs := [4, 16]) (by kernel_rfl) (by simp) ?_
      refine AllReadyH.cons rfl (fun K hK => ?_) ?_
      · go_simp
        go_at_call 61
        refine (pick_pb (by with_reducible assumption) hn (by omega) (by omega) (by omega)).mono ?_
        rintro e w9 ⟨r9, rfl, hr9, q9⟩
        have hdv := HQ.out r9 (by omega)
        have hmv := HM.out r9 (by omega)
        clear hr9
        have q9n := q9.new
        refine hK.out _ _ (by (try dsimp only); first | (with_reducible exact PB.s (by assumption)) | (with_reducible exact PQ.s (by assumption)) | (with_reducible exact PQ.s (PB.newOf (by assumption) _ _ _ _)) | (with_reducible exact PQ.s (PQ.set4 (by assumption) _ _ _ _))) (fun hHeld => ?_)
        clear hK K
        (try simp only [Act.put, List.setIfInBounds_toArray, List.set_cons_zero, List.set_cons_succ])
        refine wpAnyH_take (i := 6) (v := ?v6x11) rfl (by kernel_rfl) (by kernel_rfl) (by kernel_rfl) (fun _ _ _ h => h) (Or.inl ⟨by rfl, ?y6x11⟩) (by with_reducible assumption) ?_
        case y6x11 =>
          intro w0 hSw
          (try dsimp only at hSw)
          go_simp
          (try with_reducible rfl)
        simp only [Act.put, List.setIfInBounds_toArray]
        refine wpAnyH_take (i := 8) (v := ?v8x12) rfl (by kernel_rfl) (by kernel_rfl) (by kernel_rfl) (fun _ _ _ h => h) (Or.inl ⟨by rfl, ?y8x12⟩) (by with_reducible assumption) ?_
        case y8x12 =>
          intro w0 hSw
          (try dsimp only at hSw)
          go_simp
          (try with_reducible rfl)
        simp only [Act.put]
        refine wpAnyH_ready (rs := [14, 16]) (by kernel_rfl) (by simp) ?_
        refine AllReadyH.cons rfl (fun K hK => ?_) ?_
        · go_simp
          go_at_call 61
          refine (pick_pb (by with_reducible assumption) hn (by omega) (by omega) (by omega)).mono ?_
          rintro e w9 ⟨r9, rfl, hr9, q9⟩
          have hdv := HQ.out r9 (by omega)
          have hmv := HM.out r9 (by omega)
          clear hr9
          have q9n := q9.new
          refine hK.out _ _ (by (try dsimp only); first | (with_reducible exact PB.s (by assumption)) | (with_reducible exact PQ.s (by assumption)) | (with_reducible exact PQ.s (PB.newOf (by assumption) _ _ _ _)) | (with_reducible exact PQ.s (PQ.set4 (by assumption) _ _ _ _))) (fun hHeld => ?_)
          clear hK K
          (try simp only [Act.put, List.setIfInBounds_toArray, List.set_cons_zero, List.set_cons_succ])
          refine wpAnyH_take (i := 15) (v := ?v15x13) rfl (by kernel_rfl) (by kernel_rfl) (by kernel_rfl) (fun _ _ _ h => h) (Or.inl ⟨by rfl, ?y15x13⟩) (by with_reducible assumption) ?_
          case y15x13 =>
            intro w0 hSw
            (try dsimp only at hSw)
            go_simp
            (try with_reducible rfl)
          simp only [Act.put, List.setIfInBounds_toArray]
          refine wpAnyH_ready (rs := [16]) (by kernel_rfl) (by simp) ?_
          refine AllReadyH.cons rfl (fun K hK => ?_) ?_
          · go_simp
            refine hK.out _ _ (by (try dsimp only); first | (with_reducible exact PB.s (by assumption)) | (with_reducible exact PQ.s (by assumption)) | (with_reducible exact PQ.s (PB.newOf (by assumption) _ _ _ _)) | (with_reducible exact PQ.s (PQ.set4 (by assumption) _ _ _ _))) (fun hHeld => ?_)
            clear hK K
            (try simp only [Act.put, List.setIfInBounds_toArray, List.set_cons_zero, List.set_cons_succ])
            refine wpAnyH_ready (rs := [17]) (by kernel_rfl) (by simp) ?_
            refine AllReadyH.cons rfl (fun K hK => ?_) ?_
            · go_simp
              refine hK.out _ _ (by (try dsimp only); first | (with_reducible exact PB.s (by assumption)) | (with_reducible exact PQ.s (by assumption)) | (with_reducible exact PQ.s (PB.newOf (by assumption) _ _ _ _)) | (with_reducible exact PQ.s (PQ.set4 (by assumption) _ _ _ _))) (fun hHeld => ?_)
              clear hK K
              (try simp only [Act.put, List.setIfInBounds_toArray, List.set_cons_zero, List.set_cons_succ])
              refine wpAnyH_done (by kernel_rfl) ?_ _
              go_wp2_with fail
              go_meet
              case rel => first | exact ⟨_, _, _, _, _, rfl, PQ.more (M := m + 1 + 1 + 1 + 1) (PB.newOf (by with_reducible assumption) _ _ _ _) (by omega)⟩ | exact ⟨_, _, _, _, _, rfl, PQ.more (M := m + 1 + 1 + 1 + 1) (PQ.set4 (by with_reducible assumption) _ _ _ _) (by omega)⟩
            exact AllReadyH.nil
          exact AllReadyH.nil
        refine AllReadyH.cons rfl (fun K hK => ?_) ?_
        · go_simp
          refine hK.out _ _ (by (try dsimp only); first | (with_reducible exact PB.s (by assumption)) | (with_reducible exact PQ.s (by assumption)) | (with_reducible exact PQ.s (PB.newOf (by assumption) _ _ _ _)) | (with_reducible exact PQ.s (PQ.set4 (by assumption) _ _ _ _))) (fun hHeld => ?_)
          clear hK K
          (try simp only [Act.put, List.setIfInBounds_toArray, List.set_cons_zero, List.set_cons_succ])
          refine wpAnyH_ready (rs := [14]) (by kernel_rfl) (by simp) ?_
          refine AllReadyH.cons rfl (fun K hK => ?_) ?_
          · go_simp
            go_at_call 61
            refine (pick_pq (by with_reducible assumption) hn (by omega) (by omega) (by omega)).mono ?_
            rintro e w9 ⟨r9, rfl, hr9, q9⟩
            have hdv := HQ.out r9 (by omega)
            have hmv := HM.out r9 (by omega)
            clear hr9
            obtain ⟨z0, z1, z2, z3⟩ := q9.own.four
            have f0 := q9.own.free 0
            have f1 := q9.own.free 1
            have f2 := q9.own.free 2
            have f3 := q9.own.free 3
            refine hK.out _ _ (by (try dsimp only); first | (with_reducible exact PB.s (by assumption)) | (with_reducible exact PQ.s (by assumption)) | (with_reducible exact PQ.s (PB.newOf (by assumption) _ _ _ _)) | (with_reducible exact PQ.s (PQ.set4 (by assumption) _ _ _ _))) (fun hHeld => ?_)
            clear hK K
            (try simp only [Act.put, List.setIfInBounds_toArray, List.set_cons_zero, List.set_cons_succ])
            refine wpAnyH_take (i := 15) (v := ?v15x14) rfl (by kernel_rfl) (by kernel_rfl) (by kernel_rfl) (fun _ _ _ h => h) (Or.inl ⟨by rfl, ?y15x14⟩) (by with_reducible assumption) ?_
            case y15x14 =>
              intro w0 hSw
              (try dsimp only at hSw)
              go_simp
              (try with_reducible rfl)
            simp only [Act.put, List.setIfInBounds_toArray]
            refine wpAnyH_ready (rs := [17]) (by kernel_rfl) (by simp) ?_
            refine AllReadyH.cons rfl (fun K hK => ?_) ?_
            · go_simp
              refine hK.out _ _ (by (try dsimp only); first | (with_reducible exact PB.s (by assumption)) | (with_reducible exact PQ.s (by assumption)) | (with_reducible exact PQ.s (PB.newOf (by assumption) _ _ _ _)) | (with_reducible exact PQ.s (PQ.set4 (by assumption) _ _ _ _))) (fun hHeld => ?_)
              clear hK K
              (try simp only [Act.put, List.setIfInBounds_toArray, List.set_cons_zero, List.set_cons_succ])
              refine wpAnyH_done (by kernel_rfl) ?_ _
              go_wp2_with fail
              go_meet
              case rel => first | exact ⟨_, _, _, _, _, rfl, PQ.more (M := m + 1 + 1 + 1 + 1) (PB.newOf (by with_reducible assumption) _ _ _ _) (by omega)⟩ | exact ⟨_, _, _, _, _, rfl, PQ.more (M := m + 1 + 1 + 1 + 1) (PQ.set4 (by with_reducible assumption) _ _ _ _) (by omega)⟩
            exact AllReadyH.nil
          exact AllReadyH.nil
        exact AllReadyH.nil
      refine AllReadyH.cons rfl (fun K hK => ?_) ?_
      · go_simp
        refine hK.out _ _ (by (try dsimp only); first | (with_reducible exact PB.s (by assumption)) | (with_reducible exact PQ.s (by assumption)) | (with_reducible exact PQ.s (PB.newOf (by assumption) _ _ _ _)) | (with_reducible exact PQ.s (PQ.set4 (by assumption) _ _ _ _))) (fun hHeld => ?_)
        clear hK K
        (try simp only [Act.put, List.setIfInBounds_toArray, List.set_cons_zero, List.set_cons_succ])
        refine wpAnyH_ready (rs := [4]) (by kernel_rfl) (by simp) ?_
        refine AllReadyH.cons rfl (fun K hK => ?_) ?_
        · go_simp
          go_at_call 61
          refine (pick_pq (by with_reducible assumption) hn (by omega) (by omega) (by omega)).mono ?_
          rintro e w9 ⟨r9, rfl, hr9, q9⟩
          have hdv := HQ.out r9 (by omega)
          have hmv := HM.out r9 (by omega)
          clear hr9
          obtain ⟨z0, z1, z2, z3⟩ := q9.own.four
          have f0 := q9.own.free 0
          have f1 := q9.own.free 1
          have f2 := q9.own.free 2
          have f3 := q9.own.free 3
          refine hK.out _ _ (by (try dsimp only); first | (with_reducible exact PB.s (by assumption)) | (with_reducible exact PQ.s (by assumption)) | (with_reducible exact PQ.s (PB.newOf (by assumption) _ _ _ _)) | (with_reducible exact PQ.s (PQ.set4 (by assumption) _ _ _ _))) (fun hHeld => ?_)
          clear hK K
          (try simp only [Act.put, List.setIfInBounds_toArray, List.set_cons_zero, List.set_cons_succ])
          refine wpAnyH_take (i := 6) (v := ?v6x15) rfl (by kernel_rfl) (by kernel_rfl) (by kernel_rfl) (fun _ _ _ h => h) (Or.inl ⟨by rfl, ?y6x15⟩) (by with_reducible assumption) ?_
          case y6x15 =>
            intro w0 hSw
            (try dsimp only at hSw)
            go_simp
            (try with_reducible rfl)
          simp only [Act.put, List.setIfInBounds_toArray]
          refine wpAnyH_take (i := 8) (v := ?v8x16) rfl (by kernel_rfl) (by kernel_rfl) (by kernel_rfl) (fun _ _ _ h => h) (Or.inl ⟨by rfl, ?y8x16⟩) (by with_reducible assumption) ?_
          case y8x16 =>
            intro w0 hSw
            (try dsimp only at hSw)
            go_simp
            (try with_reducible rfl)
          simp only [Act.put]
          refine wpAnyH_ready (rs := [14]) (by kernel_rfl) (by simp) ?_
          refine AllReadyH.cons rfl (fun K hK => ?_) ?_
          · go_simp
            go_at_call 61
            refine (pick_pq (by with_reducible assumption) hn (by omega) (by omega) (by omega)).mono ?_
            rintro e w9 ⟨r9, rfl, hr9, q9⟩
            have hdv := HQ.out r9 (by omega)
            have hmv := HM.out r9 (by omega)
            clear hr9
            obtain ⟨z0, z1, z2, z3⟩ := q9.own.four
            have f0 := q9.own.free 0
            have f1 := q9.own.free 1
            have f2 := q9.own.free 2
            have f3 := q9.own.free 3
            refine hK.out _ _ (by (try dsimp only); first | (with_reducible exact PB.s (by assumption)) | (with_reducible exact PQ.s (by assumption)) | (with_reducible exact PQ.s (PB.newOf (by assumption) _ _ _ _)) | (with_reducible exact PQ.s (PQ.set4 (by assumption) _ _ _ _))) (fun hHeld => ?_)
            clear hK K
            (try simp only [Act.put, List.setIfInBounds_toArray, List.set_cons_zero, List.set_cons_succ])
            refine wpAnyH_take (i := 15) (v := ?v15x17) rfl (by kernel_rfl) (by kernel_rfl) (by kernel_rfl) (fun _ _ _ h => h) (Or.inl ⟨by rfl, ?y15x17⟩) (by with_reducible assumption) ?_
            case y15x17 =>
              intro w0 hSw
              (try dsimp only at hSw)
              go_simp
              (try with_reducible rfl)
            simp only [Act.put, List.setIfInBounds_toArray]
            refine wpAnyH_ready (rs := [17]) (by kernel_rfl) (by simp) ?_
            refine AllReadyH.cons rfl (fun K hK => ?_) ?_
            · go_simp
              refine hK.out _ _ (by (try dsimp only); first | (with_reducible exact PB.s (by assumption)) | (with_reducible exact PQ.s (by assumption)) | (with_reducible exact PQ.s (PB.newOf (by assumption) _ _ _ _)) | (with_reducible exact PQ.s (PQ.set4 (by assumption) _ _ _ _))) (fun hHeld => ?_)
              clear hK K
              (try simp only [Act.put, List.setIfInBounds_toArray, List.set_cons_zero, List.set_cons_succ])
              refine wpAnyH_done (by kernel_rfl) ?_ _
              go_wp2_with fail
              go_meet
              case rel => first | exact ⟨_, _, _, _, _, rfl, PQ.more (M := m + 1 + 1 + 1 + 1) (PB.newOf (by with_reducible assumption) _ _ _ _) (by omega)⟩ | exact ⟨_, _, _, _, _, rfl, PQ.more (M := m + 1 + 1 + 1 + 1) (PQ.set4 (by with_reducible assumption) _ _ _ _) (by omega)⟩
            exact AllReadyH.nil
          exact AllReadyH.nil
        exact AllReadyH.nil
      exact AllReadyH.nil
    refine AllReadyH.cons rfl (fun K hK => ?_) ?_
    · go_simp
      refine hK.out _ _ (by (try dsimp only); first | (with_reducible exact PB.s (by assumption)) | (with_reducible exact PQ.s (by assumption)) | (with_reducible exact PQ.s (PB.newOf (by assumption) _ _ _ _)) | (with_reducible exact PQ.s (PQ.set4 (by assumption) _ _ _ _))) (fun hHeld => ?_)
      clear hK K
      (try simp only [Act.put, List.setIfInBounds_toArray, List.set_cons_zero, List.set_cons_succ])
      refine wpAnyH_ready (rs := [1]) (by kernel_rfl) (by simp) ?_
      refine AllReadyH.cons rfl (fun K hK => ?_) ?_
      · go_simp
        go_at_call 61
        refine (pick_pq (by with_reducible assumption) hn (by omega) (by omega) (by omega)).mono ?_
        rintro e w9 ⟨r9, rfl, hr9, q9⟩
        have hdv := HQ.out r9 (by omega)
        have hmv := HM.out r9 (by omega)
        clear hr9
        obtain ⟨z0, z1, z2, z3⟩ := q9.own.four
        have f0 := q9.own.free 0
        have f1 := q9.own.free 1
        have f2 := q9.own.free 2
        have f3 := q9.own.free 3
        refine hK.out _ _ (by (try dsimp only); first | (with_reducible exact PB.s (by assumption)) | (with_reducible exact PQ.s (by assumption)) | (with_reducible exact PQ.s (PB.newOf (by assumption) _ _ _ _)) | (with_reducible exact PQ.s (PQ.set4 (by assumption) _ _ _ _))) (fun hHeld => ?_)
        clear hK K
        (try simp only [Act.put, List.setIfInBounds_toArray, List.set_cons_zero, List.set_cons_succ])
        refine wpAnyH_ready (rs := [4]) (by kernel_rfl) (by simp) ?_
        refine AllReadyH.cons rfl (fun K hK => ?_) ?_
        · go_simp
          go_at_call 61
          refine (pick_pq (by with_reducible assumption) hn (by omega) (by omega) (by omega)).mono ?_
          rintro e w9 ⟨r9, rfl, hr9, q9⟩
          have hdv := HQ.out r9 (by omega)
          have hmv := HM.out r9 (by omega)
          clear hr9
          obtain ⟨z0, z1, z2, z3⟩ := q9.own.four
          have f0 := q9.own.free 0
          have f1 := q9.own.free 1
          have f2 := q9.own.free 2
          have f3 := q9.own.free 3
          refine hK.out _ _ (by (try dsimp only); first | (with_reducible exact PB.s (by assumption)) | (with_reducible exact PQ.s (by assumption)) | (with_reducible exact PQ.s (PB.newOf (by assumption) _ _ _ _)) | (with_reducible exact PQ.s (PQ.set4 (by assumption) _ _ _ _))) (fun hHeld => ?_)
          clear hK K
          (try simp only [Act.put, List.setIfInBounds_toArray, List.set_cons_zero, List.set_cons_succ])
          refine wpAnyH_take (i := 6) (v := ?v6x18) rfl (by kernel_rfl) (by kernel_rfl) (by kernel_rfl) (fun _ _ _ h => h) (Or.inl ⟨by rfl, ?y6x18⟩) (by with_reducible assumption) ?_
          case y6x18 =>
            intro w0 hSw
            (try dsimp only at hSw)
            go_simp
            (try with_reducible rfl)
          simp only [Act.put, List.setIfInBounds_toArray]
          refine wpAnyH_take (i := 8) (v := ?v8x19) rfl (by kernel_rfl) (by kernel_rfl) (by kernel_rfl) (fun _ _ _ h => h) (Or.inl ⟨by rfl, ?y8x19⟩) (by with_reducible assumption) ?_
          case y8x19 =>
            intro w0 hSw
            (try dsimp only at hSw)
            go_simp
            (try with_reducible rfl)
          simp only [Act.put]
          refine wpAnyH_ready (rs := [14]) (by kernel_rfl) (by simp) ?_
          refine AllReadyH.cons rfl (fun K hK => ?_) ?_
          · go_simp
            go_at_call 61
            refine (pick_pq (by with_reducible assumption) hn (by omega) (by omega) (by omega)).mono ?_
            rintro e w9 ⟨r9, rfl, hr9, q9⟩
            have hdv := HQ.out r9 (by omega)
            have hmv := HM.out r9 (by omega)
            clear hr9
            obtain ⟨z0, z1, z2, z3⟩ := q9.own.four
            have f0 := q9.own.free 0
            have f1 := q9.own.free 1
            have f2 := q9.own.free 2
            have f3 := q9.own.free 3
            refine hK.out _ _ (by (try dsimp only); first | (with_reducible exact PB.s (by assumption)) | (with_reducible exact PQ.s (by assumption)) | (with_reducible exact PQ.s (PB.newOf (by assumption) _ _ _ _)) | (with_reducible exact PQ.s (PQ.set4 (by assumption) _ _ _ _))) (fun hHeld => ?_)
            clear hK K
            (try simp only [Act.put, List.setIfInBounds_toArray, List.set_cons_zero, List.set_cons_succ])
            refine wpAnyH_take (i := 15) (v := ?v15x20) rfl (by kernel_rfl) (by kernel_rfl) (by kernel_rfl) (fun _ _ _ h => h) (Or.inl ⟨by rfl, ?y15x20⟩) (by with_reducible assumption) ?_
            case y15x20 =>
              intro w0 hSw
              (try dsimp only at hSw)
              go_simp
              (try with_reducible rfl)
            simp only [Act.put, List.setIfInBounds_toArray]
            refine wpAnyH_ready (rs := [17]) (by kernel_rfl) (by simp) ?_
            refine AllReadyH.cons rfl (fun K hK => ?_) ?_
            · go_simp
              refine hK.out _ _ (by (try dsimp only); first | (with_reducible exact PB.s (by assumption)) | (with_reducible exact PQ.s (by assumption)) | (with_reducible exact PQ.s (PB.newOf (by assumption) _ _ _ _)) | (with_reducible exact PQ.s (PQ.set4 (by assumption) _ _ _ _))) (fun hHeld => ?_)
              clear hK K
              (try simp only [Act.put, List.setIfInBounds_toArray, List.set_cons_zero, List.set_cons_succ])
              refine wpAnyH_done (by kernel_rfl) ?_ _
              go_wp2_with fail
              go_meet
              case rel => first | exact ⟨_, _, _, _, _, rfl, PQ.more (M := m + 1 + 1 + 1 + 1) (PB.newOf (by with_reducible assumption) _ _ _ _) (by omega)⟩ | exact ⟨_, _, _, _, _, rfl, PQ.more (M := m + 1 + 1 + 1 + 1) (PQ.set4 (by with_reducible assumption) _ _ _ _) (by omega)⟩
            exact AllReadyH.nil
          exact AllReadyH.nil
        exact AllReadyH.nil
      exact AllReadyH.nil
    exact AllReadyH.nil
  case rest =>
    obtain ⟨h, a, b', c', d, rfl, q⟩ := hcut
    clear P1 p1
    have Q := Lib.hid q
    clear q
    go_wp2_with fail
    refine (pick_pq Q.out hn (by omega) (by omega) (by omega)).mono ?_
    rintro e w2 ⟨r, rfl, hr, q2⟩
    clear Q
    have hgl := q2.pb.hg
    have hhl := q2.hh
    by_cases h0 : r = 0
    · subst h0
      have Q2 := Lib.hid q2
      clear q2
      go_wp2_with fail
      refine (raw_pq Q2.out hn (by omega)).mono ?_
      rintro e w3 ⟨x, rfl, q3⟩
      clear Q2
      have Q3 := Lib.hid q3
      have hg3 := q3.pb.cur.lt
      clear q3
      go_wp2_with fail
      refine (pick_pqG (Q3.out.grow (below_alloc _ _)) hn (by omega) (by omega) (by omega)).mono ?_
      rintro e w4 ⟨r4, rfl, hr4, q4, hG4⟩
      have hv := lit_at (xs := [x, 3, 4]) hg3 hG4 (r := r4) (by simp; omega)
      generalize ([x, 3, 4] : List Int).getD r4 0 = V at hv
      clear hG4 Q3
      obtain ⟨z0, z1, z2, z3⟩ := q4.own.four
      have f0 := q4.own.free 0
      have Q4 := Lib.hid (q4.set 0 (.int .i64 V))
      have hr0 := q4.pb.r0
      obtain ⟨y0, y1, y2, y3⟩ := hr0.four
      have yf0 := hr0.free 0
      have yf1 := hr0.free 1
      have yf2 := hr0.free 2
      have yf3 := hr0.free 3
      have hne1 : h ≠ w.heap.size + 1 := by omega
      have hne2 : w.heap.size + 1 ≠ h := by omega
      clear q4 hr0
      go_wp2
      obtain ⟨⟨t0, t1, t2, t3⟩, hfin⟩ := PQ.ret (a := V) (b := b') (c' := c') (d := d) (M' := m + 12) Q4.out (by omega)
      exact bodyPost_ret (v := pv V b' c' d) (by simp [results, Try.results42, go_sem, t0, t1, t2, t3]) rfl ⟨_, _, _, _, rfl, hfin⟩
    by_cases h1 : r = 1
    · subst h1
      have Q2 := Lib.hid q2
      clear q2
      go_wp2_with fail
      refine (raw_pq Q2.out hn (by omega)).mono ?_
      rintro e w3 ⟨x, rfl, q3⟩
      clear Q2
      have Q3 := Lib.hid q3
      have hg3 := q3.pb.cur.lt
      clear q3
      go_wp2_with fail
      refine (pick_pqG (Q3.out.grow (below_alloc _ _)) hn (by omega) (by omega) (by omega)).mono ?_
      rintro e w4 ⟨r4, rfl, hr4, q4, hG4⟩
      have hv := lit_at (xs := [x, 5]) hg3 hG4 (r := r4) (by simp; omega)
      generalize ([x, 5] : List Int).getD r4 0 = V at hv
      clear hG4 Q3
      obtain ⟨z0, z1, z2, z3⟩ := q4.own.four
      have f1 := q4.own.free 1
      have Q4 := Lib.hid (q4.set 1 (.int .i64 V))
      have hr0 := q4.pb.r0
      obtain ⟨y0, y1, y2, y3⟩ := hr0.four
      have yf0 := hr0.free 0
      have yf1 := hr0.free 1
      have yf2 := hr0.free 2
      have yf3 := hr0.free 3
      have hne1 : h ≠ w.heap.size + 1 := by omega
      have hne2 : w.heap.size + 1 ≠ h := by omega
      clear q4 hr0
      go_wp2
      obtain ⟨⟨t0, t1, t2, t3⟩, hfin⟩ := PQ.ret (a := a) (b := V) (c' := c') (d := d) (M' := m + 12) Q4.out (by omega)
      exact bodyPost_ret (v := pv a V c' d) (by simp [results, Try.results42, go_sem, t0, t1, t2, t3]) rfl ⟨_, _, _, _, rfl, hfin⟩
    by_cases h2 : r = 2
    · subst h2
      have Q2 := Lib.hid q2
      clear q2
      go_wp2_with fail
      refine (raw_pq Q2.out hn (by omega)).mono ?_
      rintro e w3 ⟨x, rfl, q3⟩
      clear Q2
      have Q3 := Lib.hid q3
      clear q3
      go_wp2_with fail
      refine (pick_pq Q3.out hn (by omega) (by omega) (by omega)).mono ?_
      rintro e w3' ⟨y, rfl, hy, q3'⟩
      clear Q3
      have Q3 := Lib.hid q3'
      have hg3 := q3'.pb.cur.lt
      clear q3'
      go_wp2_with fail
      refine (pick_pqG (Q3.out.grow (below_alloc _ _)) hn (by omega) (by omega) (by omega)).mono ?_
      rintro e w4 ⟨r4, rfl, hr4, q4, hG4⟩
      have hv := lit_at (xs := [x, (y : Int)]) hg3 hG4 (r := r4) (by simp; omega)
      generalize ([x, (y : Int)] : List Int).getD r4 0 = V at hv
      clear hG4 Q3
      obtain ⟨z0, z1, z2, z3⟩ := q4.own.four
      have f2 := q4.own.free 2
      have Q4 := Lib.hid (q4.set 2 (.int .i64 V))
      have hr0 := q4.pb.r0
      obtain ⟨y0, y1, y2, y3⟩ := hr0.four
      have yf0 := hr0.free 0
      have yf1 := hr0.free 1
      have yf2 := hr0.free 2
      have yf3 := hr0.free 3
      have hne1 : h ≠ w.heap.size + 1 := by omega
      have hne2 : w.heap.size + 1 ≠ h := by omega
      clear q4 hr0
      go_wp2
      obtain ⟨⟨t0, t1, t2, t3⟩, hfin⟩ := PQ.ret (a := a) (b := b') (c' := V) (d := d) (M' := m + 12) Q4.out (by omega)
      exact bodyPost_ret (v := pv a b' V d) (by simp [results, Try.results42, go_sem, t0, t1, t2, t3]) rfl ⟨_, _, _, _, rfl, hfin⟩
    by_cases h3 : r = 3
    · subst h3
      have Q2 := Lib.hid q2
      clear q2
      go_wp2_with fail
      refine (raw_pq Q2.out hn (by omega)).mono ?_
      rintro e w4 ⟨V, rfl, q4⟩
      clear Q2
      obtain ⟨z0, z1, z2, z3⟩ := q4.own.four
      have f3 := q4.own.free 3
      have Q4 := Lib.hid (q4.set 3 (.int .i64 V))
      have hr0 := q4.pb.r0
      obtain ⟨y0, y1, y2, y3⟩ := hr0.four
      have yf0 := hr0.free 0
      have yf1 := hr0.free 1
      have yf2 := hr0.free 2
      have yf3 := hr0.free 3
      have hne1 : h ≠ w.heap.size + 1 := by omega
      have hne2 : w.heap.size + 1 ≠ h := by omega
      clear q4 hr0
      go_wp2
      obtain ⟨⟨t0, t1, t2, t3⟩, hfin⟩ := PQ.ret (a := a) (b := b') (c' := c') (d := V) (M' := m + 12) Q4.out (by omega)
      exact bodyPost_ret (v := pv a b' c' V) (by simp [results, Try.results42, go_sem, t0, t1, t2, t3]) rfl ⟨_, _, _, _, rfl, hfin⟩
    have e0 : ((r : Int) == 0) = false := by simp; omega
    have e1 : ((r : Int) == 1) = false := by simp; omega
    have e2 : ((r : Int) == 2) = false := by simp; omega
    have e3 : ((r : Int) == 3) = false := by simp; omega
    clear h0 h1 h2 h3
    obtain ⟨z0, z1, z2, z3⟩ := q2.own.four
    have Q4 := Lib.hid q2
    have hr0 := q2.pb.r0
    obtain ⟨y0, y1, y2, y3⟩ := hr0.four
    have yf0 := hr0.free 0
    have yf1 := hr0.free 1
    have yf2 := hr0.free 2
    have yf3 := hr0.free 3
    clear q2 hr0
    go_wp2
    obtain ⟨⟨t0, t1, t2, t3⟩, hfin⟩ := PQ.ret (a := a) (b := b') (c' := c') (d := d) (M' := m + 12) Q4.out (by omega)
    exact bodyPost_ret (v := pv a b' c' d) (by simp [results, Try.results42, go_sem, t0, t1, t2, t3]) rfl ⟨_, _, _, _, rfl, hfin⟩
end Go.Proofs.Ytipcjofmplpffaa
