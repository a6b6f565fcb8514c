import Derived.Test.YtipcjofmplpffaaJoinB
import Derived.Test.YtipcjofmplpffaaCurQ
import Derived.Test.YtipcjofmplpffaaCurD
import Derived.Deep.RegionHeld3

/-
  PolicySet, the model's: what it returns.
-/
namespace Go.Proofs.Ytipcjofmplpffaa
open Go.RowKit

theorem qz_take : ∀ (ps : List Pn) (k : Nat), qz (ps.take k) = (qz ps).take (k * 4)
  | _, 0 => by simp [qz]
  | [], k + 1 => by simp [qz]
  | p :: ps, k + 1 => by rw [List.take_succ_cons, qz_cons, qz_cons, qz_take ps k, show (k + 1) * 4 = k * 4 + 1 + 1 + 1 + 1 by omega]; simp
theorem qz_drop : ∀ (ps : List Pn) (k : Nat), qz (ps.drop k) = (qz ps).drop (k * 4)
  | _, 0 => by simp
  | [], k + 1 => by simp [qz]
  | p :: ps, k + 1 => by rw [List.drop_succ_cons, qz_cons, qz_drop ps k, show (k + 1) * 4 = k * 4 + 1 + 1 + 1 + 1 by omega]; simp

set_option maxRecDepth 100000 in
set_option maxHeartbeats 2000000 in
theorem specPolicySet_any (N : Int) (A : Option Addr) (ca : Nat) (xs : List Nat) (B : Option Addr) (cb : Nat) (ps : List Pn) (a b c d : Int) (w : World) (hA : Rd w A (us xs)) (hu : U64 xs) (hn : xs.length ≤ 1048576) (hB : Rd w B (iz (qz ps))) (hm : ps.length ≤ 1048588) :
    Calls Try.prog 13 #[.agg #[.int .i64 N, .slice A xs.length ca], .slice B ps.length cb, pv a b c d] w (PolRes w (setV N xs ps (a, b, c, d)) (tf (setOk N xs ps (a, b, c, d)))) := by
  have HA := Lib.hid (fun W (h : Below w.heap.size w W) => hA.below h)
  have HB := Lib.hid (fun W (h : Below w.heap.size w W) => hB.below h)
  clear hA hB
  go_enter Try.func13, Try.ntmps13
  go_wp2_with fail
  by_cases hL : okL N xs ps
  · refine (as_bool (tf_yes hL).symm (specPolicyOk_any N A ca xs B cb ps _ (HA.out _ (below_trans (below_alloc _ _) (below_alloc _ _))) hu hn (HB.out _ (below_trans (below_alloc _ _) (below_alloc _ _))) hm)).mono ?_
    have HL := Lib.hid hL
    clear hL
    rintro e w1 ⟨rfl, hb1⟩
    obtain ⟨ho, hp, hb⟩ := box_two hb1
    have hsz : w.heap.size + 1 < w1.heap.size := hp.lt
    clear hb1
    obtain ⟨c0, c1⟩ := ho.two
    obtain ⟨d0, d1, d2, d3⟩ := hp.four
    go_wp2_with fail
    clear c0 c1 d0 d1 d2 d3
    by_cases hg : goodP N (a, b, c, d)
    · refine (as_bool (tf_yes ⟨HL.out.1, hg⟩).symm (specPunctOk_any N A ca xs a b c d _ (HA.out _ hb) hu hn)).mono ?_
      rintro e w2 ⟨rfl, hb2⟩
      replace hp := hp.grow hb2
      replace hb := below_trans hb hb2
      clear hb2 ho
      have HG := Lib.hid hg
      clear hg
      obtain ⟨d0, d1, d2, d3⟩ := hp.four
      go_wp2_with fail
      clear d0 d1 d2 d3
      refine (l04Without_any B cb ps a b c d _ (HB.out _ hb) hm).mono ?_
      rintro e w3 ⟨v, rfl, hnn, hrow, hb3⟩
      replace hp := hp.grow hb3
      replace hb := below_trans hb hb3
      have hps := HL.out.2.1
      have hwl := without_length ps (a, b, c, d)
      rcases hrow.2 with ⟨h, _⟩ | ⟨g, cap, cur, rfl, hgb, hgc, hncap, hcapm, hcs, htk⟩
      · exact absurd h hnn
      clear hnn hb3
      have hrd : Rd w3 (some ⟨g, 0, none⟩) (iz (qz (without ps (a, b, c, d)))) := by
        obtain ⟨A1, c1, e1, h1⟩ := owns_rd hrow
        cases e1
        exact h1
      by_cases h12 : (without ps (a, b, c, d)).length ≠ 12
      · have HS := Lib.hid (show setOk N xs ps (a, b, c, d) from ⟨HL.out, HG.out, h12⟩)
        have t12 : (((without ps (a, b, c, d)).length : Int) == 12) = false := by rw [beq_eq_false_iff_ne]; omega
        generalize hrs : without ps (a, b, c, d) = rs at *
        go_wp2
        go_loopw [9] (fun i wr => ∃ k : Nat, k ≤ rs.length ∧ i = .int .i64 k ∧ (∀ j, j < k → lessP (qat rs j) (a, b, c, d)) ∧ Below w3.heap.size w3 wr) (fun i _ => rs.length - (intOf i).toNat)
        case atStart => exact ⟨0, Nat.zero_le _, rfl, fun j hj => by omega, Below.refl _ _⟩
        case round =>
          obtain ⟨k, hk, rfl, hls, hbel⟩ := hrel
          have p0 : ∀ u : Bel wr, u.w.cell? ⟨w.heap.size + 1, 0, none⟩ = some (.int .i64 a) := fun u => (hp.grow (below_trans hbel u.ok)).cell 0
          have p1 : ∀ u : Bel wr, u.w.cell? ⟨w.heap.size + 1, 1, none⟩ = some (.int .i64 b) := fun u => (hp.grow (below_trans hbel u.ok)).cell 1
          have p2 : ∀ u : Bel wr, u.w.cell? ⟨w.heap.size + 1, 2, none⟩ = some (.int .i64 c) := fun u => (hp.grow (below_trans hbel u.ok)).cell 2
          have p3 : ∀ u : Bel wr, u.w.cell? ⟨w.heap.size + 1, 3, none⟩ = some (.int .i64 d) := fun u => (hp.grow (below_trans hbel u.ok)).cell 3
          by_cases hlt : k < rs.length
          · obtain ⟨gg, off, eA, c0, c1, c2, c3⟩ := quad_cells hrd hbel hlt
            obtain ⟨rfl, rfl⟩ : g = gg ∧ 0 = off := by injection eA with eA; injection eA with e1 e2; exact ⟨e1, e2⟩
            clear eA
            simp only [Nat.zero_add] at c0 c1 c2 c3
            have hd : decide ((k : Int) < (rs.length : Int)) = true := by simp; omega
            by_cases hless : lessP (qat rs k) (a, b, c, d)
            · have HLS := Lib.hid (decide_eq_true hless)
              have HNX := Lib.hid (show ∀ j, j < k + 1 → lessP (qat rs j) (a, b, c, d) from fun j hj => by
                by_cases e : j = k
                · rw [e]; exact hless
                · exact hls j (by omega))
              clear hless
              generalize qat rs k = q at *
              obtain ⟨q0, q1, q2, q3⟩ := q
              go_wp2
              refine wp_region_bel (by kernel_rfl) (by kernel_rfl) ?_
              repeat (go_big_quiet_step ((go_at_call 44; exact bel_of _ (l04Less_is HLS.out _))))
              refine wpQuiet_nil ?_
              rintro _ ⟨u, rfl⟩
              go_wp2
              go_roundw
              case rel => exact ⟨k + 1, by omega, by go_num, HNX.out, below_trans hbel u.ok⟩
              case measure => simp [intOf]; omega
            · have HLS := Lib.hid (decide_eq_false hless)
              have HNL := Lib.hid (show k < rs.length → ¬ lessP (qat rs k) (a, b, c, d) from fun _ => hless)
              clear hless
              have HN0 := Lib.hid hls
              generalize hqq : qat rs k = q at *
              obtain ⟨q0, q1, q2, q3⟩ := q
              go_wp2
              refine wp_region_bel (by kernel_rfl) (by kernel_rfl) ?_
              repeat (go_big_quiet_step ((go_at_call 44; exact bel_of _ (l04Less_is HLS.out _))))
              refine wpQuiet_nil ?_
              rintro _ ⟨u, rfl⟩
              go_wp2
              have HPos := Lib.hid (show posOf (a, b, c, d) rs = k from posOf_is hk hls (fun h => by rw [hqq]; exact HNL.out h))
              have hb0 := below_trans hbel u.ok
              generalize u.w = v0 at *
              have q0 := hp.grow hb0
              have hpl : w.heap.size + 1 < v0.heap.size := q0.lt
              obtain ⟨d0, d1, d2, d3⟩ := q0.four
              have HP := Lib.hid (fun W (h : Below v0.heap.size v0 W) => (q0.grow h).four)
              have HR := Lib.hid (fun W (h : Below v0.heap.size v0 W) => (hrd.below hb0).below h)
              obtain ⟨i0, hi, hz0, hz1', hz2⟩ := info_parts info_Punct
              have HI := Lib.hid hi
              have HZ0 := Lib.hid hz0
              have HZ1 := Lib.hid hz1'
              have HZ2 := Lib.hid hz2
              clear hi hz0 hz1' hz2 p0 p1 p2 p3 c0 c1 c2 c3
              have hkc : k ≤ cap := by omega
              have hbv := Nat.le_trans hb.size hb0.size
              obtain ⟨a2, hA2, HT⟩ : ∃ a2 : Addr, (if cap = k then some (⟨g, 0, none⟩ : Addr) else some ⟨g, k * 4, none⟩) = some a2 ∧ Hid (∀ W, Below v0.heap.size v0 W → ∀ j u, (iz ((qz rs).drop (k * 4)))[j]? = some u → W.cell? (a2.add j) = some u) := by
                by_cases e : cap = k
                · refine ⟨_, if_pos e, Lib.hid fun W hW j u hj => ?_⟩
                  rw [List.drop_eq_nil_of_le (by rw [qz_length]; omega)] at hj
                  simp [iz] at hj
                · refine ⟨_, if_neg e, Lib.hid fun W hW j u hj => ?_⟩
                  have := rd_tail (HR.out W hW) (k * 4) j u hj
                  rwa [Nat.zero_add] at this
              have HB := Lib.hid (fun o => (below_alloc v0 o).drew)
              have HB2 := Lib.hid (fun o o' => (below_trans (below_alloc v0 o) (below_alloc _ o')).drew)
              have HE1 := Lib.hid (owns_empty (size := 4) (Own.new v0 29 []) (Nat.le_refl v0.heap.size))
              have HE2 := Lib.hid (fun o => owns_empty (size := 4) ((Own.new v0 29 []).alloc o) (Nat.le_refl v0.heap.size))
              have HE3 := Lib.hid (fun o => owns_empty (size := 4) (base := v0.heap.size) (new_second v0 o 29 []) (by omega))
              have HN2 := Lib.hid (show ∀ o, Own ((v0.alloc o).alloc (.cells #[.int .i64 a, .int .i64 b, .int .i64 c, .int .i64 d] 29)).drew (v0.heap.size + 1) 29 [.int .i64 a, .int .i64 b, .int .i64 c, .int .i64 d] from fun o => new_second v0 o 29 [.int .i64 a, .int .i64 b, .int .i64 c, .int .i64 d])
              have HN3 := Lib.hid (show ∀ o, Own ((v0.alloc (.cells #[.int .i64 a, .int .i64 b, .int .i64 c, .int .i64 d] 29)).alloc o).drew v0.heap.size 29 [.int .i64 a, .int .i64 b, .int .i64 c, .int .i64 d] from fun o => (Own.new v0 29 [.int .i64 a, .int .i64 b, .int .i64 c, .int .i64 d]).alloc o)
              go_region_law (first
                | (refine step_append_own rfl (.tmp 40) (.tmp 43) 27 rfl v0.heap.size 29 i0 (.agg #[.int .i64 0, .int .i64 0, .int .i64 0, .int .i64 0]) 4 32 Try.underlying27 HI.out HZ0.out HZ1.out HZ2.out rfl (by decide) _ 0 [] rfl (by first | exact HE1.out | exact HE2.out _ | exact HE3.out _) ⟨g, 0, none⟩ k cap (iz ((qz rs).take (k * 4))) rfl (by rw [iz_length, List.length_take, qz_length]; omega) (rd_head (HR.out _ (by first | exact HB.out _ | exact HB2.out _ _)) (k * 4)) (iz_one _) (by unfold maxLen; omega) (by omega) (by first | exact (HB.out _).size | exact (HB2.out _ _).size) ?_; intro v5 w5 hown5 hgrow5 hnil5; have hbel5 := app_below (by first | exact HB.out _ | exact HB2.out _ _) (by first | exact HE1.out | exact HE2.out _ | exact HE3.out _) hgrow5; obtain ⟨f0, f1, f2, f3⟩ := HP.out _ hbel5; rw [Nat.zero_add, List.nil_append] at hown5; clear hnil5)
                | (refine step_append_own rfl (.tmp 44) (.tmp 46) 27 rfl v0.heap.size 29 i0 (.agg #[.int .i64 0, .int .i64 0, .int .i64 0, .int .i64 0]) 4 32 Try.underlying27 HI.out HZ0.out HZ1.out HZ2.out rfl (by decide) _ k (iz ((qz rs).take (k * 4))) rfl (by first | exact hown5 | exact hown5.alloc _) _ 1 1 [.int .i64 a, .int .i64 b, .int .i64 c, .int .i64 d] rfl rfl (by first | exact news_own (Own.new w5 29 [.int .i64 a, .int .i64 b, .int .i64 c, .int .i64 d]) | exact news_kept (HN2.out _) hgrow5 (fun h => absurd (show some (v0.heap.size + 1) = some v0.heap.size from h) (by simp)) | exact news_kept (HN3.out _) hgrow5 (fun h => absurd (show some v0.heap.size = some (v0.heap.size + 1) from h) (by simp))) (iz_one [a, b, c, d]) (by unfold maxLen; omega) (by omega) (by first | exact hbel5.size | (have := hbel5.size; simp; omega)) ?_; intro v6 w6 hown6 hgrow6 hnil6; have hbel6 := app_below (by first | exact hbel5 | exact below_trans hbel5 (below_alloc _ _)) (by first | exact hown5 | exact hown5.alloc _) hgrow6; clear hnil6)
                | (refine step_append_own rfl (.tmp 47) (.tmp 50) 27 rfl v0.heap.size 29 i0 (.agg #[.int .i64 0, .int .i64 0, .int .i64 0, .int .i64 0]) 4 32 Try.underlying27 HI.out HZ0.out HZ1.out HZ2.out rfl (by decide) _ (k + 1) _ rfl hown6 a2 (rs.length - k) (cap - k) (iz ((qz rs).drop (k * 4))) rfl (by rw [iz_length, List.length_drop, qz_length]; omega) (HT.out _ hbel6) (iz_one _) (by unfold maxLen; omega) (by omega) hbel6.size ?_; intro v7 w7 hown7 hgrow7 hnil7; have hbel7 := app_below hbel6 hown6 hgrow7; clear hnil7))
              all_goals
                go_wp2
                go_ret2
                refine ⟨v7, by rw [← tf_yes HS.out]; rfl, ?_, below_trans (below_trans hb hb0) hbel7⟩
                rw [setV_yes HS.out, setP, hrs, ins_pos, HPos.out]
                refine owns_base (base := v0.heap.size) ?_ hbv
                have := hown7
                rw [show k + 1 + (rs.length - k) = rs.length + 1 by omega] at this
                rw [List.length_append, List.length_cons, List.length_take, List.length_drop, show min k rs.length + (rs.length - k + 1) = rs.length + 1 by omega, qz_append, qz_cons, iz_append, qz_take, qz_drop]
                simpa [iz] using this
          · have hd : decide ((k : Int) < (rs.length : Int)) = false := by simp; omega
            have HNL := Lib.hid (show k < rs.length → ¬ lessP (qat rs k) (a, b, c, d) from fun h => absurd h hlt)
            go_wp2
            refine wp_region_bel (by kernel_rfl) (by kernel_rfl) ?_
            repeat (go_big_quiet_step (fail))
            refine wpQuiet_nil ?_
            rintro _ ⟨u, rfl⟩
            go_wp2
            have HPos := Lib.hid (show posOf (a, b, c, d) rs = k from posOf_is hk hls HNL.out)
            have hb0 := below_trans hbel u.ok
            generalize u.w = v0 at *
            have q0 := hp.grow hb0
            have hpl : w.heap.size + 1 < v0.heap.size := q0.lt
            obtain ⟨d0, d1, d2, d3⟩ := q0.four
            have HP := Lib.hid (fun W (h : Below v0.heap.size v0 W) => (q0.grow h).four)
            have HR := Lib.hid (fun W (h : Below v0.heap.size v0 W) => (hrd.below hb0).below h)
            obtain ⟨i0, hi, hz0, hz1', hz2⟩ := info_parts info_Punct
            have HI := Lib.hid hi
            have HZ0 := Lib.hid hz0
            have HZ1 := Lib.hid hz1'
            have HZ2 := Lib.hid hz2
            clear hi hz0 hz1' hz2 p0 p1 p2 p3
            have hkc : k ≤ cap := by omega
            have hbv := Nat.le_trans hb.size hb0.size
            obtain ⟨a2, hA2, HT⟩ : ∃ a2 : Addr, (if cap = k then some (⟨g, 0, none⟩ : Addr) else some ⟨g, k * 4, none⟩) = some a2 ∧ Hid (∀ W, Below v0.heap.size v0 W → ∀ j u, (iz ((qz rs).drop (k * 4)))[j]? = some u → W.cell? (a2.add j) = some u) := by
              by_cases e : cap = k
              · refine ⟨_, if_pos e, Lib.hid fun W hW j u hj => ?_⟩
                rw [List.drop_eq_nil_of_le (by rw [qz_length]; omega)] at hj
                simp [iz] at hj
              · refine ⟨_, if_neg e, Lib.hid fun W hW j u hj => ?_⟩
                have := rd_tail (HR.out W hW) (k * 4) j u hj
                rwa [Nat.zero_add] at this
            have HB := Lib.hid (fun o => (below_alloc v0 o).drew)
            have HB2 := Lib.hid (fun o o' => (below_trans (below_alloc v0 o) (below_alloc _ o')).drew)
            have HE1 := Lib.hid (owns_empty (size := 4) (Own.new v0 29 []) (Nat.le_refl v0.heap.size))
            have HE2 := Lib.hid (fun o => owns_empty (size := 4) ((Own.new v0 29 []).alloc o) (Nat.le_refl v0.heap.size))
            have HE3 := Lib.hid (fun o => owns_empty (size := 4) (base := v0.heap.size) (new_second v0 o 29 []) (by omega))
            have HN2 := Lib.hid (show ∀ o, Own ((v0.alloc o).alloc (.cells #[.int .i64 a, .int .i64 b, .int .i64 c, .int .i64 d] 29)).drew (v0.heap.size + 1) 29 [.int .i64 a, .int .i64 b, .int .i64 c, .int .i64 d] from fun o => new_second v0 o 29 [.int .i64 a, .int .i64 b, .int .i64 c, .int .i64 d])
            have HN3 := Lib.hid (show ∀ o, Own ((v0.alloc (.cells #[.int .i64 a, .int .i64 b, .int .i64 c, .int .i64 d] 29)).alloc o).drew v0.heap.size 29 [.int .i64 a, .int .i64 b, .int .i64 c, .int .i64 d] from fun o => (Own.new v0 29 [.int .i64 a, .int .i64 b, .int .i64 c, .int .i64 d]).alloc o)
            go_region_law (first
              | (refine step_append_own rfl (.tmp 40) (.tmp 43) 27 rfl v0.heap.size 29 i0 (.agg #[.int .i64 0, .int .i64 0, .int .i64 0, .int .i64 0]) 4 32 Try.underlying27 HI.out HZ0.out HZ1.out HZ2.out rfl (by decide) _ 0 [] rfl (by first | exact HE1.out | exact HE2.out _ | exact HE3.out _) ⟨g, 0, none⟩ k cap (iz ((qz rs).take (k * 4))) rfl (by rw [iz_length, List.length_take, qz_length]; omega) (rd_head (HR.out _ (by first | exact HB.out _ | exact HB2.out _ _)) (k * 4)) (iz_one _) (by unfold maxLen; omega) (by omega) (by first | exact (HB.out _).size | exact (HB2.out _ _).size) ?_; intro v5 w5 hown5 hgrow5 hnil5; have hbel5 := app_below (by first | exact HB.out _ | exact HB2.out _ _) (by first | exact HE1.out | exact HE2.out _ | exact HE3.out _) hgrow5; obtain ⟨f0, f1, f2, f3⟩ := HP.out _ hbel5; rw [Nat.zero_add, List.nil_append] at hown5; clear hnil5)
              | (refine step_append_own rfl (.tmp 44) (.tmp 46) 27 rfl v0.heap.size 29 i0 (.agg #[.int .i64 0, .int .i64 0, .int .i64 0, .int .i64 0]) 4 32 Try.underlying27 HI.out HZ0.out HZ1.out HZ2.out rfl (by decide) _ k (iz ((qz rs).take (k * 4))) rfl (by first | exact hown5 | exact hown5.alloc _) _ 1 1 [.int .i64 a, .int .i64 b, .int .i64 c, .int .i64 d] rfl rfl (by first | exact news_own (Own.new w5 29 [.int .i64 a, .int .i64 b, .int .i64 c, .int .i64 d]) | exact news_kept (HN2.out _) hgrow5 (fun h => absurd (show some (v0.heap.size + 1) = some v0.heap.size from h) (by simp)) | exact news_kept (HN3.out _) hgrow5 (fun h => absurd (show some v0.heap.size = some (v0.heap.size + 1) from h) (by simp))) (iz_one [a, b, c, d]) (by unfold maxLen; omega) (by omega) (by first | exact hbel5.size | (have := hbel5.size; simp; omega)) ?_; intro v6 w6 hown6 hgrow6 hnil6; have hbel6 := app_below (by first | exact hbel5 | exact below_trans hbel5 (below_alloc _ _)) (by first | exact hown5 | exact hown5.alloc _) hgrow6; clear hnil6)
              | (refine step_append_own rfl (.tmp 47) (.tmp 50) 27 rfl v0.heap.size 29 i0 (.agg #[.int .i64 0, .int .i64 0, .int .i64 0, .int .i64 0]) 4 32 Try.underlying27 HI.out HZ0.out HZ1.out HZ2.out rfl (by decide) _ (k + 1) _ rfl hown6 a2 (rs.length - k) (cap - k) (iz ((qz rs).drop (k * 4))) rfl (by rw [iz_length, List.length_drop, qz_length]; omega) (HT.out _ hbel6) (iz_one _) (by unfold maxLen; omega) (by omega) hbel6.size ?_; intro v7 w7 hown7 hgrow7 hnil7; have hbel7 := app_below hbel6 hown6 hgrow7; clear hnil7))
            all_goals
              go_wp2
              go_ret2
              refine ⟨v7, by rw [← tf_yes HS.out]; rfl, ?_, below_trans (below_trans hb hb0) hbel7⟩
              rw [setV_yes HS.out, setP, hrs, ins_pos, HPos.out]
              refine owns_base (base := v0.heap.size) ?_ hbv
              have := hown7
              rw [show k + 1 + (rs.length - k) = rs.length + 1 by omega] at this
              rw [List.length_append, List.length_cons, List.length_take, List.length_drop, show min k rs.length + (rs.length - k + 1) = rs.length + 1 by omega, qz_append, qz_cons, iz_append, qz_take, qz_drop]
              simpa [iz] using this
      · have HS := Lib.hid (show ¬ setOk N xs ps (a, b, c, d) from fun h => h12 h.2.2)
        have t12 : (((without ps (a, b, c, d)).length : Int) == 12) = true := by rw [beq_iff_eq]; omega
        generalize (without ps (a, b, c, d)).length = m at *
        go_wp2
        go_ret2
        exact res_no (setV_no HS.out) (tf_no HS.out).symm hb
    · refine (as_bool (tf_no (fun h => hg h.2)).symm (specPunctOk_any N A ca xs a b c d _ (HA.out _ hb) hu hn)).mono ?_
      rintro e w2 ⟨rfl, hb2⟩
      have HS := Lib.hid (show ¬ setOk N xs ps (a, b, c, d) from fun h => hg h.2.1)
      clear hg
      go_wp2
      go_ret2
      exact res_no (setV_no HS.out) (tf_no HS.out).symm (below_trans hb hb2)
  · refine (as_bool (tf_no hL).symm (specPolicyOk_any N A ca xs B cb ps _ (HA.out _ (below_trans (below_alloc _ _) (below_alloc _ _))) hu hn (HB.out _ (below_trans (below_alloc _ _) (below_alloc _ _))) hm)).mono ?_
    have HS := Lib.hid (show ¬ setOk N xs ps (a, b, c, d) from fun h => hL h.1)
    clear hL
    rintro e w1 ⟨rfl, hb1⟩
    go_wp2
    go_ret2
    exact res_no (setV_no HS.out) (tf_no HS.out).symm (box_two hb1).2.2
end Go.Proofs.Ytipcjofmplpffaa

/-
  The cursor's policy: what it returns.
-/
namespace Go.Proofs.Ytipcjofmplpffaa
open Go.RowKit

/-- cells that do not lie in block g -/
def RdF (w : World) (A : Option Addr) (cs : List Value) (g : Nat) : Prop := Rd w A cs ∧ ∀ ad, A = some ad → ad.block ≠ g
theorem RdF.far {w w' : World} {A : Option Addr} {cs : List Value} {g : Nat} (h : RdF w A cs g) (hG : w.grownBy w' (some g)) : RdF w' A cs g := by
  refine ⟨fun k u hu => ?_, h.2⟩
  obtain ⟨ad, e, hlt, hc⟩ := h.1 k u hu
  refine ⟨ad, e, Nat.lt_of_lt_of_le hlt hG.size, ?_⟩
  have hb := hG.block ad.block hlt (by simpa using h.2 ad e)
  rw [← hc]
  unfold World.cell?
  rw [add_block, hb]
theorem RdF.grow {w w' : World} {A : Option Addr} {cs : List Value} {g : Nat} (h : RdF w A cs g) (hb : Below w.heap.size w w') : RdF w' A cs g := ⟨h.1.below hb, h.2⟩
theorem RdF.of {w : World} {base g : Nat} {e : TypeId} {s n c : Nat} {A : Option Addr} {cs : List Value} (h : w.ownsRow base e s (.slice A n c) n cs) (hg : (Value.slice A n c).ownBlock ≠ some g) : RdF w A cs g := by
  obtain ⟨A', c', ee, hr⟩ := owns_rd h
  cases ee
  refine ⟨hr, fun ad e0 hb => hg ?_⟩
  subst e0
  simp [Value.ownBlock, hb]

/-- policy's own memory -/
structure PC (w W : World) (g : Nat) (A : Option Addr) (n c M : Nat) (N : Int) (u : Value) : Prop where
  b0 : Own W w.heap.size 26 [.int .i64 N, u]
  cur : Cur W g A n c M
  gr : w.grownBy W (some g)
  hg : g < w.heap.size
section
variable {w W W' : World} {g : Nat} {A : Option Addr} {n c M M' : Nat} {N : Int} {u : Value}
theorem PC.far (p : PC w W g A n c M N u) (hG : W.grownBy W' (some g)) (hC : Cur W' g A n c M') : PC w W' g A n c M' N u :=
  ⟨own_far p.b0 hG (by have := p.hg; omega), hC, grownBy_trans p.gr hG, p.hg⟩
theorem PC.grow (p : PC w W g A n c M N u) (hb : Below W.heap.size W W') : PC w W' g A n c M N u := p.far (grownBy_of hb _) (p.cur.grow hb)
theorem PC.drew (p : PC w W g A n c M N u) : PC w W.drew g A n c M N u := p.grow (Below.refl _ _).drew
theorem PC.more (p : PC w W g A n c M N u) (hM : M ≤ M') : PC w W g A n c M' N u := ⟨p.b0, p.cur.more hM, p.gr, p.hg⟩
theorem PC.s (p : PC w W g A n c M N u) : W.cell? ⟨w.heap.size, 0, none⟩ = some (.int .i64 N) ∧ W.cell? ⟨w.heap.size, 1, none⟩ = some u := p.b0.two
theorem punct_pc (p : PC w W g A n c M N u) (hn : n ≤ 1048576) (hM : M ≤ 1099511620000) :
    Calls Try.prog 42 #[.pointer (some ⟨g, 0, none⟩), .agg #[.int .i64 N, u]] W fun e w' => ∃ a b c' d : Int, e = .returned (pv a b c' d) ∧ PC w w' g A n c (M + 12) N u ∧ W.grownBy w' (some g) :=
  (punct_any g A n c M N u W p.cur hn hM).mono fun _ _ ⟨a, b, c', d, he, hC, hG⟩ => ⟨a, b, c', d, he, p.far hG hC, hG⟩
end

set_option maxRecDepth 100000 in
set_option maxHeartbeats 4000000 in
theorem policy_any (g : Nat) (A : Option Addr) (n c m : Nat) (N : Int) (R : Option Addr) (cR : Nat) (xs : List Nat) (w : World) (h : Cur w g A n c m) (hn : n ≤ 1048576) (hm : m ≤ 1099511610000) (hR : RdF w R (us xs) g) (hu : U64 xs) (hx : xs.length ≤ 1048576) :
    Calls Try.prog 76 #[.pointer (some ⟨g, 0, none⟩), .agg #[.int .i64 N, .slice R xs.length cR]] w fun e w' => ∃ v ps, e = .returned v ∧ w'.ownsRow w.heap.size 29 4 v ps.length (iz (qz ps)) ∧ ps.length ≤ 12 ∧ Cur w' g A n c (m + 121) ∧ w.grownBy w' (some g) := by
  have hgl := h.lt
  have p0 : PC w ((w.alloc (.cells #[.int .i64 N, .slice R xs.length cR] 26)).alloc (.cells #[] 29)) g A n c m N (.slice R xs.length cR) := by
    obtain ⟨h1, h2, h3⟩ := box_two (w := w) (cs := [.int .i64 N, .slice R xs.length cR]) (ds := []) (t := 26) (s := 29) (Below.refl _ _)
    exact ⟨h1, h.grow h3, grownBy_of h3 _, h.lt⟩
  have r0 : ((w.alloc (.cells #[.int .i64 N, .slice R xs.length cR] 26)).alloc (.cells #[] 29)).ownsRow (w.heap.size + 1) 29 4 (.slice (some ⟨w.heap.size + 1, 0, none⟩) 0 0) 0 [] :=
    owns_empty (new_second w (.cells #[.int .i64 N, .slice R xs.length cR] 26) 29 []) (Nat.le_refl _)
  have R0 := Lib.hid r0
  have P0 := Lib.hid p0
  have HR := Lib.hid (hR.grow (below_trans (below_alloc w (.cells #[.int .i64 N, .slice R xs.length cR] 26)) (below_alloc _ (.cells #[] 29))))
  clear h p0 r0 hR
  go_enter Try.func76, Try.ntmps76
  go_wp2_with fail
  refine (size_any g A n c m 10 _ P0.out.cur hn (by omega) (by omega)).mono ?_
  rintro e w1 ⟨k, rfl, hk, hC1, hG1⟩
  have p1 := P0.out.far hG1 hC1
  have r1 := owns_far R0.out hG1 (owns_lt R0.out (by omega))
  have HR1 := Lib.hid (HR.out.far hG1)
  clear P0 R0 HR hG1 hC1
  go_wp2
  go_loopw [5, 6] (fun v i wr => ∃ (j : Nat) (ps : List Pn), j ≤ 10 ∧ i = .int .i64 j ∧ ps.length ≤ 12 ∧ wr.ownsRow (w.heap.size + 1) 29 4 v ps.length (iz (qz ps)) ∧ PC w wr g A n c (m + 1 + (10 - j) * 12) N (.slice R xs.length cR) ∧ RdF wr R (us xs) g) (fun _ i _ => (intOf i).toNat)
  case atStart => exact ⟨k, [], hk, rfl, by simp, r1, p1.more (by omega), HR1.out⟩
  case round =>
    obtain ⟨j, ps, hj, rfl, hps, hrow, hpc, hrd⟩ := hrel
    clear p1 r1 HR1
    by_cases hlt : 0 < j
    · obtain ⟨B, cb, rfl, _⟩ := owns_rd hrow
      have hbs : w.heap.size + 1 ≤ wr.heap.size := by have := hpc.b0.lt; omega
      have H1 := hpc.drew
      have hrg := owns_lt hrow (g := g) (by omega)
      have HROW := Lib.hid hrow
      have HRD := Lib.hid hrd
      clear hrow hrd
      go_wp2
      go_region_held3 (fun W => W.cell? ⟨w.heap.size, 0, none⟩ = some (.int .i64 N) ∧ W.cell? ⟨w.heap.size, 1, none⟩ = some (.slice R xs.length cR)) (first | (with_reducible exact PC.s (by assumption)))
        (first
          | (go_at_call 42; refine (punct_pc (by with_reducible assumption) hn (by omega)).mono ?_; rintro e w2 ⟨q0, q1, q2, q3, rfl, hp2, hG2⟩; have HG2 := Lib.hid (grown_trans (grownBy_of (Below.refl wr.heap.size wr).drew (some g)) hG2); clear hG2)
          | (go_at_call 13; refine (specPolicySet_any N R cR xs B cb ps q0 q1 q2 q3 _ (HRD.out.far HG2.out).1 hu hx (RdF.far (RdF.of HROW.out hrg) HG2.out).1 (by omega)).mono ?_; rintro e w3 ⟨v3, rfl, r3, hb3⟩; have hp3 := PC.grow hp2 hb3))
      have hrd3 := (HRD.out.far HG2.out).grow hb3
      have hbs2 : w.heap.size + 1 ≤ w2.heap.size := by have := hp2.b0.lt; omega
      by_cases hs : setOk N xs ps (q0, q1, q2, q3)
      · have ht : tf (setOk N xs ps (q0, q1, q2, q3)) = true := (tf_yes hs).symm
        have hl : (setV N xs ps (q0, q1, q2, q3)).length ≤ 12 := by
          rw [setV_yes hs, set_length]
          have := without_length ps (q0, q1, q2, q3)
          have := hs.2.2
          omega
        have r4 := owns_base r3 hbs2
        clear hs r3 HROW
        generalize tf (setOk N xs ps (q0, q1, q2, q3)) = T at *
        generalize setV N xs ps (q0, q1, q2, q3) = rs at *
        subst ht
        go_wp2
        go_roundw
        case rel => exact ⟨j - 1, rs, by omega, by go_num, hl, r4, hp3.more (by omega), hrd3⟩
        case measure => simp [intOf]; omega
      · have ht : tf (setOk N xs ps (q0, q1, q2, q3)) = false := (tf_no hs).symm
        have r4 := owns_grow (owns_far HROW.out HG2.out hrg) hb3
        clear hs r3 HROW
        generalize tf (setOk N xs ps (q0, q1, q2, q3)) = T at *
        subst ht
        go_wp2
        go_roundw
        case rel => exact ⟨j - 1, ps, by omega, by go_num, hps, r4, hp3.more (by omega), hrd3⟩
        case measure => simp [intOf]; omega
    · go_wp2
      go_ret
      exact ⟨_, ps, rfl, owns_base hrow (by omega), hps, hpc.cur.more (by omega), hpc.gr⟩
end Go.Proofs.Ytipcjofmplpffaa

/-
  The cursor's badPolicy: what it returns.
-/
namespace Go.Proofs.Ytipcjofmplpffaa
open Go.RowKit

theorem grown_append {w wr w2 : World} {g base n s : Nat} {o : Obj} {e : TypeId} {v : Value} {cs : List Value} (h : w.grownBy wr (some g)) (hrow : wr.ownsRow base e s v n cs) (hb : w.heap.size ≤ base) (hgrow : (wr.alloc o).grownBy w2 v.ownBlock) : w.grownBy w2 (some g) :=
  ⟨hgrow.os.trans h.os, hgrow.tape.trans h.tape, hgrow.output.trans h.output, Nat.le_trans h.size (Nat.le_trans (by simp) hgrow.size), fun k hk hne => (hgrow.block k (by have := h.size; simp; omega) (fun he => by have := (hrow.lt k he.symm).1; omega)).trans ((Below.heap_alloc wr o k (by have := h.size; omega)).trans (h.block k hk hne))⟩
theorem cur_append {wr w2 : World} {g base n s m c : Nat} {A : Option Addr} {N0 : Nat} {o : Obj} {e : TypeId} {v : Value} {cs : List Value} (h : Cur wr g A N0 c m) (hrow : wr.ownsRow base e s v n cs) (hb : g < base) (hgrow : (wr.alloc o).grownBy w2 v.ownBlock) : Cur w2 g A N0 c m := by
  obtain ⟨i, q, ho, hi, hq⟩ := h.ex
  refine ⟨⟨i, q, append_box hrow ho hb hgrow, hi, hq⟩, ?_⟩
  refine h.byt.below ?_
  have hlt := ho.lt
  exact ((Below.refl g wr).alloc (by omega) o).grown hgrow (by simp; omega) (fun k hk => by have := (hrow.lt k hk).1; omega)
theorem PC.app {w wr w2 : World} {g : Nat} {A : Option Addr} {n c M : Nat} {N : Int} {u : Value} {o : Obj} {v : Value} {k : Nat} {cs : List Value} (p : PC w wr g A n c M N u) (hrow : wr.ownsRow (w.heap.size + 1) 29 4 v k cs) (hgrow : (wr.alloc o).grownBy w2 v.ownBlock) : PC w w2 g A n c M N u :=
  ⟨append_box hrow p.b0 (by omega) hgrow, cur_append p.cur hrow (by have := p.hg; omega) hgrow, grown_append p.gr hrow (by omega) hgrow, p.hg⟩

set_option maxRecDepth 100000 in
set_option maxHeartbeats 4000000 in
theorem badPolicy_any (g : Nat) (A : Option Addr) (n c m : Nat) (N : Int) (R : Option Addr) (cR : Nat) (xs : List Nat) (w : World) (h : Cur w g A n c m) (hn : n ≤ 1048576) (hm : m ≤ 1099511600000) (hR : RdF w R (us xs) g) (hu : U64 xs) (hx : xs.length ≤ 1048576) :
    Calls Try.prog 41 #[.pointer (some ⟨g, 0, none⟩), .agg #[.int .i64 N, .slice R xs.length cR]] w fun e w' => ∃ v ps, e = .returned v ∧ w'.ownsRow w.heap.size 29 4 v ps.length (iz (qz ps)) ∧ ps.length ≤ 13 ∧ Cur w' g A n c (m + 140) ∧ w.grownBy w' (some g) := by
  have hgl := h.lt
  have P0 := Lib.hid (show PC w (w.alloc (.cells #[.int .i64 N, .slice R xs.length cR] 26)) g A n c m N (.slice R xs.length cR) from
    ⟨Own.new w _ [.int .i64 N, .slice R xs.length cR], h.grow (below_alloc _ _), grownBy_of (below_alloc _ _) _, h.lt⟩)
  have HR := Lib.hid (hR.grow (below_alloc w (.cells #[.int .i64 N, .slice R xs.length cR] 26)))
  clear h hR
  obtain ⟨i0, hi, hz0, hz1', hz2⟩ := info_parts info_Punct
  have HI := Lib.hid hi
  have HZ0 := Lib.hid hz0
  have HZ1 := Lib.hid hz1'
  have HZ2 := Lib.hid hz2
  clear hi hz0 hz1' hz2
  go_enter Try.func41, Try.ntmps41
  go_wp2_with fail
  refine (policy_any g A n c m N R cR xs _ P0.out.cur hn (by omega) HR.out hu hx).mono ?_
  rintro e w1 ⟨v, ps, rfl, r1, hps, hC1, hG1⟩
  have p1 := P0.out.far hG1 hC1
  rw [World.size_alloc] at r1
  clear P0 HR hG1 hC1
  obtain ⟨B, cb, rfl, _⟩ := owns_rd r1
  go_wp2_with fail
  refine (pick_any g A n c (m + 121) 12 _ p1.cur hn (by omega) (by omega) (by omega)).mono ?_
  rintro e w2 ⟨r, rfl, hr, hC2, hG2⟩
  have p2 := p1.far hG2 hC2
  have r2 := owns_far r1 hG2 (owns_lt r1 (by omega))
  clear p1 r1 hC2 hG2
  by_cases h0 : r = 0
  · subst h0
    have P2 := Lib.hid p2
    have R2 := Lib.hid r2
    obtain ⟨c0, c1⟩ := p2.b0.two
    clear p2 r2
    go_wp2_with fail
    clear c0 c1
    refine (punct_pc P2.out hn (by omega)).mono ?_
    rintro e w3 ⟨q0, q1, q2, q3, rfl, p3, hG3⟩
    have r3 := owns_far R2.out hG3 (owns_lt R2.out (by omega))
    have hs3 : w.heap.size + 1 ≤ w3.heap.size := by have := p3.b0.lt; omega
    clear P2 R2 hG3
    go_wp2_with (at_builtin; refine wpList_append_own _ rfl _ _ 27 rfl (w.heap.size + 1) 29 i0 (.agg #[.int .i64 0, .int .i64 0, .int .i64 0, .int .i64 0]) 4 32 Try.underlying27 HI.out HZ0.out HZ1.out HZ2.out rfl (by decide) _ _ _ rfl (r3.alloc _) ⟨w3.heap.size, 0, none⟩ 1 1 [.int .i64 q0, .int .i64 q1, .int .i64 q2, .int .i64 q3] rfl rfl quad_new (iz_one [q0, q1, q2, q3]) (by unfold maxLen; omega) (by omega) (by simp; omega) ?_; intro v' w4 hrow' hgrow _)
    have hR2 : w4.ownsRow (w.heap.size + 1) 29 4 v' (ps ++ [(q0, q1, q2, q3)]).length (iz (qz (ps ++ [(q0, q1, q2, q3)]))) := by
      rw [qz_append, iz_append]; simpa [iz, qz, qf] using hrow'
    have p4 := p3.app r3 hgrow
    clear hrow' hgrow r3 p3
    go_wp2
    go_ret
    exact ⟨_, _, rfl, owns_base hR2 (by omega), by simp; omega, p4.cur.more (by omega), p4.gr⟩
  by_cases h1 : r = 1
  · subst h1
    go_wp2
    go_loopw [5, 6] (fun v i wr => ∃ (t : Nat) (qs : List Pn), t ≤ qs.length ∧ i = .int .i64 t ∧ qs.length ≤ 13 ∧ wr.ownsRow (w.heap.size + 1) 29 4 v qs.length (iz (qz qs)) ∧ PC w wr g A n c (m + 122 + t) N (.slice R xs.length cR)) (fun _ i _ => 14 - (intOf i).toNat)
    case atStart => exact ⟨0, ps, Nat.zero_le _, rfl, by omega, r2, p2⟩
    case round =>
      obtain ⟨t, qs, ht, rfl, hqs, hrow, hpc⟩ := hrel
      clear p2 r2
      obtain ⟨B', cb', rfl, _⟩ := owns_rd hrow
      have HROW := Lib.hid hrow
      have HPC := Lib.hid hpc
      clear hrow hpc
      go_wp2_with fail
      refine (pick_any g A n c (m + 122 + t) 2 _ HPC.out.cur hn (by omega) (by omega) (by omega)).mono ?_
      rintro e w3 ⟨y, rfl, hy, hC3, hG3⟩
      have p3 := HPC.out.far hG3 hC3
      have r3 := owns_far HROW.out hG3 (owns_lt HROW.out (by omega))
      have hs3 : w.heap.size + 1 ≤ w3.heap.size := by have := p3.b0.lt; omega
      clear HPC HROW hC3 hG3
      by_cases hlt : (qs.length : Int) < 12 + (y : Int)
      · go_wp2_with (at_builtin; refine wpList_append_own _ rfl _ _ 27 rfl (w.heap.size + 1) 29 i0 (.agg #[.int .i64 0, .int .i64 0, .int .i64 0, .int .i64 0]) 4 32 Try.underlying27 HI.out HZ0.out HZ1.out HZ2.out rfl (by decide) _ _ _ rfl (r3.alloc _) ⟨w3.heap.size, 0, none⟩ 1 1 [.int .i64 3, .int .i64 4, .int .i64 (t : Int), .int .i64 0] rfl rfl quad_new (iz_one [3, 4, (t : Int), 0]) (by unfold maxLen; omega) (by omega) (by simp; omega) ?_; intro v' w4 hrow' hgrow _)
        have hR2 : w4.ownsRow (w.heap.size + 1) 29 4 v' (qs ++ [(3, 4, (t : Int), 0)]).length (iz (qz (qs ++ [(3, 4, (t : Int), 0)]))) := by
          rw [qz_append, iz_append]; simpa [iz, qz, qf] using hrow'
        have p4 := p3.app r3 hgrow
        clear hrow' hgrow r3 p3
        go_wp2
        go_roundw
        case rel => exact ⟨t + 1, _, by simp; omega, by go_num, by simp; omega, hR2, p4⟩
        case measure => simp [intOf]; omega
      · go_wp2
        go_ret
        exact ⟨_, qs, rfl, owns_base r3 (by omega), hqs, p3.cur.more (by omega), p3.gr⟩
  have e0 : ((r : Int) == 0) = false := by simp; omega
  have e1 : ((r : Int) == 1) = false := by simp; omega
  clear h0 h1
  go_wp2
  go_ret
  exact ⟨_, ps, rfl, owns_base r2 (by omega), by omega, p2.cur.more (by omega), p2.gr⟩
end Go.Proofs.Ytipcjofmplpffaa
