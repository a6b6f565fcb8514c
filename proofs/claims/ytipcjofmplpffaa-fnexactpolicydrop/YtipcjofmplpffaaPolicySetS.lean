/-
  PolicySet, the model's: what it returns.
-/
import Derived.Test.YtipcjofmplpffaaPolicyEdS
import Derived.Test.YtipcjofmplpffaaAppStep
namespace Go.Proofs.Ytipcjofmplpffaa
open Go.RowKit

theorem qz_take : ∀ (ps : List Pn) (k : Nat), qz (ps.take k) = (qz ps).take (k * 4)
  | _, 0 => by simp [qz]
  | [], k + 1 => by simp [qz]
  | p :: ps, k + 1 => by rw [List.take_succ_cons, qz_cons, qz_cons, qz_take ps k, show (k + 1) * 4 = k * 4 + 1 + 1 + 1 + 1 by omega]; simp
theorem qz_drop : ∀ (ps : List Pn) (k : Nat), qz (ps.drop k) = (qz ps).drop (k * 4)
  | _, 0 => by simp
  | [], k + 1 => by simp [qz]
  | p :: ps, k + 1 => by rw [List.drop_succ_cons, qz_cons, qz_drop ps k, show (k + 1) * 4 = k * 4 + 1 + 1 + 1 + 1 by omega]; simp

set_option maxRecDepth 100000 in
set_option maxHeartbeats 2000000 in
theorem specPolicySet_any (N : Int) (A : Option Addr) (ca : Nat) (xs : List Nat) (B : Option Addr) (cb : Nat) (ps : List Pn) (a b c d : Int) (w : World) (hA : Rd w A (us xs)) (hu : U64 xs) (hn : xs.length ≤ 1048576) (hB : Rd w B (iz (qz ps))) (hm : ps.length ≤ 1048588) :
    Calls Try.prog 13 #[.agg #[.int .i64 N, .slice A xs.length ca], .slice B ps.length cb, pv a b c d] w (PolRes w (setV N xs ps (a, b, c, d)) (tf (setOk N xs ps (a, b, c, d)))) := by
  have HA := Lib.hid (fun W (h : Below w.heap.size w W) => hA.below h)
  have HB := Lib.hid (fun W (h : Below w.heap.size w W) => hB.below h)
  clear hA hB
  go_enter Try.func13, Try.ntmps13
  go_wp2_with fail
  by_cases hL : okL N xs ps
  · refine (as_bool (tf_yes hL).symm (specPolicyOk_any N A ca xs B cb ps _ (HA.out _ (below_trans (below_alloc _ _) (below_alloc _ _))) hu hn (HB.out _ (below_trans (below_alloc _ _) (below_alloc _ _))) hm)).mono ?_
    have HL := Lib.hid hL
    clear hL
    rintro e w1 ⟨rfl, hb1⟩
    obtain ⟨ho, hp, hb⟩ := box_two hb1
    have hsz : w.heap.size + 1 < w1.heap.size := hp.lt
    clear hb1
    obtain ⟨c0, c1⟩ := ho.two
    obtain ⟨d0, d1, d2, d3⟩ := hp.four
    go_wp2_with fail
    clear c0 c1 d0 d1 d2 d3
    by_cases hg : goodP N (a, b, c, d)
    · refine (as_bool (tf_yes ⟨HL.out.1, hg⟩).symm (specPunctOk_any N A ca xs a b c d _ (HA.out _ hb) hu hn)).mono ?_
      rintro e w2 ⟨rfl, hb2⟩
      replace hp := hp.grow hb2
      replace hb := below_trans hb hb2
      clear hb2 ho
      have HG := Lib.hid hg
      clear hg
      obtain ⟨d0, d1, d2, d3⟩ := hp.four
      go_wp2_with fail
      clear d0 d1 d2 d3
      refine (l04Without_any B cb ps a b c d _ (HB.out _ hb) hm).mono ?_
      rintro e w3 ⟨v, rfl, hnn, hrow, hb3⟩
      replace hp := hp.grow hb3
      replace hb := below_trans hb hb3
      have hps := HL.out.2.1
      have hwl := without_length ps (a, b, c, d)
      rcases hrow.2 with ⟨h, _⟩ | ⟨g, cap, cur, rfl, hgb, hgc, hncap, hcapm, hcs, htk⟩
      · exact absurd h hnn
      clear hnn hb3
      have hrd : Rd w3 (some ⟨g, 0, none⟩) (iz (qz (without ps (a, b, c, d)))) := by
        obtain ⟨A1, c1, e1, h1⟩ := owns_rd hrow
        cases e1
        exact h1
      by_cases h12 : (without ps (a, b, c, d)).length ≠ 12
      · have HS := Lib.hid (show setOk N xs ps (a, b, c, d) from ⟨HL.out, HG.out, h12⟩)
        have t12 : (((without ps (a, b, c, d)).length : Int) == 12) = false := by rw [beq_eq_false_iff_ne]; omega
        generalize hrs : without ps (a, b, c, d) = rs at *
        go_wp2
        go_loopw [9] (fun i wr => ∃ k : Nat, k ≤ rs.length ∧ i = .int .i64 k ∧ (∀ j, j < k → lessP (qat rs j) (a, b, c, d)) ∧ Below w3.heap.size w3 wr) (fun i _ => rs.length - (intOf i).toNat)
        case atStart => exact ⟨0, Nat.zero_le _, rfl, fun j hj => by omega, Below.refl _ _⟩
        case round =>
          obtain ⟨k, hk, rfl, hls, hbel⟩ := hrel
          have p0 : ∀ u : Bel wr, u.w.cell? ⟨w.heap.size + 1, 0, none⟩ = some (.int .i64 a) := fun u => (hp.grow (below_trans hbel u.ok)).cell 0
          have p1 : ∀ u : Bel wr, u.w.cell? ⟨w.heap.size + 1, 1, none⟩ = some (.int .i64 b) := fun u => (hp.grow (below_trans hbel u.ok)).cell 1
          have p2 : ∀ u : Bel wr, u.w.cell? ⟨w.heap.size + 1, 2, none⟩ = some (.int .i64 c) := fun u => (hp.grow (below_trans hbel u.ok)).cell 2
          have p3 : ∀ u : Bel wr, u.w.cell? ⟨w.heap.size + 1, 3, none⟩ = some (.int .i64 d) := fun u => (hp.grow (below_trans hbel u.ok)).cell 3
          by_cases hlt : k < rs.length
          · obtain ⟨gg, off, eA, c0, c1, c2, c3⟩ := quad_cells hrd hbel hlt
            obtain ⟨rfl, rfl⟩ : g = gg ∧ 0 = off := by injection eA with eA; injection eA with e1 e2; exact ⟨e1, e2⟩
            clear eA
            simp only [Nat.zero_add] at c0 c1 c2 c3
            have hd : decide ((k : Int) < (rs.length : Int)) = true := by simp; omega
            by_cases hless : lessP (qat rs k) (a, b, c, d)
            · have HLS := Lib.hid (decide_eq_true hless)
              have HNX := Lib.hid (show ∀ j, j < k + 1 → lessP (qat rs j) (a, b, c, d) from fun j hj => by
                by_cases e : j = k
                · rw [e]; exact hless
                · exact hls j (by omega))
              clear hless
              generalize qat rs k = q at *
              obtain ⟨q0, q1, q2, q3⟩ := q
              go_wp2
              refine wp_region_bel (by kernel_rfl) (by kernel_rfl) ?_
              repeat (go_big_quiet_step ((go_at_call 44; exact bel_of _ (l04Less_is HLS.out _))))
              refine wpQuiet_nil ?_
              rintro _ ⟨u, rfl⟩
              go_wp2
              go_roundw
              case rel => exact ⟨k + 1, by omega, by go_num, HNX.out, below_trans hbel u.ok⟩
              case measure => simp [intOf]; omega
            · have HLS := Lib.hid (decide_eq_false hless)
              have HNL := Lib.hid (show k < rs.length → ¬ lessP (qat rs k) (a, b, c, d) from fun _ => hless)
              clear hless
              have HN0 := Lib.hid hls
              generalize hqq : qat rs k = q at *
              obtain ⟨q0, q1, q2, q3⟩ := q
              go_wp2
              refine wp_region_bel (by kernel_rfl) (by kernel_rfl) ?_
              repeat (go_big_quiet_step ((go_at_call 44; exact bel_of _ (l04Less_is HLS.out _))))
              refine wpQuiet_nil ?_
              rintro _ ⟨u, rfl⟩
              go_wp2
              have HPos := Lib.hid (show posOf (a, b, c, d) rs = k from posOf_is hk hls (fun h => by rw [hqq]; exact HNL.out h))
              have hb0 := below_trans hbel u.ok
              generalize u.w = v0 at *
              have q0 := hp.grow hb0
              have hpl : w.heap.size + 1 < v0.heap.size := q0.lt
              obtain ⟨d0, d1, d2, d3⟩ := q0.four
              have HP := Lib.hid (fun W (h : Below v0.heap.size v0 W) => (q0.grow h).four)
              have HR := Lib.hid (fun W (h : Below v0.heap.size v0 W) => (hrd.below hb0).below h)
              obtain ⟨i0, hi, hz0, hz1', hz2⟩ := info_parts info_Punct
              have HI := Lib.hid hi
              have HZ0 := Lib.hid hz0
              have HZ1 := Lib.hid hz1'
              have HZ2 := Lib.hid hz2
              clear hi hz0 hz1' hz2 p0 p1 p2 p3 c0 c1 c2 c3
              have hkc : k ≤ cap := by omega
              have hbv := Nat.le_trans hb.size hb0.size
              obtain ⟨a2, hA2, HT⟩ : ∃ a2 : Addr, (if cap = k then some (⟨g, 0, none⟩ : Addr) else some ⟨g, k * 4, none⟩) = some a2 ∧ Hid (∀ W, Below v0.heap.size v0 W → ∀ j u, (iz ((qz rs).drop (k * 4)))[j]? = some u → W.cell? (a2.add j) = some u) := by
                by_cases e : cap = k
                · refine ⟨_, if_pos e, Lib.hid fun W hW j u hj => ?_⟩
                  rw [List.drop_eq_nil_of_le (by rw [qz_length]; omega)] at hj
                  simp [iz] at hj
                · refine ⟨_, if_neg e, Lib.hid fun W hW j u hj => ?_⟩
                  have := rd_tail (HR.out W hW) (k * 4) j u hj
                  rwa [Nat.zero_add] at this
              have HB := Lib.hid (fun o => (below_alloc v0 o).drew)
              have HB2 := Lib.hid (fun o o' => (below_trans (below_alloc v0 o) (below_alloc _ o')).drew)
              have HE1 := Lib.hid (owns_empty (size := 4) (Own.new v0 29 []) (Nat.le_refl v0.heap.size))
              have HE2 := Lib.hid (fun o => owns_empty (size := 4) ((Own.new v0 29 []).alloc o) (Nat.le_refl v0.heap.size))
              have HE3 := Lib.hid (fun o => owns_empty (size := 4) (base := v0.heap.size) (new_second v0 o 29 []) (by omega))
              have HN2 := Lib.hid (show ∀ o, Own ((v0.alloc o).alloc (.cells #[.int .i64 a, .int .i64 b, .int .i64 c, .int .i64 d] 29)).drew (v0.heap.size + 1) 29 [.int .i64 a, .int .i64 b, .int .i64 c, .int .i64 d] from fun o => new_second v0 o 29 [.int .i64 a, .int .i64 b, .int .i64 c, .int .i64 d])
              have HN3 := Lib.hid (show ∀ o, Own ((v0.alloc (.cells #[.int .i64 a, .int .i64 b, .int .i64 c, .int .i64 d] 29)).alloc o).drew v0.heap.size 29 [.int .i64 a, .int .i64 b, .int .i64 c, .int .i64 d] from fun o => (Own.new v0 29 [.int .i64 a, .int .i64 b, .int .i64 c, .int .i64 d]).alloc o)
              go_region_law (first
                | (refine step_append_own rfl (.tmp 40) (.tmp 43) 27 rfl v0.heap.size 29 i0 (.agg #[.int .i64 0, .int .i64 0, .int .i64 0, .int .i64 0]) 4 32 Try.underlying27 HI.out HZ0.out HZ1.out HZ2.out rfl (by decide) _ 0 [] rfl (by first | exact HE1.out | exact HE2.out _ | exact HE3.out _) ⟨g, 0, none⟩ k cap (iz ((qz rs).take (k * 4))) rfl (by rw [iz_length, List.length_take, qz_length]; omega) (rd_head (HR.out _ (by first | exact HB.out _ | exact HB2.out _ _)) (k * 4)) (iz_one _) (by unfold maxLen; omega) (by omega) (by first | exact (HB.out _).size | exact (HB2.out _ _).size) ?_; intro v5 w5 hown5 hgrow5 hnil5; have hbel5 := app_below (by first | exact HB.out _ | exact HB2.out _ _) (by first | exact HE1.out | exact HE2.out _ | exact HE3.out _) hgrow5; obtain ⟨f0, f1, f2, f3⟩ := HP.out _ hbel5; rw [Nat.zero_add, List.nil_append] at hown5; clear hnil5)
                | (refine step_append_own rfl (.tmp 44) (.tmp 46) 27 rfl v0.heap.size 29 i0 (.agg #[.int .i64 0, .int .i64 0, .int .i64 0, .int .i64 0]) 4 32 Try.underlying27 HI.out HZ0.out HZ1.out HZ2.out rfl (by decide) _ k (iz ((qz rs).take (k * 4))) rfl (by first | exact hown5 | exact hown5.alloc _) _ 1 1 [.int .i64 a, .int .i64 b, .int .i64 c, .int .i64 d] rfl rfl (by first | exact news_own (Own.new w5 29 [.int .i64 a, .int .i64 b, .int .i64 c, .int .i64 d]) | exact news_kept (HN2.out _) hgrow5 (fun h => absurd (show some (v0.heap.size + 1) = some v0.heap.size from h) (by simp)) | exact news_kept (HN3.out _) hgrow5 (fun h => absurd (show some v0.heap.size = some (v0.heap.size + 1) from h) (by simp))) (iz_one [a, b, c, d]) (by unfold maxLen; omega) (by omega) (by first | exact hbel5.size | (have := hbel5.size; simp; omega)) ?_; intro v6 w6 hown6 hgrow6 hnil6; have hbel6 := app_below (by first | exact hbel5 | exact below_trans hbel5 (below_alloc _ _)) (by first | exact hown5 | exact hown5.alloc _) hgrow6; clear hnil6)
                | (refine step_append_own rfl (.tmp 47) (.tmp 50) 27 rfl v0.heap.size 29 i0 (.agg #[.int .i64 0, .int .i64 0, .int .i64 0, .int .i64 0]) 4 32 Try.underlying27 HI.out HZ0.out HZ1.out HZ2.out rfl (by decide) _ (k + 1) _ rfl hown6 a2 (rs.length - k) (cap - k) (iz ((qz rs).drop (k * 4))) rfl (by rw [iz_length, List.length_drop, qz_length]; omega) (HT.out _ hbel6) (iz_one _) (by unfold maxLen; omega) (by omega) hbel6.size ?_; intro v7 w7 hown7 hgrow7 hnil7; have hbel7 := app_below hbel6 hown6 hgrow7; clear hnil7))
              all_goals
                go_wp2
                go_ret2
                refine ⟨v7, by rw [← tf_yes HS.out]; rfl, ?_, below_trans (below_trans hb hb0) hbel7⟩
                rw [setV_yes HS.out, setP, hrs, ins_pos, HPos.out]
                refine owns_base (base := v0.heap.size) ?_ hbv
                have := hown7
                rw [show k + 1 + (rs.length - k) = rs.length + 1 by omega] at this
                rw [List.length_append, List.length_cons, List.length_take, List.length_drop, show min k rs.length + (rs.length - k + 1) = rs.length + 1 by omega, qz_append, qz_cons, iz_append, qz_take, qz_drop]
                simpa [iz] using this
          · have hd : decide ((k : Int) < (rs.length : Int)) = false := by simp; omega
            have HNL := Lib.hid (show k < rs.length → ¬ lessP (qat rs k) (a, b, c, d) from fun h => absurd h hlt)
            go_wp2
            refine wp_region_bel (by kernel_rfl) (by kernel_rfl) ?_
            repeat (go_big_quiet_step (fail))
            refine wpQuiet_nil ?_
            rintro _ ⟨u, rfl⟩
            go_wp2
            have HPos := Lib.hid (show posOf (a, b, c, d) rs = k from posOf_is hk hls HNL.out)
            have hb0 := below_trans hbel u.ok
            generalize u.w = v0 at *
            have q0 := hp.grow hb0
            have hpl : w.heap.size + 1 < v0.heap.size := q0.lt
            obtain ⟨d0, d1, d2, d3⟩ := q0.four
            have HP := Lib.hid (fun W (h : Below v0.heap.size v0 W) => (q0.grow h).four)
            have HR := Lib.hid (fun W (h : Below v0.heap.size v0 W) => (hrd.below hb0).below h)
            obtain ⟨i0, hi, hz0, hz1', hz2⟩ := info_parts info_Punct
            have HI := Lib.hid hi
            have HZ0 := Lib.hid hz0
            have HZ1 := Lib.hid hz1'
            have HZ2 := Lib.hid hz2
            clear hi hz0 hz1' hz2 p0 p1 p2 p3
            have hkc : k ≤ cap := by omega
            have hbv := Nat.le_trans hb.size hb0.size
            obtain ⟨a2, hA2, HT⟩ : ∃ a2 : Addr, (if cap = k then some (⟨g, 0, none⟩ : Addr) else some ⟨g, k * 4, none⟩) = some a2 ∧ Hid (∀ W, Below v0.heap.size v0 W → ∀ j u, (iz ((qz rs).drop (k * 4)))[j]? = some u → W.cell? (a2.add j) = some u) := by
              by_cases e : cap = k
              · refine ⟨_, if_pos e, Lib.hid fun W hW j u hj => ?_⟩
                rw [List.drop_eq_nil_of_le (by rw [qz_length]; omega)] at hj
                simp [iz] at hj
              · refine ⟨_, if_neg e, Lib.hid fun W hW j u hj => ?_⟩
                have := rd_tail (HR.out W hW) (k * 4) j u hj
                rwa [Nat.zero_add] at this
            have HB := Lib.hid (fun o => (below_alloc v0 o).drew)
            have HB2 := Lib.hid (fun o o' => (below_trans (below_alloc v0 o) (below_alloc _ o')).drew)
            have HE1 := Lib.hid (owns_empty (size := 4) (Own.new v0 29 []) (Nat.le_refl v0.heap.size))
            have HE2 := Lib.hid (fun o => owns_empty (size := 4) ((Own.new v0 29 []).alloc o) (Nat.le_refl v0.heap.size))
            have HE3 := Lib.hid (fun o => owns_empty (size := 4) (base := v0.heap.size) (new_second v0 o 29 []) (by omega))
            have HN2 := Lib.hid (show ∀ o, Own ((v0.alloc o).alloc (.cells #[.int .i64 a, .int .i64 b, .int .i64 c, .int .i64 d] 29)).drew (v0.heap.size + 1) 29 [.int .i64 a, .int .i64 b, .int .i64 c, .int .i64 d] from fun o => new_second v0 o 29 [.int .i64 a, .int .i64 b, .int .i64 c, .int .i64 d])
            have HN3 := Lib.hid (show ∀ o, Own ((v0.alloc (.cells #[.int .i64 a, .int .i64 b, .int .i64 c, .int .i64 d] 29)).alloc o).drew v0.heap.size 29 [.int .i64 a, .int .i64 b, .int .i64 c, .int .i64 d] from fun o => (Own.new v0 29 [.int .i64 a, .int .i64 b, .int .i64 c, .int .i64 d]).alloc o)
            go_region_law (first
              | (refine step_append_own rfl (.tmp 40) (.tmp 43) 27 rfl v0.heap.size 29 i0 (.agg #[.int .i64 0, .int .i64 0, .int .i64 0, .int .i64 0]) 4 32 Try.underlying27 HI.out HZ0.out HZ1.out HZ2.out rfl (by decide) _ 0 [] rfl (by first | exact HE1.out | exact HE2.out _ | exact HE3.out _) ⟨g, 0, none⟩ k cap (iz ((qz rs).take (k * 4))) rfl (by rw [iz_length, List.length_take, qz_length]; omega) (rd_head (HR.out _ (by first | exact HB.out _ | exact HB2.out _ _)) (k * 4)) (iz_one _) (by unfold maxLen; omega) (by omega) (by first | exact (HB.out _).size | exact (HB2.out _ _).size) ?_; intro v5 w5 hown5 hgrow5 hnil5; have hbel5 := app_below (by first | exact HB.out _ | exact HB2.out _ _) (by first | exact HE1.out | exact HE2.out _ | exact HE3.out _) hgrow5; obtain ⟨f0, f1, f2, f3⟩ := HP.out _ hbel5; rw [Nat.zero_add, List.nil_append] at hown5; clear hnil5)
              | (refine step_append_own rfl (.tmp 44) (.tmp 46) 27 rfl v0.heap.size 29 i0 (.agg #[.int .i64 0, .int .i64 0, .int .i64 0, .int .i64 0]) 4 32 Try.underlying27 HI.out HZ0.out HZ1.out HZ2.out rfl (by decide) _ k (iz ((qz rs).take (k * 4))) rfl (by first | exact hown5 | exact hown5.alloc _) _ 1 1 [.int .i64 a, .int .i64 b, .int .i64 c, .int .i64 d] rfl rfl (by first | exact news_own (Own.new w5 29 [.int .i64 a, .int .i64 b, .int .i64 c, .int .i64 d]) | exact news_kept (HN2.out _) hgrow5 (fun h => absurd (show some (v0.heap.size + 1) = some v0.heap.size from h) (by simp)) | exact news_kept (HN3.out _) hgrow5 (fun h => absurd (show some v0.heap.size = some (v0.heap.size + 1) from h) (by simp))) (iz_one [a, b, c, d]) (by unfold maxLen; omega) (by omega) (by first | exact hbel5.size | (have := hbel5.size; simp; omega)) ?_; intro v6 w6 hown6 hgrow6 hnil6; have hbel6 := app_below (by first | exact hbel5 | exact below_trans hbel5 (below_alloc _ _)) (by first | exact hown5 | exact hown5.alloc _) hgrow6; clear hnil6)
              | (refine step_append_own rfl (.tmp 47) (.tmp 50) 27 rfl v0.heap.size 29 i0 (.agg #[.int .i64 0, .int .i64 0, .int .i64 0, .int .i64 0]) 4 32 Try.underlying27 HI.out HZ0.out HZ1.out HZ2.out rfl (by decide) _ (k + 1) _ rfl hown6 a2 (rs.length - k) (cap - k) (iz ((qz rs).drop (k * 4))) rfl (by rw [iz_length, List.length_drop, qz_length]; omega) (HT.out _ hbel6) (iz_one _) (by unfold maxLen; omega) (by omega) hbel6.size ?_; intro v7 w7 hown7 hgrow7 hnil7; have hbel7 := app_below hbel6 hown6 hgrow7; clear hnil7))
            all_goals
              go_wp2
              go_ret2
              refine ⟨v7, by rw [← tf_yes HS.out]; rfl, ?_, below_trans (below_trans hb hb0) hbel7⟩
              rw [setV_yes HS.out, setP, hrs, ins_pos, HPos.out]
              refine owns_base (base := v0.heap.size) ?_ hbv
              have := hown7
              rw [show k + 1 + (rs.length - k) = rs.length + 1 by omega] at this
              rw [List.length_append, List.length_cons, List.length_take, List.length_drop, show min k rs.length + (rs.length - k + 1) = rs.length + 1 by omega, qz_append, qz_cons, iz_append, qz_take, qz_drop]
              simpa [iz] using this
      · have HS := Lib.hid (show ¬ setOk N xs ps (a, b, c, d) from fun h => h12 h.2.2)
        have t12 : (((without ps (a, b, c, d)).length : Int) == 12) = true := by rw [beq_iff_eq]; omega
        generalize (without ps (a, b, c, d)).length = m at *
        go_wp2
        go_ret2
        exact res_no (setV_no HS.out) (tf_no HS.out).symm hb
    · refine (as_bool (tf_no (fun h => hg h.2)).symm (specPunctOk_any N A ca xs a b c d _ (HA.out _ hb) hu hn)).mono ?_
      rintro e w2 ⟨rfl, hb2⟩
      have HS := Lib.hid (show ¬ setOk N xs ps (a, b, c, d) from fun h => hg h.2.1)
      clear hg
      go_wp2
      go_ret2
      exact res_no (setV_no HS.out) (tf_no HS.out).symm (below_trans hb hb2)
  · refine (as_bool (tf_no hL).symm (specPolicyOk_any N A ca xs B cb ps _ (HA.out _ (below_trans (below_alloc _ _) (below_alloc _ _))) hu hn (HB.out _ (below_trans (below_alloc _ _) (below_alloc _ _))) hm)).mono ?_
    have HS := Lib.hid (show ¬ setOk N xs ps (a, b, c, d) from fun h => hL h.1)
    clear hL
    rintro e w1 ⟨rfl, hb1⟩
    go_wp2
    go_ret2
    exact res_no (setV_no HS.out) (tf_no HS.out).symm (box_two hb1).2.2
end Go.Proofs.Ytipcjofmplpffaa
