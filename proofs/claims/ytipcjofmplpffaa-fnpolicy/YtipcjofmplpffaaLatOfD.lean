/-
  The model's LatOf.
-/
import Derived.Test.YtipcjofmplpffaaLatOfC
namespace Go.Proofs.Ytipcjofmplpffaa
open Go.RowKit

theorem zero_own {w : World} : (w.alloc (.cells #[.int .i64 0, .slice none 0 0] 26)).heap.size = w.heap.size + 1 := by simp

set_option maxRecDepth 100000 in
set_option maxHeartbeats 8000000 in
theorem specLatOf_any (N : Int) (E : Option Addr) (ce : Nat) (es : List (Int × Int)) (w : World) (hE : Rd w E (ez es)) (hl : es.length ≤ 1048576) :
    Calls Try.prog 90 #[.int .i64 N, .slice E es.length ce] w (LatRes w (ofN N es) (ofXs N es) (tf (OfOk N es))) := by
  by_cases h1 : N < 1
  · have hno : ¬ OfOk N es := fun h => by have := h.1; omega
    rw [ofN_no hno, ofXs_no hno, ← tf_no hno]
    go_enter Try.func90, Try.ntmps90
    go_wp2
    refine bodyPost_ret (v := .tuple #[.agg #[.int .i64 0, .slice none 0 0], .bool false]) (by simp [results, Try.results90, go_sem]) rfl ⟨_, rfl, World.ownsRow_nil _ _ _ _, ?_⟩
    exact below_alloc _ _
  by_cases h2 : 16 < N
  · have hno : ¬ OfOk N es := fun h => by have := h.1; omega
    rw [ofN_no hno, ofXs_no hno, ← tf_no hno]
    go_enter Try.func90, Try.ntmps90
    go_wp2
    refine bodyPost_ret (v := .tuple #[.agg #[.int .i64 0, .slice none 0 0], .bool false]) (by simp [results, Try.results90, go_sem]) rfl ⟨_, rfl, World.ownsRow_nil _ _ _ _, ?_⟩
    exact below_alloc _ _
  by_cases h3 : 100 < es.length
  · have hno : ¬ OfOk N es := fun h => by have := h.1; omega
    rw [ofN_no hno, ofXs_no hno, ← tf_no hno]
    have h3' : (100 : Int) < (es.length : Int) := by omega
    go_enter Try.func90, Try.ntmps90
    go_wp2
    refine bodyPost_ret (v := .tuple #[.agg #[.int .i64 0, .slice none 0 0], .bool false]) (by simp [results, Try.results90, go_sem]) rfl ⟨_, rfl, World.ownsRow_nil _ _ _ _, ?_⟩
    exact below_alloc _ _
  obtain ⟨n, rfl⟩ := Int.eq_ofNat_of_zero_le (show 0 ≤ N by omega)
  have h1n : 1 ≤ n := by omega
  have h16 : n ≤ 16 := by omega
  have hmk := make_table n (by omega)
  have d1 : decide ((n : Int) < 1) = false := by simp; omega
  have d2 : decide ((16 : Int) < (n : Int)) = false := by simp; omega
  have d3 : decide ((100 : Int) < (es.length : Int)) = false := by simp; omega
  have h100 : es.length ≤ 100 := by omega
  have HE := Lib.hid (fun W (h : Below w.heap.size w W) => hE.below h)
  clear h1 h2 h3 hE
  go_enter Try.func90, Try.ntmps90
  go_wp2
  clear hmk
  go_loopw [7] (fun i wr => ∃ k : Nat, k ≤ n ∧ i = .int .i64 k ∧ Mat wr (w.heap.size + 1) n k idR ∧ wr.heap.size = w.heap.size + 1 + 1 + k ∧ Own wr w.heap.size 26 [.int .i64 0, .slice none 0 0] ∧ Below w.heap.size w wr) (fun i _ => n - (intOf i).toNat)
  case atStart =>
    refine ⟨0, Nat.zero_le _, rfl, ⟨?_, fun i hi => by omega⟩, by simp, ?_, ?_⟩
    · rw [heads_zero]
      have := Own.new (w.alloc (.cells #[.int .i64 0, .slice none 0 0] 26)) 109 (List.replicate n (.slice none 0 0))
      simpa using this
    · exact (Own.new _ _ _).alloc _
    · exact below_trans (below_alloc _ _) (below_alloc _ _)
  case round =>
    obtain ⟨k, hk, rfl, hM, hsz, hr, hbel⟩ := hrel
    by_cases hlt : k < n
    · have HSZ := Lib.hid hsz
      clear hsz
      have hmk := make_bools n (by omega)
      have hM1 := hM.alloc (.cells (bz (fun _ => false) n).toArray 4)
      have c1 : (wr.alloc (.cells (bz (fun _ => false) n).toArray 4)).cell? ⟨w.heap.size + 1, k, none⟩ = some (.slice none 0 0) := by
        rw [hM1.outer.cell, heads_at hlt, if_neg (by omega)]
      have f1 := hM1.outer.free k
      have hne : w.heap.size + 1 ≠ wr.heap.size := by rw [HSZ.out]; omega
      have oN := (Own.new wr 4 (bz (fun _ => false) n)).far (p := ⟨w.heap.size + 1, k, none⟩) (fun h => hne h.symm) (.slice (some ⟨wr.heap.size, 0, none⟩) n n)
      have oH := hM1.outer.set k (.slice (some ⟨wr.heap.size, 0, none⟩) n n)
      have c2 := oH.cell k
      rw [List.getElem?_set_self (by rw [heads_length]; exact hlt)] at c2
      have c3 := oN.cell k
      rw [bz_at hlt] at c3
      have f3 := oN.free k
      have HM := Lib.hid hM
      have HM1 := Lib.hid hM1
      have ON := Lib.hid oN
      have OH := Lib.hid oH
      clear hM hM1 oN oH
      go_wp2
      go_roundw
      case rel =>
        have e : wr.heap.size = w.heap.size + 1 + 1 + k := HSZ.out
        refine ⟨k + 1, by omega, by go_num, ⟨?_, fun i hi => ?_⟩, by simp; omega, ?_, ?_⟩
        · have := OH.out.far (p := ⟨wr.heap.size, k, none⟩) hne (.bool true)
          rw [show Value.slice (some ⟨wr.heap.size, 0, none⟩) n n = .slice (some ⟨w.heap.size + 1 + 1 + k, 0, none⟩) n n by rw [e], heads_set] at this
          rw [show Value.slice (some ⟨wr.heap.size, 0, none⟩) n n = .slice (some ⟨w.heap.size + 1 + 1 + k, 0, none⟩) n n by rw [e]]
          exact this
        · by_cases hik : i = k
          · subst hik
            have := ON.out.set i (.bool true)
            rw [new_row] at this
            rw [← e]; exact this
          · exact ((HM1.out.inner i (by omega)).far (by simp; omega) _).far (by simp; omega) _
        · exact ((hr.alloc _).far (by simp) _).far (by simp; omega) _
        · exact ((below_trans hbel (below_alloc _ _)).setCell (by simp) _).setCell (by simp; omega) _
      case measure => simp [intOf]; omega
    · obtain rfl : n = k := by omega
      have hsz2 : w.heap.size + 1 + 1 + n ≤ wr.heap.size := by omega
      clear hsz
      go_wp2
      go_loopw [8] (fun i wr' => ∃ k : Nat, k ≤ es.length ∧ i = .int .i64 k ∧ Hid (∀ i, i < k → LabN n (elo es i) ∧ LabN n (ehi es i)) ∧ Mat wr' (w.heap.size + 1) n n (relTo es k) ∧ w.heap.size + 1 + 1 + n ≤ wr'.heap.size ∧ Own wr' w.heap.size 26 [.int .i64 0, .slice none 0 0] ∧ Below w.heap.size w wr') (fun i _ => es.length - (intOf i).toNat)
      case atStart => exact ⟨0, Nat.zero_le _, rfl, Lib.hid (fun i hi => by omega), by rw [relTo_zero]; exact hM, hsz2, hr, hbel⟩
      case round =>
        clear hM hsz2 hr hbel
        obtain ⟨k, hk, rfl, hpre, hM, hsz, hr, hbel⟩ := hrel
        by_cases hlt2 : k < es.length
        · obtain ⟨b, off, rfl, hce⟩ := (HE.out _ hbel).edge hlt2
          obtain ⟨x0, x1⟩ := hce wr (Below.refl _ _)
          clear hce
          by_cases hab : LabN n (elo es k) ∧ LabN n (ehi es k)
          · obtain ⟨ha, hb⟩ := hab
            obtain ⟨a, ea⟩ := Int.eq_ofNat_of_zero_le ha.1
            obtain ⟨c, ec⟩ := Int.eq_ofNat_of_zero_le hb.1
            have hal : a < n := by have := ha.2; omega
            have hcl : c < n := by have := hb.2; omega
            have HN := Lib.hid (relTo_put hlt2 ea ec)
            have HP := Lib.hid (all_next hpre.out ⟨ha, hb⟩)
            rw [ea] at x0
            rw [ec] at x1
            clear ha hb ea ec hpre
            go_wp2
            clear x0 x1
            have hoe := Own.new wr 100 [.int .i64 (a : Int), .int .i64 (c : Int)]
            have hM3 := hM.alloc (.cells [.int .i64 (a : Int), .int .i64 (c : Int)].toArray 100)
            have hr3 := hr.alloc (.cells [.int .i64 (a : Int), .int .i64 (c : Int)].toArray 100)
            have hbel3 := below_trans hbel (below_alloc wr (.cells [.int .i64 (a : Int), .int .i64 (c : Int)].toArray 100))
            have hsz3 : w.heap.size + 1 + 1 + n ≤ (wr.alloc (.cells [.int .i64 (a : Int), .int .i64 (c : Int)].toArray 100)).heap.size := by rw [World.size_alloc]; omega
            clear hM hr hbel
            generalize wr.alloc (.cells [.int .i64 (a : Int), .int .i64 (c : Int)].toArray 100) = w3 at *
            have g0 : ∀ u : Bel w3, u.w.cell? ⟨wr.heap.size, 0, none⟩ = some (.int .i64 (a : Int)) := fun u => (hoe.grow u.ok).two.1
            have g1 : ∀ u : Bel w3, u.w.cell? ⟨wr.heap.size, 1, none⟩ = some (.int .i64 (c : Int)) := fun u => (hoe.grow u.ok).two.2
            have gh : ∀ u : Bel w3, u.w.cell? ⟨w.heap.size + 1, a, none⟩ = some (.slice (some ⟨w.heap.size + 1 + 1 + a, 0, none⟩) n n) := fun u => (hM3.grow u.ok).head hal (Nat.le_refl _)
            refine wp_region_belt 8 (by kernel_rfl) (by kernel_rfl) ?_
            simp only [List.take_succ_cons, List.take_zero, List.drop_succ_cons, List.drop_zero]
            repeat (go_big_quiet_step (fail))
            refine wpQuiet_nil ?_
            rintro _ ⟨u, rfl⟩
            have hM4 := hM3.grow u.ok
            have hr4 := hr3.grow u.ok
            have hbel4 := below_trans hbel3 u.ok
            have hsz4 : w.heap.size + 1 + 1 + n ≤ u.w.heap.size := Nat.le_trans hsz3 u.ok.size
            have hc4 := hM4.cell hal hcl
            have hf4 := (hM4.inner a hal).free c
            have HS := Lib.hid ((hM4.put (i := a) (j := c) hal true).congr (fun i j _ _ => HN.out i j))
            clear g0 g1 gh hM3 hr3 hbel3 hsz3 hM4
            go_wp2
            go_roundw
            case rel => exact ⟨k + 1, by omega, by go_num, HP, HS.out, by simpa using hsz4, hr4.far (by simp; omega) _, hbel4.setCell (by simp; omega) _⟩
            case measure => simp [intOf]; omega
          · have hno : ¬ OfOk (n : Int) es := fun h => hab (by have := h.2.1 k hlt2; rwa [Int.toNat_natCast] at this)
            have hcases : elo es k < 0 ∨ (0 ≤ elo es k ∧ (n : Int) ≤ elo es k) ∨ (0 ≤ elo es k ∧ elo es k < (n : Int) ∧ ehi es k < 0) ∨ (0 ≤ elo es k ∧ elo es k < (n : Int) ∧ 0 ≤ ehi es k ∧ (n : Int) ≤ ehi es k) := by
              unfold LabN at hab; omega
            have HNO := Lib.hid hno
            obtain ⟨r0, r1⟩ := (hr.alloc (.cells #[.int .i64 (elo es k), .int .i64 (ehi es k)] 100)).two
            have f0 := (hr.alloc (.cells #[.int .i64 (elo es k), .int .i64 (ehi es k)] 100)).free 0
            have f1 := (hr.alloc (.cells #[.int .i64 (elo es k), .int .i64 (ehi es k)] 100)).free 1
            clear hno hab hpre
            rcases hcases with hq | ⟨hq1, hq2⟩ | ⟨hq1, hq2, hq3⟩ | ⟨hq1, hq2, hq3, hq4⟩
            all_goals
              go_wp2
              rw [ofN_no HNO.out, ofXs_no HNO.out, ← tf_no HNO.out]
              refine bodyPost_ret (v := .tuple #[.agg #[.int .i64 0, .slice none 0 0], .bool false]) (by simp [results, Try.results90, go_sem, r0, r1]) rfl ⟨_, rfl, World.ownsRow_nil _ _ _ _, ?_⟩
              exact ((below_trans hbel (below_alloc _ _)).setCell (by simp) _).setCell (by simp) _
        · obtain rfl : es.length = k := by omega
          have HP := Lib.hid (show ∀ i, i < es.length → LabN ((n : Int)).toNat (elo es i) ∧ LabN ((n : Int)).toNat (ehi es i) by rw [Int.toNat_natCast]; exact hpre.out)
          clear hpre
          generalize hR : relTo es es.length = R at *
          have HRR := Lib.hid hR
          clear hR
          go_wp2
          go_loopw [10] (fun i wr' => ∃ k : Nat, k ≤ n ∧ i = .int .i64 k ∧ Mat wr' (w.heap.size + 1) n n (closTo R k) ∧ w.heap.size + 1 + 1 + n ≤ wr'.heap.size ∧ Own wr' w.heap.size 26 [.int .i64 0, .slice none 0 0] ∧ Below w.heap.size w wr') (fun i _ => n - (intOf i).toNat)
          case atStart => exact ⟨0, Nat.zero_le _, rfl, hM, hsz, hr, hbel⟩
          case round =>
            clear hM hsz hr hbel
            obtain ⟨k, hk, rfl, hM, hsz, hr, hbel⟩ := hrel
            by_cases hltk : k < n
            · go_wp2
              go_loopw [11] (fun i wr' => ∃ a : Nat, a ≤ n ∧ i = .int .i64 a ∧ Mat wr' (w.heap.size + 1) n n (cellStep (closTo R k) k a 0) ∧ w.heap.size + 1 + 1 + n ≤ wr'.heap.size ∧ Own wr' w.heap.size 26 [.int .i64 0, .slice none 0 0] ∧ Below w.heap.size w wr') (fun i _ => n - (intOf i).toNat)
              case atStart => exact ⟨0, Nat.zero_le _, rfl, by rw [cellStep_zero]; exact hM, hsz, hr, hbel⟩
              case round =>
                clear hM hsz hr hbel
                obtain ⟨a, ha, rfl, hM, hsz, hr, hbel⟩ := hrel
                by_cases hla : a < n
                · go_wp2
                  go_loopw [12] (fun i wr' => ∃ b : Nat, b ≤ n ∧ i = .int .i64 b ∧ Mat wr' (w.heap.size + 1) n n (cellStep (closTo R k) k a b) ∧ w.heap.size + 1 + 1 + n ≤ wr'.heap.size ∧ Own wr' w.heap.size 26 [.int .i64 0, .slice none 0 0] ∧ Below w.heap.size w wr') (fun i _ => n - (intOf i).toNat)
                  case atStart => exact ⟨0, Nat.zero_le _, rfl, hM, hsz, hr, hbel⟩
                  case round =>
                    clear hM hsz hr hbel
                    obtain ⟨b, hb, rfl, hM, hsz, hr, hbel⟩ := hrel
                    by_cases hlb : b < n
                    case neg =>
                      go_wp2
                      go_roundw
                      case rel =>
                        have e : b = n := by omega
                        subst e
                        exact ⟨a + 1, by omega, by go_num, hM.congr (fun i j _ hj => cellStep_row_end hj), hsz, hr, hbel⟩
                      case measure => simp [intOf]; omega
                    have gha : ∀ u : Bel wr, u.w.cell? ⟨w.heap.size + 1, a, none⟩ = some (.slice (some ⟨w.heap.size + 1 + 1 + a, 0, none⟩) n n) := fun u => (hM.grow u.ok).head hla (Nat.le_refl _)
                    have ghk : ∀ u : Bel wr, u.w.cell? ⟨w.heap.size + 1, k, none⟩ = some (.slice (some ⟨w.heap.size + 1 + 1 + k, 0, none⟩) n n) := fun u => (hM.grow u.ok).head hltk (Nat.le_refl _)
                    have gab : ∀ u : Bel wr, u.w.cell? ⟨w.heap.size + 1 + 1 + a, b, none⟩ = some (.bool (closTo R k a b)) := fun u => by rw [(hM.grow u.ok).cell hla hlb, cellStep_at]
                    have gak : ∀ u : Bel wr, u.w.cell? ⟨w.heap.size + 1 + 1 + a, k, none⟩ = some (.bool (closTo R k a k)) := fun u => by rw [(hM.grow u.ok).cell hla hltk, cellStep_col]
                    have gkb : ∀ u : Bel wr, u.w.cell? ⟨w.heap.size + 1 + 1 + k, b, none⟩ = some (.bool (closTo R k k b)) := fun u => by rw [(hM.grow u.ok).cell hltk hlb, cellStep_row]
                    rcases (show closTo R k a b = true ∨ (closTo R k a b = false ∧ closTo R k a k = false) ∨ (closTo R k a b = false ∧ closTo R k a k = true ∧ closTo R k k b = false) ∨ (closTo R k a b = false ∧ closTo R k a k = true ∧ closTo R k k b = true) from by
                      cases closTo R k a b <;> cases closTo R k a k <;> cases closTo R k k b <;> simp) with q1 | ⟨q1, q2⟩ | ⟨q1, q2, q3⟩ | ⟨q1, q2, q3⟩
                    · have hv : stepR (closTo R k) k a b = true := by simp [stepR, q1]
                      have HS := Lib.hid hv
                      clear hv
                      go_wp2
                      refine wp_region_belt 31 (by kernel_rfl) (by kernel_rfl) ?_
                      simp only [List.take_succ_cons, List.take_zero, List.drop_succ_cons, List.drop_zero]
                      repeat (go_big_quiet_step (fail))
                      refine wpQuiet_nil ?_
                      rintro _ ⟨u, rfl⟩
                      have hM4 := hM.grow u.ok
                      have hc4 := hM4.cell hla hlb
                      have hf4 := (hM4.inner a hla).free b
                      have HM5 := Lib.hid ((hM4.put (i := a) (j := b) hla true).congr (S := cellStep (closTo R k) k a (b + 1)) (fun i j _ _ => by rw [← HS.out]; exact cellStep_next (closTo R k) k a b i j))
                      have hsz4 : w.heap.size + 1 + 1 + n ≤ u.w.heap.size := Nat.le_trans hsz u.ok.size
                      have hr4 := hr.grow u.ok
                      have hbel4 := below_trans hbel u.ok
                      clear hM hM4 gha ghk gab gak gkb
                      go_wp2
                      go_roundw
                      case rel => exact ⟨b + 1, by omega, by go_num, HM5.out, by simpa using hsz4, hr4.far (by simp; omega) _, hbel4.setCell (by simp; omega) _⟩
                      case measure => simp [intOf]; omega
                    · have hv : stepR (closTo R k) k a b = false := by simp [stepR, q1, q2]
                      have HS := Lib.hid hv
                      clear hv
                      go_wp2
                      refine wp_region_belt 31 (by kernel_rfl) (by kernel_rfl) ?_
                      simp only [List.take_succ_cons, List.take_zero, List.drop_succ_cons, List.drop_zero]
                      repeat (go_big_quiet_step (fail))
                      refine wpQuiet_nil ?_
                      rintro _ ⟨u, rfl⟩
                      have hM4 := hM.grow u.ok
                      have hc4 := hM4.cell hla hlb
                      have hf4 := (hM4.inner a hla).free b
                      have HM5 := Lib.hid ((hM4.put (i := a) (j := b) hla false).congr (S := cellStep (closTo R k) k a (b + 1)) (fun i j _ _ => by rw [← HS.out]; exact cellStep_next (closTo R k) k a b i j))
                      have hsz4 : w.heap.size + 1 + 1 + n ≤ u.w.heap.size := Nat.le_trans hsz u.ok.size
                      have hr4 := hr.grow u.ok
                      have hbel4 := below_trans hbel u.ok
                      clear hM hM4 gha ghk gab gak gkb
                      go_wp2
                      go_roundw
                      case rel => exact ⟨b + 1, by omega, by go_num, HM5.out, by simpa using hsz4, hr4.far (by simp; omega) _, hbel4.setCell (by simp; omega) _⟩
                      case measure => simp [intOf]; omega
                    · have hv : stepR (closTo R k) k a b = false := by simp [stepR, q1, q2, q3]
                      have HS := Lib.hid hv
                      clear hv
                      go_wp2
                      refine wp_region_belt 31 (by kernel_rfl) (by kernel_rfl) ?_
                      simp only [List.take_succ_cons, List.take_zero, List.drop_succ_cons, List.drop_zero]
                      repeat (go_big_quiet_step (fail))
                      refine wpQuiet_nil ?_
                      rintro _ ⟨u, rfl⟩
                      have hM4 := hM.grow u.ok
                      have hc4 := hM4.cell hla hlb
                      have hf4 := (hM4.inner a hla).free b
                      have HM5 := Lib.hid ((hM4.put (i := a) (j := b) hla false).congr (S := cellStep (closTo R k) k a (b + 1)) (fun i j _ _ => by rw [← HS.out]; exact cellStep_next (closTo R k) k a b i j))
                      have hsz4 : w.heap.size + 1 + 1 + n ≤ u.w.heap.size := Nat.le_trans hsz u.ok.size
                      have hr4 := hr.grow u.ok
                      have hbel4 := below_trans hbel u.ok
                      clear hM hM4 gha ghk gab gak gkb
                      go_wp2
                      go_roundw
                      case rel => exact ⟨b + 1, by omega, by go_num, HM5.out, by simpa using hsz4, hr4.far (by simp; omega) _, hbel4.setCell (by simp; omega) _⟩
                      case measure => simp [intOf]; omega
                    · have hv : stepR (closTo R k) k a b = true := by simp [stepR, q1, q2, q3]
                      have HS := Lib.hid hv
                      clear hv
                      go_wp2
                      refine wp_region_belt 31 (by kernel_rfl) (by kernel_rfl) ?_
                      simp only [List.take_succ_cons, List.take_zero, List.drop_succ_cons, List.drop_zero]
                      repeat (go_big_quiet_step (fail))
                      refine wpQuiet_nil ?_
                      rintro _ ⟨u, rfl⟩
                      have hM4 := hM.grow u.ok
                      have hc4 := hM4.cell hla hlb
                      have hf4 := (hM4.inner a hla).free b
                      have HM5 := Lib.hid ((hM4.put (i := a) (j := b) hla true).congr (S := cellStep (closTo R k) k a (b + 1)) (fun i j _ _ => by rw [← HS.out]; exact cellStep_next (closTo R k) k a b i j))
                      have hsz4 : w.heap.size + 1 + 1 + n ≤ u.w.heap.size := Nat.le_trans hsz u.ok.size
                      have hr4 := hr.grow u.ok
                      have hbel4 := below_trans hbel u.ok
                      clear hM hM4 gha ghk gab gak gkb
                      go_wp2
                      go_roundw
                      case rel => exact ⟨b + 1, by omega, by go_num, HM5.out, by simpa using hsz4, hr4.far (by simp; omega) _, hbel4.setCell (by simp; omega) _⟩
                      case measure => simp [intOf]; omega
                · go_wp2
                  go_roundw
                  case rel =>
                    have e : a = n := by omega
                    subst e
                    exact ⟨k + 1, by omega, by go_num, hM.congr (fun i j hi _ => cellStep_end hi), hsz, hr, hbel⟩
                  case measure => simp [intOf]; omega
            · obtain rfl : n = k := by omega
              have hrows : ∀ T, T = closTo R n → rowsOf T n = ofRows n es := fun T hT => by rw [hT, ← HRR.out]; rfl
              generalize hT : closTo R n = T at *
              have HT := Lib.hid (hrows T rfl)
              clear hrows hT
              generalize hL : wr.heap.size = L at hsz
              have HL := Lib.hid hL
              go_wp2
              obtain ⟨i0, hi, hz0, hz1', hz2⟩ := info_parts info_u64
              have HI := Lib.hid hi
              have HZ0 := Lib.hid hz0
              have HZ1 := Lib.hid hz1'
              have HZ2 := Lib.hid hz2
              clear hi hz0 hz1' hz2
              have oL : Own (wr.alloc (.cells #[.int .i64 (n : Int), .slice none 0 0] 26)) L 26 [.int .i64 (n : Int), .slice none 0 0] := by rw [← hL]; exact Own.new _ _ _
              have sL : L + 1 ≤ (wr.alloc (.cells #[.int .i64 (n : Int), .slice none 0 0] 26)).heap.size := by rw [World.size_alloc, hL]; omega
              have hM2 := hM.alloc (.cells #[.int .i64 (n : Int), .slice none 0 0] 26)
              have hr2 := hr.alloc (.cells #[.int .i64 (n : Int), .slice none 0 0] 26)
              have hbel2 := below_trans hbel (below_alloc wr (.cells #[.int .i64 (n : Int), .slice none 0 0] 26))
              clear hL HL hM hr hbel
              go_loopw [14] (fun i wr' => ∃ (a : Nat) (v : Value), a ≤ n ∧ i = .int .i64 a ∧ Own wr' L 26 [.int .i64 (n : Int), v] ∧ wr'.ownsRow (L + 1) 81 1 v a (us ((rowsOf T n).take a)) ∧ Mat wr' (w.heap.size + 1) n n T ∧ L + 1 ≤ wr'.heap.size ∧ Own wr' w.heap.size 26 [.int .i64 0, .slice none 0 0] ∧ Below w.heap.size w wr') (fun i _ => n - (intOf i).toNat)
              case atStart => exact ⟨0, _, Nat.zero_le _, rfl, oL, World.ownsRow_nil _ _ _ _, hM2, sL, hr2, hbel2⟩
              case round =>
                clear oL sL hM2 hr2 hbel2
                obtain ⟨a, v, ha, rfl, oL, hrow, hM, sL, hr, hbel⟩ := hrel
                obtain ⟨l0, l1⟩ := oL.two
                by_cases hla : a < n
                · go_wp2
                  go_loop [15, 16] (fun x i => ∃ b : Nat, b ≤ n ∧ i = .int .i64 b ∧ x = .int .u64 (pack (T a) b : Int)) (fun _ i => n - (intOf i).toNat)
                  case atStart => exact ⟨0, Nat.zero_le _, rfl, rfl⟩
                  case round =>
                    obtain ⟨b, hb, rfl, rfl⟩ := hrel
                    by_cases hlb : b < n
                    · have gh := hM.head hla (Nat.le_refl _)
                      have gc := hM.cell hla hlb
                      cases hq : T a b
                      · rw [hq] at gc
                        have HQ := Lib.hid (pack_no hq)
                        clear hq
                        go_wp2
                        go_round
                        case rel => exact ⟨b + 1, by omega, by go_num, by rw [HQ.out]⟩
                        case measure => simp [intOf]; omega
                      · rw [hq] at gc
                        have hwr := pack_wrap hq (show b < 16 by omega)
                        clear hq
                        go_wp2_with (go_at_call 80; refine (l01Power_any b _ (by omega)).mono ?_; rintro e w' ⟨rfl, rfl⟩)
                        go_round
                        case rel => exact ⟨b + 1, by omega, by go_num, by first | rfl | (rw [hwr])⟩
                        case measure => simp [intOf]; omega
                    · obtain rfl : n = b := by omega
                      have hx : (pack (T a) n : Int) = (row (rowsOf T n) a : Int) := by rw [rowsOf_row hla]
                      have HX := Lib.hid hx
                      clear hx
                      obtain ⟨A, cc, rfl, _⟩ := owns_rd hrow
                      go_wp2_with ((at_builtin; refine wpList_append_own _ rfl _ _ 24 rfl (L + 1) 81 i0 (.int .u64 0) 1 8 Try.underlying24 HI.out HZ0.out HZ1.out HZ2.out rfl (by decide) _ _ _ rfl (hrow.alloc _) ⟨wr.heap.size, 0, none⟩ 1 1 [.int .u64 (pack (T a) n : Int)] rfl rfl (by
                        intro j u hj
                        match j, hj with
                        | 0, hj => simp at hj; subst hj; simp [Addr.add]) (by intro u hu'; simp at hu'; subst hu'; rfl) (by unfold maxLen; omega) (by omega) (by simp; omega) ?_; intro v' w4 hrow' hgrow _; (obtain ⟨A4, c4, rfl, _⟩ := owns_rd hrow'); (have oL4 := append_box hrow oL (by omega) hgrow); (have l04 := oL4.two.1); (have l14 := oL4.two.2); (have f14 := oL4.free 1)))
                      have hR2 : w4.ownsRow (L + 1) 81 1 (.slice A4 (a + 1) c4) (a + 1) (us ((rowsOf T n).take (a + 1))) := by
                        rw [us_take (by rw [rowsOf_length]; exact hla), ← HX.out]; exact hrow'
                      have hB4 := append_below hbel (by omega) hrow (by omega) hgrow
                      have hS4 : L + 1 ≤ w4.heap.size := by have := hgrow.size; simp at this; omega
                      have hM4 : Mat w4 (w.heap.size + 1) n n T := (hM.alloc _).grownBy hgrow (fun j hj => by have := (hrow.lt j hj).1; omega)
                      have hr4 := append_box hrow hr (by omega) hgrow
                      go_roundw
                      case rel =>
                        refine ⟨a + 1, .slice A4 (a + 1) c4, by omega, by go_num, oL4.set 1 _, ownsRow_setCell_below hR2 (by simp) _, hM4.far (.inr (by simp; omega)) _, by simpa using hS4, hr4.far (by simp; omega) _, hB4.setCell (by simp; omega) _⟩
                      case measure => simp [intOf]; omega
                · obtain rfl : n = a := by omega
                  have htk : (rowsOf T n).take n = ofRows n es := by rw [← HT.out, List.take_of_length_le (by rw [rowsOf_length]; omega)]
                  rw [htk] at hrow
                  clear htk
                  obtain ⟨A, cc, rfl, hrd⟩ := owns_rd hrow
                  go_wp2_with fail
                  by_cases hLP : LatP (n : Int) (ofRows n es)
                  · refine (as_bool (tf_yes hLP).symm (specLatOk_n (n : Int) A n cc (ofRows n es) _ (rowsOf_length _ _) hrd (rowsOf_u64 h16) (by omega))).mono ?_
                    rintro e w5 ⟨rfl, hb5⟩
                    have hyes : OfOk (n : Int) es := ⟨⟨by omega, by omega, h100⟩, HP.out, by rw [Int.toNat_natCast]; exact hLP⟩
                    have HY := Lib.hid hyes
                    have oL5 := oL.grow hb5
                    have hr5 := hr.grow hb5
                    have hrow5 := owns_grow hrow hb5
                    have hbel5 := below_trans hbel hb5
                    clear hLP hyes hb5 oL hr hrow hbel hrd l0 l1
                    obtain ⟨l0, l1⟩ := oL5.two
                    obtain ⟨r0, r1⟩ := hr5.two
                    have f0 := hr5.free 0
                    have f1 := hr5.free 1
                    go_wp2
                    rw [ofN_yes HY.out, ofXs_yes HY.out, ← tf_yes HY.out, Int.toNat_natCast]
                    refine bodyPost_ret (v := .tuple #[.agg #[.int .i64 (n : Int), .slice A n cc], .bool true]) (by simp [results, Try.results90, go_sem, r0, r1]) rfl ⟨_, rfl, ?_, ?_⟩
                    · rw [show (ofRows n es).length = n from rowsOf_length _ _]
                      exact owns_base (ownsRow_setCell_below (ownsRow_setCell_below hrow5 (by simp; omega) _) (by simp; omega) _) (by omega)
                    · exact (hbel5.setCell (by simp) _).setCell (by simp) _
                  · refine (as_bool (tf_no hLP).symm (specLatOk_n (n : Int) A n cc (ofRows n es) _ (rowsOf_length _ _) hrd (rowsOf_u64 h16) (by omega))).mono ?_
                    rintro e w5 ⟨rfl, hb5⟩
                    have hno : ¬ OfOk (n : Int) es := fun h => hLP (by have := h.2.2; rwa [Int.toNat_natCast] at this)
                    have HNO := Lib.hid hno
                    have hr5 := hr.grow hb5
                    have hbel5 := below_trans hbel hb5
                    clear hLP hno hb5 oL hr hrow hbel hrd l0 l1
                    obtain ⟨r0, r1⟩ := hr5.two
                    have f0 := hr5.free 0
                    have f1 := hr5.free 1
                    go_wp2
                    rw [ofN_no HNO.out, ofXs_no HNO.out, ← tf_no HNO.out]
                    refine bodyPost_ret (v := .tuple #[.agg #[.int .i64 0, .slice none 0 0], .bool false]) (by simp [results, Try.results90, go_sem, r0, r1]) rfl ⟨_, rfl, World.ownsRow_nil _ _ _ _, ?_⟩
                    exact (hbel5.setCell (by simp) _).setCell (by simp) _
end Go.Proofs.Ytipcjofmplpffaa
