/-
  Watermarks: the model's small functions: what they return.
-/
import Derived.Test.YtmipieoglcefkaaKitMark
namespace Go.Proofs.Ytmipieoglcefkaa
open Go.RowKit

theorem lst_take {p m : Mk} (h : m.2 = false ∧ (p.2 = false ∨ m.1 < p.1)) : lst p m = (m.1, true) := by simp only [lst, if_pos h]
theorem lst_keep {p m : Mk} (h : ¬ (m.2 = false ∧ (p.2 = false ∨ m.1 < p.1))) : lst p m = p := by simp only [lst, if_neg h]

set_option maxHeartbeats 400000 in
theorem l05Time_any (t : Int) (w : World) : Calls Try.prog 34 #[.int .i64 t] w fun e w' => e = .returned (.bool (tf (isT t))) ∧ w = w' := by
  by_cases h0 : 0 ≤ t
  · by_cases h1 : t ≤ 1000
    · go_enter Try.func34, Try.ntmps34
      go_wp2
      go_ret
      exact ⟨ret_bool (by rw [← tf_yes (show isT t from ⟨h0, h1⟩)]), rfl⟩
    · go_enter Try.func34, Try.ntmps34
      go_wp2
      go_ret
      exact ⟨ret_bool (tf_no (fun h : isT t => by have := h.2; omega)), rfl⟩
  · go_enter Try.func34, Try.ntmps34
    go_wp2
    go_ret
    exact ⟨ret_bool (tf_no (fun h : isT t => by have := h.1; omega)), rfl⟩

set_option maxHeartbeats 1000000 in
theorem specMarksLeast_any (G : Int) (A : Option Addr) (n ca : Nat) (ms : List Mk) (w : World) (hA : Rd w A (mz ms)) (hz : ms.length = n) (hn : n ≤ 1048576) :
    Calls Try.prog 28 #[msv G (.slice A n ca)] w fun e w' => e = .returned (.int .i64 (leastOf ms)) ∧ Below w.heap.size w w' := by
  have HA := Lib.hid (hA.below (below_alloc w (.cells #[.int .i64 G, .slice A n ca] 26)))
  have hb0 := below_alloc w (.cells #[.int .i64 G, .slice A n ca] 26)
  have HZ := Lib.hid hz
  clear hz hA
  go_enter Try.func28, Try.ntmps28
  go_wp2
  go_loop [3, 4, 5] (fun l s i => ∃ k : Nat, k ≤ n ∧ i = .int .i64 k ∧ l = .int .i64 (leastTo ms k).1 ∧ s = .bool (!(leastTo ms k).2)) (fun _ _ i => n - (intOf i).toNat)
  case atStart => exact ⟨0, Nat.zero_le _, rfl, by rw [leastTo_zero], by rw [leastTo_zero]; rfl⟩
  case round =>
    obtain ⟨k, hk, rfl, rfl, rfl⟩ := hrel
    by_cases hlt : k < n
    · have hlm : k < ms.length := by rw [HZ.out]; exact hlt
      obtain ⟨b, off, rfl, hb, hc⟩ := HA.out.mark hlm
      obtain ⟨c0, c1⟩ := hc _ (Below.refl _ _)
      clear hc
      have HS := Lib.hid (leastTo_succ hlm)
      have HE := Lib.hid (lst_take (p := leastTo ms k) (m := mat ms k))
      have HK := Lib.hid (lst_keep (p := leastTo ms k) (m := mat ms k))
      rcases hm : mat ms k with ⟨x, d⟩
      rcases hp : leastTo ms k with ⟨l, s⟩
      rw [hm] at c0 c1 HS HE HK
      rw [hp] at HS HE HK
      cases d with
      | true =>
        go_wp2
        go_round
        case rel => exact ⟨k + 1, by omega, by go_num, by rw [HS.out, HK.out (by simp)], by rw [HS.out, HK.out (by simp)]⟩
        case measure => simp [intOf]; omega
      | false =>
        cases s with
        | false =>
          go_wp2
          go_round
          case rel => exact ⟨k + 1, by omega, by go_num, by rw [HS.out, HE.out (by simp)], by rw [HS.out, HE.out (by simp)]; rfl⟩
          case measure => simp [intOf]; omega
        | true =>
          by_cases hx : x < l
          · go_wp2
            go_round
            case rel => exact ⟨k + 1, by omega, by go_num, by rw [HS.out, HE.out ⟨rfl, .inr hx⟩], by rw [HS.out, HE.out ⟨rfl, .inr hx⟩]; rfl⟩
            case measure => simp [intOf]; omega
          · go_wp2
            go_round
            case rel => exact ⟨k + 1, by omega, by go_num, by rw [HS.out, HK.out (by simp; omega)], by rw [HS.out, HK.out (by simp; omega)]; rfl⟩
            case measure => simp [intOf]; omega
    · go_wp2
      go_ret
      have hkn : k = ms.length := by rw [HZ.out]; omega
      subst hkn
      exact ⟨rfl, hb0⟩

theorem max_is (a b : Int) : max a b = if a < b then b else a := by omega
theorem ok_no1 {G : Int} {ms : List Mk} (h : ¬ 1 ≤ ms.length) : ¬ marksOk G ms := fun k => h k.1
theorem ok_no2 {G : Int} {ms : List Mk} (h : ¬ ms.length ≤ 4) : ¬ marksOk G ms := fun k => h k.2.1
theorem ok_no3 {G : Int} {ms : List Mk} (h : ¬ isT G) : ¬ marksOk G ms := fun k => h k.2.2.1
theorem ok_no4 {G : Int} {ms : List Mk} {k : Nat} (hk : k < ms.length) (h : ¬ isT (mat ms k).1) : ¬ marksOk G ms := fun q => h (q.2.2.2.1 k hk)
theorem timesTo_succ {ms : List Mk} {k : Nat} (h : timesTo ms k) (hk : isT (mat ms k).1) : timesTo ms (k + 1) := fun j hj => by
  by_cases e : j = k
  · rw [e]; exact hk
  · exact h j (by omega)

set_option maxHeartbeats 1000000 in
theorem specMarksOk_any (G : Int) (A : Option Addr) (n ca : Nat) (ms : List Mk) (w : World) (hA : Rd w A (mz ms)) (hz : ms.length = n) (hn : n ≤ 1048576) :
    Calls Try.prog 12 #[msv G (.slice A n ca)] w fun e w' => e = .returned (.bool (tf (marksOk G ms))) ∧ Below w.heap.size w w' := by
  have HA := Lib.hid (hA.below (below_alloc w (.cells #[.int .i64 G, .slice A n ca] 26)))
  have hb0 := below_alloc w (.cells #[.int .i64 G, .slice A n ca] 26)
  have HZ := Lib.hid hz
  clear hz hA
  by_cases h1 : (n : Int) < 1
  · go_enter Try.func12, Try.ntmps12
    go_wp2_with fail
    go_ret
    exact ⟨ret_bool (tf_no (ok_no1 (by rw [HZ.out]; omega))), hb0⟩
  by_cases h4 : 4 < (n : Int)
  · go_enter Try.func12, Try.ntmps12
    go_wp2_with fail
    go_ret
    exact ⟨ret_bool (tf_no (ok_no2 (by rw [HZ.out]; omega))), hb0⟩
  by_cases hG : isT G
  · have HG := Lib.hid hG
    clear hG
    go_enter Try.func12, Try.ntmps12
    go_wp2_with (go_at_call 34; refine (as_bool (tf_yes HG.out).symm (l05Time_any G _)).mono ?_; rintro e _ ⟨rfl, rfl⟩)
    go_loop [3, 4] (fun g i => ∃ k : Nat, k ≤ n ∧ i = .int .i64 k ∧ g = .int .i64 (mostTo ms k) ∧ Hid (timesTo ms k)) (fun _ i => n - (intOf i).toNat)
    case atStart => exact ⟨0, Nat.zero_le _, rfl, by rw [mostTo_zero], Lib.hid fun j hj => by omega⟩
    case round =>
      obtain ⟨k, hk, rfl, rfl, HT⟩ := hrel
      by_cases hlt : k < n
      · have hlm : k < ms.length := by rw [HZ.out]; exact hlt
        obtain ⟨b, off, rfl, hb, hc⟩ := HA.out.mark hlm
        obtain ⟨c0, c1⟩ := hc _ (Below.refl _ _)
        clear hc
        have HS := Lib.hid (mostTo_succ hlm)
        by_cases ht : isT (mat ms k).1
        · have HT2 := Lib.hid (timesTo_succ HT.out ht)
          have HTT := Lib.hid ht
          clear ht
          go_wp2_with (go_at_call 34; refine (as_bool (tf_yes HTT.out).symm (l05Time_any _ _)).mono ?_; rintro e _ ⟨rfl, rfl⟩)
          go_round
          case rel => exact ⟨k + 1, by omega, by go_num, by rw [HS.out, max_is], HT2⟩
          case measure => simp [intOf]; omega
        · have HTT := Lib.hid ht
          clear ht
          go_wp2_with (go_at_call 34; refine (as_bool (tf_no HTT.out).symm (l05Time_any _ _)).mono ?_; rintro e _ ⟨rfl, rfl⟩)
          go_ret
          exact ⟨ret_bool (tf_no (ok_no4 hlm HTT.out)), hb0⟩
      · have hkn : k = ms.length := by rw [HZ.out]; omega
        have HE := Lib.hid (show marksOk G ms ↔ leastOf ms ≤ G ∧ G ≤ mostTo ms k from ⟨fun q => by rw [hkn]; exact ⟨q.2.2.2.2.1, q.2.2.2.2.2⟩, fun q => ⟨by rw [HZ.out]; omega, by rw [HZ.out]; omega, HG.out, by have := HT.out; rwa [hkn] at this, q.1, by have := q.2; rwa [hkn] at this⟩⟩)
        have k0 : ∀ u : Bel (w.alloc (.cells #[.int .i64 G, .slice A n ca] 26)), u.w.cell? ⟨w.heap.size, 0, none⟩ = some (.int .i64 G) := fun u => ((Own.new w 26 [.int .i64 G, .slice A n ca]).grow u.ok).two.1
        have k1 : ∀ u : Bel (w.alloc (.cells #[.int .i64 G, .slice A n ca] 26)), u.w.cell? ⟨w.heap.size, 1, none⟩ = some (.slice A n ca) := fun u => ((Own.new w 26 [.int .i64 G, .slice A n ca]).grow u.ok).two.2
        have HC := Lib.hid (fun (u : Bel (w.alloc (.cells #[.int .i64 G, .slice A n ca] 26))) => specMarksLeast_any G A n ca ms u.w (HA.out.below u.ok) HZ.out hn)
        clear hkn HA
        generalize mostTo ms k = M at *
        generalize leastOf ms = L at *
        by_cases hL : L ≤ G
        · have hd : decide (L ≤ G) = true := by simp [hL]
          have hd2 : decide (G ≥ L) = true := by simp [hL]
          go_wp2_with fail
          refine wp_region_bel (by kernel_rfl) (by kernel_rfl) ?_
          repeat (go_big_quiet_step ((go_at_call 28; exact bel_of _ (HC.out _))))
          refine wpQuiet_nil ?_
          rintro _ ⟨u, rfl⟩
          go_wp2
          go_ret
          refine ⟨ret_bool ?_, below_trans hb0 u.ok⟩
          by_cases hM : G ≤ M
          · rw [← tf_yes (HE.out.2 ⟨hL, hM⟩)]; simp [hM]
          · rw [← tf_no (fun q => hM (HE.out.1 q).2)]; simp [hM]
        · have hd : decide (L ≤ G) = false := by simp; omega
          have hd2 : decide (G ≥ L) = false := by simp; omega
          go_wp2_with fail
          refine wp_region_bel (by kernel_rfl) (by kernel_rfl) ?_
          repeat (go_big_quiet_step ((go_at_call 28; exact bel_of _ (HC.out _))))
          refine wpQuiet_nil ?_
          rintro _ ⟨u, rfl⟩
          go_wp2
          go_ret
          exact ⟨ret_bool (tf_no (fun q => by have := (HE.out.1 q).1; omega)), below_trans hb0 u.ok⟩
  · have HG := Lib.hid hG
    clear hG
    go_enter Try.func12, Try.ntmps12
    go_wp2_with (go_at_call 34; refine (as_bool (tf_no HG.out).symm (l05Time_any G _)).mono ?_; rintro e _ ⟨rfl, rfl⟩)
    go_ret
    exact ⟨ret_bool (tf_no (ok_no3 HG.out)), hb0⟩

set_option maxHeartbeats 1000000 in
theorem specMarksLate_any (G : Int) (A : Option Addr) (n ca : Nat) (ms : List Mk) (t : Int) (w : World) (hA : Rd w A (mz ms)) (hz : ms.length = n) (hn : n ≤ 1048576) :
    Calls Try.prog 29 #[msv G (.slice A n ca), .int .i64 t] w fun e w' => e = .returned (.bool (tf (marksOk G ms ∧ t < G))) ∧ Below w.heap.size w w' := by
  have HC := Lib.hid (specMarksOk_any G A n ca ms _ (hA.below (below_alloc w (.cells #[.int .i64 G, .slice A n ca] 26))) hz hn)
  clear hA
  by_cases hok : marksOk G ms
  · have HK := Lib.hid hok
    clear hok
    go_enter Try.func29, Try.ntmps29
    go_wp2_with fail
    refine (as_bool (tf_yes HK.out).symm HC.out).mono ?_
    rintro e w1 ⟨rfl, hb1⟩
    obtain ⟨ho, hb⟩ := box_own hb1
    clear hb1
    obtain ⟨c0, c1⟩ := ho.two
    go_wp2
    go_ret
    refine ⟨ret_bool ?_, hb⟩
    by_cases h : t < G
    · rw [← tf_yes ⟨HK.out, h⟩]; simp [h]
    · rw [← tf_no (fun q => h q.2)]; simp [h]
  · have HK := Lib.hid hok
    clear hok
    go_enter Try.func29, Try.ntmps29
    go_wp2_with fail
    refine (as_bool (tf_no HK.out).symm HC.out).mono ?_
    rintro e w1 ⟨rfl, hb1⟩
    obtain ⟨ho, hb⟩ := box_own hb1
    clear hb1
    go_wp2
    go_ret
    exact ⟨ret_bool (tf_no (fun q => HK.out q.1)), hb⟩

set_option maxHeartbeats 1000000 in
theorem l05Src_any (G : Int) (A : Option Addr) (n ca : Nat) (ms : List Mk) (src : Int) (w : World) (hA : Rd w A (mz ms)) (hz : ms.length = n) (hn : n ≤ 1048576) :
    Calls Try.prog 40 #[msv G (.slice A n ca), .int .i64 src] w fun e w' => e = .returned (.bool (tf (hasSrc G ms src))) ∧ Below w.heap.size w w' := by
  have HC := Lib.hid (specMarksOk_any G A n ca ms _ (hA.below (below_alloc w (.cells #[.int .i64 G, .slice A n ca] 26))) hz hn)
  have HZ := Lib.hid hz
  clear hA hz
  by_cases hok : marksOk G ms
  · have HK := Lib.hid hok
    clear hok
    by_cases h0 : 0 ≤ src
    · go_enter Try.func40, Try.ntmps40
      go_wp2_with fail
      refine (as_bool (tf_yes HK.out).symm HC.out).mono ?_
      rintro e w1 ⟨rfl, hb1⟩
      obtain ⟨ho, hb⟩ := box_own hb1
      clear hb1
      obtain ⟨c0, c1⟩ := ho.two
      go_wp2
      go_ret
      refine ⟨ret_bool ?_, hb⟩
      have hl := HZ.out
      by_cases h : src < n
      · rw [← tf_yes (show hasSrc G ms src from ⟨HK.out, h0, by omega⟩)]; simp [h]
      · rw [← tf_no (fun q : hasSrc G ms src => by have := q.2.2; omega)]; simp; omega
    · go_enter Try.func40, Try.ntmps40
      go_wp2_with fail
      refine (as_bool (tf_yes HK.out).symm HC.out).mono ?_
      rintro e w1 ⟨rfl, hb1⟩
      obtain ⟨ho, hb⟩ := box_own hb1
      clear hb1
      obtain ⟨c0, c1⟩ := ho.two
      go_wp2
      go_ret
      exact ⟨ret_bool (tf_no (fun q => by have := q.2.1; omega)), hb⟩
  · have HK := Lib.hid hok
    clear hok
    go_enter Try.func40, Try.ntmps40
    go_wp2_with fail
    refine (as_bool (tf_no HK.out).symm HC.out).mono ?_
    rintro e w1 ⟨rfl, hb1⟩
    obtain ⟨ho, hb⟩ := box_own hb1
    clear hb1
    go_wp2
    go_ret
    exact ⟨ret_bool (tf_no (fun q => HK.out q.1)), hb⟩
end Go.Proofs.Ytmipieoglcefkaa
