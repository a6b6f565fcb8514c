/-
  The model's LatEdges.
-/
import Derived.Test.YtionnalaickcjaaLatEdges
namespace Go.Proofs.Ytionnalaickcjaa
open Go.RowKit

theorem freeTo_zero (xs : List Nat) (a b : Nat) : freeTo xs a b 0 = (decide (a ≠ b) && le xs a b) := by simp [freeTo]

set_option maxHeartbeats 4000000 in
theorem specLatEdges_any (N : Int) (A : Option Addr) (ca : Nat) (xs : List Nat) (w : World) (hA : Rd w A (us xs)) (hu : U64 xs) (hn : xs.length ≤ 1048576) :
    Calls Try.prog 52 #[.agg #[.int .i64 N, .slice A xs.length ca]] w (RowOf 70 2 w (edgesV N xs).length (ez (edgesV N xs))) := by
  have HA := Lib.hid (fun W (h : Below w.heap.size w W) => hA.below h)
  clear hA
  by_cases hL : LatP N xs
  · obtain ⟨rfl, h1, h16⟩ := hL.len
    have HL := Lib.hid hL
    clear hL
    obtain ⟨ad, rfl, hcu⟩ := (HA.out _ (Below.refl _ _)).nat (by omega)
    have HU := Lib.hid hcu
    clear hcu
    obtain ⟨i0, hi, hz0, hz1', hz2⟩ := info_parts info_edge
    have HI := Lib.hid hi
    have HZ0 := Lib.hid hz0
    have HZ1 := Lib.hid hz1'
    have HZ2 := Lib.hid hz2
    clear hi hz0 hz1' hz2
    go_enter Try.func52, Try.ntmps52
    go_wp2
    go_loopw [3, 4] (fun v i wr => ∃ k : Nat, k ≤ xs.length ∧ i = .int .i64 k ∧ wr.ownsRow (w.heap.size + 1) 70 2 v (gath xs k 0).length (ez (gath xs k 0)) ∧ Own wr w.heap.size 26 [.int .i64 (xs.length : Int), .slice (some ad) xs.length ca] ∧ w.heap.size + 1 ≤ wr.heap.size ∧ Below w.heap.size w wr) (fun _ i _ => xs.length - (intOf i).toNat)
    case atStart =>
      refine ⟨0, Nat.zero_le _, rfl, ?_, ?_, ?_, ?_⟩
      · have := World.ownsRow_lit (base := w.heap.size + 1) (e := 70) (size := 2) (w.alloc (.cells #[.int .i64 (xs.length : Int), .slice (some ad) xs.length ca] 26)) #[] 0 (by simp) (by simp) (by simp)
        rw [gath_start]
        simpa [ez] using this
      · exact (Own.new _ _ _).alloc _
      · simp
      · exact below_trans (below_alloc _ _) (below_alloc _ _)
    case round =>
      obtain ⟨k, hk, rfl, hrow, hown, hsz, hbel⟩ := hrel
      obtain ⟨c0, c1⟩ := hown.two
      go_wp2_with fail
      refine (as_bool (tf_yes HL.out).symm (specLatOk_any _ (some ad) ca xs _ (HA.out _ hbel) hu hn)).mono ?_
      rintro e w1 ⟨rfl, hb1⟩
      have hrow1 := owns_grow hrow hb1
      have hown1 := hown.grow hb1
      have hbel1 := below_trans hbel hb1
      have hsz1 : w.heap.size + 1 ≤ w1.heap.size := by have := hb1.size; omega
      clear hrow hown hbel hsz hb1 c0 c1
      obtain ⟨c0, c1⟩ := hown1.two
      by_cases hlt : k < xs.length
      · go_wp2
        clear c0 c1
        go_loopw [3, 5] (fun v i wr' => ∃ j : Nat, j ≤ xs.length ∧ i = .int .i64 j ∧ wr'.ownsRow (w.heap.size + 1) 70 2 v (gath xs k j).length (ez (gath xs k j)) ∧ Own wr' w.heap.size 26 [.int .i64 (xs.length : Int), .slice (some ad) xs.length ca] ∧ w.heap.size + 1 ≤ wr'.heap.size ∧ Below w.heap.size w wr') (fun _ i _ => xs.length - (intOf i).toNat)
        case atStart => exact ⟨0, Nat.zero_le _, rfl, hrow1, hown1, hsz1, hbel1⟩
        case round =>
          clear hrow1 hown1 hsz1 hbel1
          obtain ⟨j, hj, rfl, hrow, hown, hsz, hbel⟩ := hrel
          obtain ⟨c0, c1⟩ := hown.two
          by_cases hlt2 : j < xs.length
          · have hgl := gath_le h16 hk hj
            have ga : wr.cell? (ad.add k) = some (.int .u64 (row xs k : Int)) := HU.out _ hbel k hlt
            have hra : row xs k < 18446744073709551616 := hu.at k
            have hkey : ∃ f : Bool, f = freeTo xs k j 0 := ⟨_, rfl⟩
            by_cases hkj : k = j
            case' pos =>
              have ht : ((k : Int) != (j : Int)) = false := by rw [hkj]; simp
              have HF : Hid (false = freeTo xs k j 0) := Lib.hid (by rw [freeTo_zero]; simp [hkj])
              clear hkj hkey
              go_wp2
            case' neg =>
              have ht : ((k : Int) != (j : Int)) = true := by rw [bne_iff_ne]; omega
              cases hb : (row xs k).testBit j
              case' false =>
                have HF : Hid (false = freeTo xs k j 0) := Lib.hid (by rw [freeTo_zero]; unfold le; rw [hb]; simp)
                clear hkj hkey
                go_wp2_with (go_at_call 58; refine (l01Bit_is (row xs k) j false _ hra (by omega) hb).mono ?_; rintro e w' ⟨rfl, rfl⟩)
              case' true =>
                have HF : Hid (true = freeTo xs k j 0) := Lib.hid (by rw [freeTo_zero]; unfold le; rw [hb]; simp [hkj])
                clear hkj hkey
                go_wp2_with (go_at_call 58; refine (l01Bit_is (row xs k) j true _ hra (by omega) hb).mono ?_; rintro e w' ⟨rfl, rfl⟩)
            all_goals
              go_loop [6, 7] (fun t i => ∃ (m : Nat) (f : Bool), m ≤ xs.length ∧ i = .int .i64 m ∧ t = .bool f ∧ Hid (f = freeTo xs k j m)) (fun _ i => xs.length - (intOf i).toNat)
              case atStart => exact ⟨0, _, Nat.zero_le _, rfl, rfl, HF⟩
              case round =>
                clear HF
                obtain ⟨m, f, hm, rfl, rfl, hf⟩ := hrel
                by_cases hlt3 : m < xs.length
                · have gm : wr.cell? (ad.add m) = some (.int .u64 (row xs m : Int)) := HU.out _ hbel m hlt3
                  have hrm : row xs m < 18446744073709551616 := hu.at m
                  by_cases hma : m = k
                  · have t1 : ((m : Int) != (k : Int)) = false := by rw [hma]; simp
                    have HF2 : Hid (f = freeTo xs k j (m + 1)) := Lib.hid (by rw [freeTo_succ, ← hf.out]; simp [midB, hma])
                    clear hma hf
                    go_wp2
                    go_round
                    case rel => exact ⟨m + 1, f, by omega, by go_num, rfl, HF2⟩
                    case measure => simp [intOf]; omega
                  · have t1 : ((m : Int) != (k : Int)) = true := by rw [bne_iff_ne]; omega
                    by_cases hmb : m = j
                    · have t2 : ((m : Int) != (j : Int)) = false := by rw [hmb]; simp
                      have HF2 : Hid (f = freeTo xs k j (m + 1)) := Lib.hid (by rw [freeTo_succ, ← hf.out]; simp [midB, hmb])
                      clear hmb hf hma
                      go_wp2
                      go_round
                      case rel => exact ⟨m + 1, f, by omega, by go_num, rfl, HF2⟩
                      case measure => simp [intOf]; omega
                    · have t2 : ((m : Int) != (j : Int)) = true := by rw [bne_iff_ne]; omega
                      cases hb1 : (row xs k).testBit m
                      · have HF2 : Hid (f = freeTo xs k j (m + 1)) := Lib.hid (by rw [freeTo_succ, ← hf.out]; simp [midB, le, hb1])
                        clear hf hma hmb
                        go_wp2_with (go_at_call 58; refine (l01Bit_is (row xs k) m false _ hra (by omega) hb1).mono ?_; rintro e w' ⟨rfl, rfl⟩)
                        go_round
                        case rel => exact ⟨m + 1, f, by omega, by go_num, rfl, HF2⟩
                        case measure => simp [intOf]; omega
                      · go_wp2_with fail
                        refine (l01Bit_is (row xs k) m true _ hra (by omega) hb1).mono ?_
                        rintro e w' ⟨rfl, rfl⟩
                        go_wp2_with fail
                        cases hb2 : (row xs m).testBit j
                        · have HF2 : Hid (f = freeTo xs k j (m + 1)) := Lib.hid (by rw [freeTo_succ, ← hf.out]; simp [midB, le, hb2])
                          refine (l01Bit_is (row xs m) j false _ hrm (by omega) hb2).mono ?_
                          rintro e w' ⟨rfl, rfl⟩
                          clear hf hma hmb
                          go_wp2
                          go_round
                          case rel => exact ⟨m + 1, f, by omega, by go_num, rfl, HF2⟩
                          case measure => simp [intOf]; omega
                        · have HF2 : Hid (false = freeTo xs k j (m + 1)) := Lib.hid (by rw [freeTo_succ]; simp [midB, le, hb1, hb2, hma, hmb])
                          refine (l01Bit_is (row xs m) j true _ hrm (by omega) hb2).mono ?_
                          rintro e w' ⟨rfl, rfl⟩
                          clear hf hma hmb
                          go_wp2
                          go_round
                          case rel => exact ⟨m + 1, false, by omega, by go_num, rfl, HF2⟩
                          case measure => simp [intOf]; omega
                · obtain rfl : m = xs.length := by omega
                  have hE : f = isEdge xs k j := hf.out
                  have HE := Lib.hid hE
                  clear hf hE
                  cases f
                  · go_wp2
                    go_roundw
                    case rel => exact ⟨j + 1, by omega, by go_num, by rw [gath_no HE.out.symm]; exact hrow, hown, hsz, hbel⟩
                    case measure => simp [intOf]; omega
                  · go_wp2_with ((at_builtin; refine wpList_append_own _ rfl _ _ 28 rfl (w.heap.size + 1) 70 i0 (.agg #[.int .i64 0, .int .i64 0]) 2 16 Try.underlying28 HI.out HZ0.out HZ1.out HZ2.out rfl (by decide) _ _ _ rfl (hrow.alloc _) ⟨wr.heap.size, 0, none⟩ 1 1 [.int .i64 (k : Int), .int .i64 (j : Int)] rfl rfl (by
                        intro i u hi
                        match i, hi with
                        | 0, hi => simp at hi; subst hi; simp [Addr.add]
                        | 1, hi => simp at hi; subst hi; simp [Addr.add]) (by
                        intro u hu'; simp at hu'; rcases hu' with rfl | rfl <;> rfl) (by unfold maxLen; omega) (by omega) (by simp; omega) ?_; intro v' w4 hrow' hgrow _))
                    have hR2 : w4.ownsRow (w.heap.size + 1) 70 2 v' (gath xs k (j + 1)).length (ez (gath xs k (j + 1))) := by
                      rw [gath_yes HE.out.symm, ez_append]; simpa [ez] using hrow'
                    have hO4 := append_box hrow hown (by omega) hgrow
                    have hB4 := append_below hbel (by omega) hrow (by omega) hgrow
                    have hS4 : w.heap.size + 1 ≤ w4.heap.size := by have := hgrow.size; simp at this; omega
                    go_roundw
                    case rel => exact ⟨j + 1, by omega, by go_num, hR2, hO4, hS4, hB4⟩
                    case measure => simp [intOf]; omega
          · go_wp2
            go_roundw
            case rel => exact ⟨k + 1, by omega, by go_num, by rw [← gath_next, show xs.length = j by omega]; exact hrow, hown, hsz, hbel⟩
            case measure => simp [intOf]; omega
      · go_wp2
        go_ret
        refine ⟨_, rfl, ?_, hbel1⟩
        have hkn : k = xs.length := by omega
        subst hkn
        rw [edgesV_yes HL.out, ← gath_all]
        exact owns_base hrow1 (by omega)
  · have HL := Lib.hid hL
    clear hL
    go_enter Try.func52, Try.ntmps52
    go_wp2
    refine wp_loop_rounds 1 ?_
    rw [rounds_succ]
    go_wp2_with fail
    refine (as_bool (tf_no HL.out).symm (specLatOk_any N A ca xs _ (HA.out _ (below_trans (below_alloc _ _) (below_alloc _ _))) hu hn)).mono ?_
    rintro e w1 ⟨rfl, hb1⟩
    go_wp2
    go_ret
    refine ⟨_, rfl, ?_, below_trans (below_trans (below_alloc _ _) (below_alloc _ _)) hb1⟩
    rw [edgesV_no HL.out]
    have h0 := World.ownsRow_lit (base := w.heap.size) (e := 70) (size := 2) (w.alloc (.cells #[.int .i64 N, .slice A xs.length ca] 26)) #[] 0 (by simp) (by simp) (by simp)
    have h1 := owns_grow h0 hb1
    simpa [ez] using h1
end Go.Proofs.Ytionnalaickcjaa
