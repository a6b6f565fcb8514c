/-
  The model's LatOk.
-/
import Derived.Test.YtipcjofmplpffaaLatSpecB
namespace Go.Proofs.Ytipcjofmplpffaa
open Go.RowKit

/-- what the first loops ask of label a -/
def RowOk (xs : List Nat) (a : Nat) : Prop := row xs a < 2 ^ xs.length ∧ le xs a a = true ∧ ∀ b, b < xs.length → OrdAt xs a b
def BothB (xs : List Nat) (a b : Nat) : Prop := 0 ≤ bound xs true a b ∧ 0 ≤ bound xs false a b
theorem latP_of {xs : List Nat} (h1 : 1 ≤ (xs.length : Int)) (h2 : (xs.length : Int) ≤ 16) (hr : ∀ a, a < xs.length → RowOk xs a) (hb : ∀ a, a < xs.length → ∀ b, b < a → BothB xs a b) : LatP xs.length xs :=
  ⟨⟨h1, h2, rfl⟩, fun a ha => (hr a ha).1, fun a ha => (hr a ha).2, fun a ha b hb' => (hb a ha b hb').1, fun a ha b hb' => (hb a ha b hb').2⟩
theorem LatP.rowOk {N : Int} {xs : List Nat} (h : LatP N xs) {a : Nat} (ha : a < xs.length) : RowOk xs a := ⟨h.2.1 a ha, (h.2.2.1 a ha).1, (h.2.2.1 a ha).2⟩

set_option maxRecDepth 100000 in
set_option maxHeartbeats 4000000 in
theorem specLatOk_any (N : Int) (A : Option Addr) (ca : Nat) (xs : List Nat) (w : World) (hA : Rd w A (us xs)) (hu : U64 xs) (hn : xs.length ≤ 1048576) :
    Calls Try.prog 56 #[.agg #[.int .i64 N, .slice A xs.length ca]] w fun e w' => e = .returned (.bool (tf (LatP N xs))) ∧ Below w.heap.size w w' := by
  by_cases h1 : N < 1
  · go_enter Try.func56, Try.ntmps56
    go_wp2
    go_ret
    exact ⟨ret_bool (tf_no (by rintro ⟨⟨h, _⟩, _⟩; omega)), below_alloc _ _⟩
  by_cases h2 : 16 < N
  · go_enter Try.func56, Try.ntmps56
    go_wp2
    go_ret
    exact ⟨ret_bool (tf_no (by rintro ⟨⟨_, h, _⟩, _⟩; omega)), below_alloc _ _⟩
  by_cases h3 : (xs.length : Int) = N
  · subst h3
    have hne : ((xs.length : Int) != (xs.length : Int)) = false := by simp
    obtain ⟨ad, rfl, hcs⟩ := hA.nat (by omega)
    have HC := Lib.hid hcs
    have HA := Lib.hid (fun W (h : Below w.heap.size w W) => hA.below h)
    clear hcs hA
    go_enter Try.func56, Try.ntmps56
    go_wp2
    go_loopw [3] (fun i wr => ∃ k : Nat, k ≤ xs.length ∧ i = .int .i64 k ∧ Hid (∀ c, c < k → RowOk xs c) ∧ Own wr w.heap.size 26 [.int .i64 (xs.length : Int), .slice (some ad) xs.length ca] ∧ Below w.heap.size w wr) (fun i _ => xs.length - (intOf i).toNat)
    case atStart => exact ⟨0, Nat.zero_le _, rfl, Lib.hid (fun c hc => by omega), Own.new _ _ _, below_alloc _ _⟩
    case round =>
      obtain ⟨k, hk, rfl, hpre, hown, hbel⟩ := hrel
      obtain ⟨c0, c1⟩ := hown.two
      by_cases hlt : k < xs.length
      · have hrow : row xs k < 18446744073709551616 := hu.at k
        have g0 : ∀ u : Bel wr, u.w.cell? ⟨w.heap.size, 0, none⟩ = some (.int .i64 (xs.length : Int)) := fun u => (hown.grow u.ok).two.1
        have g1 : ∀ u : Bel wr, u.w.cell? ⟨w.heap.size, 1, none⟩ = some (.slice (some ad) xs.length ca) := fun u => (hown.grow u.ok).two.2
        have gk : ∀ u : Bel wr, u.w.cell? (ad.add k) = some (.int .u64 (row xs k : Int)) := fun u => HC.out _ (below_trans hbel u.ok) k hlt
        go_wp2
        clear c0 c1
        cases hkk : (row xs k).testBit k
        · refine wp_region_bel (by kernel_rfl) (by kernel_rfl) ?_
          repeat (go_big_quiet_step ((go_at_call 79; exact bel_of_same _ (l01Bit_is (row xs k) k false _ hrow (by omega) hkk))))
          refine wpQuiet_nil ?_
          rintro _ ⟨u, rfl⟩
          go_wp2
          go_ret
          exact ⟨ret_bool (tf_no (fun h => by have := (h.rowOk hlt).2.1; unfold le at this; rw [hkk] at this; cases this)), below_trans hbel u.ok⟩
        · by_cases hsm : row xs k < 2 ^ xs.length
          · have hd : decide ((2 : Int) ^ xs.length ≤ (row xs k : Int)) = false := by
              rw [decide_eq_false_iff_not, Int.not_le]
              have := Int.ofNat_lt.2 hsm
              simpa using this
            have HSM := Lib.hid hsm
            clear hsm
            refine wp_region_bel (by kernel_rfl) (by kernel_rfl) ?_
            repeat (go_big_quiet_step (first | (go_at_call 79; exact bel_of_same _ (l01Bit_is (row xs k) k true _ hrow (by omega) hkk)) | (go_at_call 80; exact bel_of_same _ (l01Power_any xs.length _ (by omega)))))
            refine wpQuiet_nil ?_
            rintro _ ⟨u, rfl⟩
            go_wp2
            have HKK := Lib.hid hkk
            have hown1 := hown.grow u.ok
            have hbel1 := below_trans hbel u.ok
            clear hd g0 g1 gk hkk hown hbel
            go_loopw [4] (fun i wr' => ∃ j : Nat, j ≤ xs.length ∧ i = .int .i64 j ∧ Hid (∀ b, b < j → OrdAt xs k b) ∧ Own wr' w.heap.size 26 [.int .i64 (xs.length : Int), .slice (some ad) xs.length ca] ∧ Below w.heap.size w wr') (fun i _ => xs.length - (intOf i).toNat)
            case atStart => exact ⟨0, Nat.zero_le _, rfl, Lib.hid (fun c hc => by omega), hown1, hbel1⟩
            case round =>
              clear hown1 hbel1
              obtain ⟨j, hj, rfl, hpre2, hown, hbel⟩ := hrel
              obtain ⟨c0, c1⟩ := hown.two
              by_cases hlt2 : j < xs.length
              · have hrow2 : row xs j < 18446744073709551616 := hu.at j
                have gk : wr.cell? (ad.add k) = some (.int .u64 (row xs k : Int)) := HC.out _ hbel k hlt
                have gj : wr.cell? (ad.add j) = some (.int .u64 (row xs j : Int)) := HC.out _ hbel j hlt2
                by_cases hkj : k = j
                case' pos =>
                  have ht : ((k : Int) != (j : Int)) = false := by rw [hkj]; simp
                  have HP : Hid (k ≠ j → le xs k j = true → le xs j k = false) := Lib.hid (fun h => absurd hkj h)
                  clear hkj
                  go_wp2
                case' neg =>
                  have ht : ((k : Int) != (j : Int)) = true := by rw [bne_iff_ne]; omega
                  have HK := Lib.hid hkj
                  clear hkj
                  go_wp2_with fail
                  cases hb1 : (row xs k).testBit j
                  case' false =>
                    refine (l01Bit_is (row xs k) j false _ hrow (by omega) hb1).mono ?_
                    rintro e w' ⟨rfl, rfl⟩
                    have HP : Hid (k ≠ j → le xs k j = true → le xs j k = false) := Lib.hid (fun _ h => by unfold le at h; rw [hb1] at h; cases h)
                    clear hb1
                    go_wp2
                  case' true =>
                    refine (l01Bit_is (row xs k) j true _ hrow (by omega) hb1).mono ?_
                    rintro e w' ⟨rfl, rfl⟩
                    have HB1 := Lib.hid hb1
                    clear hb1
                    go_wp2_with fail
                    cases hb2 : (row xs j).testBit k
                    case true =>
                      refine (l01Bit_is (row xs j) k true _ hrow2 (by omega) hb2).mono ?_
                      rintro e w' ⟨rfl, rfl⟩
                      go_wp2
                      go_ret
                      exact ⟨ret_bool (tf_no (fun h => by have := ((h.rowOk hlt).2.2 j hlt2).1 HK.out HB1.out; unfold le at this; rw [hb2] at this; cases this)), hbel⟩
                    case' false =>
                      refine (l01Bit_is (row xs j) k false _ hrow2 (by omega) hb2).mono ?_
                      rintro e w' ⟨rfl, rfl⟩
                      have HP : Hid (k ≠ j → le xs k j = true → le xs j k = false) := Lib.hid (fun _ _ => hb2)
                      clear hb2
                      go_wp2
                all_goals
                  clear gk gj c0 c1
                  go_loopw [5] (fun i wr' => ∃ m : Nat, m ≤ xs.length ∧ i = .int .i64 m ∧ Hid (∀ c, c < m → le xs k j = true → le xs j c = true → le xs k c = true) ∧ Own wr' w.heap.size 26 [.int .i64 (xs.length : Int), .slice (some ad) xs.length ca] ∧ Below w.heap.size w wr') (fun i _ => xs.length - (intOf i).toNat)
                  case atStart => exact ⟨0, Nat.zero_le _, rfl, Lib.hid (fun c hc => by omega), hown, hbel⟩
                  case round =>
                    clear hown hbel
                    obtain ⟨m, hm, rfl, hpre3, hown, hbel⟩ := hrel
                    obtain ⟨c0, c1⟩ := hown.two
                    by_cases hlt3 : m < xs.length
                    · have gk : wr.cell? (ad.add k) = some (.int .u64 (row xs k : Int)) := HC.out _ hbel k hlt
                      have gj : wr.cell? (ad.add j) = some (.int .u64 (row xs j : Int)) := HC.out _ hbel j hlt2
                      go_wp2_with fail
                      cases hb1 : (row xs k).testBit j
                      · refine (l01Bit_is (row xs k) j false _ hrow (by omega) hb1).mono ?_
                        rintro e w' ⟨rfl, rfl⟩
                        go_wp2
                        go_roundw
                        case rel => exact ⟨m + 1, by omega, by go_num, Lib.hid (all_next hpre3.out (fun h => by unfold le at h; rw [hb1] at h; cases h)), hown, hbel⟩
                        case measure => simp [intOf]; omega
                      · refine (l01Bit_is (row xs k) j true _ hrow (by omega) hb1).mono ?_
                        rintro e w' ⟨rfl, rfl⟩
                        go_wp2_with fail
                        cases hb2 : (row xs j).testBit m
                        · refine (l01Bit_is (row xs j) m false _ hrow2 (by omega) hb2).mono ?_
                          rintro e w' ⟨rfl, rfl⟩
                          go_wp2
                          go_roundw
                          case rel => exact ⟨m + 1, by omega, by go_num, Lib.hid (all_next hpre3.out (fun _ h => by unfold le at h; rw [hb2] at h; cases h)), hown, hbel⟩
                          case measure => simp [intOf]; omega
                        · refine (l01Bit_is (row xs j) m true _ hrow2 (by omega) hb2).mono ?_
                          rintro e w' ⟨rfl, rfl⟩
                          go_wp2_with fail
                          cases hb3 : (row xs k).testBit m
                          · refine (l01Bit_is (row xs k) m false _ hrow (by omega) hb3).mono ?_
                            rintro e w' ⟨rfl, rfl⟩
                            go_wp2
                            go_ret
                            exact ⟨ret_bool (tf_no (fun h => by have := ((h.rowOk hlt).2.2 j hlt2).2 m hlt3 hb1 hb2; unfold le at this; rw [hb3] at this; cases this)), hbel⟩
                          · refine (l01Bit_is (row xs k) m true _ hrow (by omega) hb3).mono ?_
                            rintro e w' ⟨rfl, rfl⟩
                            go_wp2
                            go_roundw
                            case rel => exact ⟨m + 1, by omega, by go_num, Lib.hid (all_next hpre3.out (fun _ _ => hb3)), hown, hbel⟩
                            case measure => simp [intOf]; omega
                    · go_wp2
                      go_roundw
                      case rel => exact ⟨j + 1, by omega, by go_num, Lib.hid (all_next hpre2.out ⟨HP.out, fun c hc => hpre3.out c (by omega)⟩), hown, hbel⟩
                      case measure => simp [intOf]; omega
              · go_wp2
                go_roundw
                case rel => exact ⟨k + 1, by omega, by go_num, Lib.hid (all_next hpre.out ⟨HSM.out, HKK.out, fun b hb => hpre2.out b (by omega)⟩), hown, hbel⟩
                case measure => simp [intOf]; omega
          · have hd : decide ((2 : Int) ^ xs.length ≤ (row xs k : Int)) = true := by
              rw [decide_eq_true_iff]
              have := Int.ofNat_le.2 (Nat.le_of_not_lt hsm)
              simpa using this
            have HSM := Lib.hid hsm
            clear hsm
            refine wp_region_bel (by kernel_rfl) (by kernel_rfl) ?_
            repeat (go_big_quiet_step (first | (go_at_call 79; exact bel_of_same _ (l01Bit_is (row xs k) k true _ hrow (by omega) hkk)) | (go_at_call 80; exact bel_of_same _ (l01Power_any xs.length _ (by omega)))))
            refine wpQuiet_nil ?_
            rintro _ ⟨u, rfl⟩
            go_wp2
            go_ret
            exact ⟨ret_bool (tf_no (fun h => HSM.out (h.rowOk hlt).1)), below_trans hbel u.ok⟩
      · go_wp2
        clear c0 c1
        have HR := Lib.hid (fun a (ha : a < xs.length) => hpre.out a (by omega))
        clear hpre
        go_loopw [6] (fun i wr' => ∃ k : Nat, k ≤ xs.length ∧ i = .int .i64 k ∧ Hid (∀ a, a < k → ∀ b, b < a → BothB xs a b) ∧ Own wr' w.heap.size 26 [.int .i64 (xs.length : Int), .slice (some ad) xs.length ca] ∧ Below w.heap.size w wr') (fun i _ => xs.length - (intOf i).toNat)
        case atStart => exact ⟨0, Nat.zero_le _, rfl, Lib.hid (fun c hc => by omega), hown, hbel⟩
        case round =>
          clear hown hbel hlt hk
          obtain ⟨k, hk, rfl, hpre, hown, hbel⟩ := hrel
          obtain ⟨c0, c1⟩ := hown.two
          by_cases hlt : k < xs.length
          · go_wp2
            clear c0 c1
            go_loopw [7] (fun i wr' => ∃ j : Nat, j ≤ k ∧ i = .int .i64 j ∧ Hid (∀ b, b < j → BothB xs k b) ∧ Own wr' w.heap.size 26 [.int .i64 (xs.length : Int), .slice (some ad) xs.length ca] ∧ Below w.heap.size w wr') (fun i _ => k - (intOf i).toNat)
            case atStart => exact ⟨0, Nat.zero_le _, rfl, Lib.hid (fun c hc => by omega), hown, hbel⟩
            case round =>
              clear hown hbel
              obtain ⟨j, hj, rfl, hpre2, hown, hbel⟩ := hrel
              obtain ⟨c0, c1⟩ := hown.two
              by_cases hlt2 : j < k
              · go_wp2_with fail
                by_cases hup : bound xs true k j < 0
                · have hd : decide (bound xs true k j < 0) = true := by simpa using hup
                  have HU := Lib.hid hup
                  clear hup
                  refine (l01Bound_any (some ad) ca xs k j true _ (HA.out _ hbel) hu (by omega) hlt (by omega)).mono ?_
                  rintro e w1 ⟨rfl, hb1⟩
                  have ho1 := hown.grow hb1
                  replace hb1 := below_trans hbel hb1
                  clear c0 c1 hown hbel
                  go_wp2
                  go_ret
                  exact ⟨ret_bool (tf_no (fun h => by have := h.2.2.2.1 k hlt j hlt2; have := HU.out; omega)), hb1⟩
                · have hd : decide (bound xs true k j < 0) = false := by simpa using hup
                  have HU := Lib.hid hup
                  clear hup
                  refine (l01Bound_any (some ad) ca xs k j true _ (HA.out _ hbel) hu (by omega) hlt (by omega)).mono ?_
                  rintro e w1 ⟨rfl, hb1⟩
                  have ho1 := hown.grow hb1
                  replace hb1 := below_trans hbel hb1
                  clear c0 c1 hown hbel
                  obtain ⟨c0, c1⟩ := ho1.two
                  go_wp2_with fail
                  refine (l01Bound_any (some ad) ca xs k j false _ (HA.out _ hb1) hu (by omega) hlt (by omega)).mono ?_
                  rintro e w2 ⟨rfl, hb2⟩
                  have ho2 := ho1.grow hb2
                  replace hb2 := below_trans hb1 hb2
                  clear c0 c1 ho1 hb1 hd
                  by_cases hdn : bound xs false k j < 0
                  · have hd : decide (bound xs false k j < 0) = true := by simpa using hdn
                    have HD := Lib.hid hdn
                    clear hdn
                    go_wp2
                    go_ret
                    exact ⟨ret_bool (tf_no (fun h => by have := h.2.2.2.2 k hlt j hlt2; have := HD.out; omega)), hb2⟩
                  · have hd : decide (bound xs false k j < 0) = false := by simpa using hdn
                    have HD := Lib.hid hdn
                    clear hdn
                    go_wp2
                    go_roundw
                    case rel => exact ⟨j + 1, by omega, by go_num, Lib.hid (all_next hpre2.out ⟨by have := HU.out; omega, by have := HD.out; omega⟩), ho2, hb2⟩
                    case measure => simp [intOf]; omega
              · go_wp2
                go_roundw
                case rel => exact ⟨k + 1, by omega, by go_num, Lib.hid (all_next hpre.out (fun b hb => hpre2.out b (by omega))), hown, hbel⟩
                case measure => simp [intOf]; omega
          · go_wp2
            go_ret
            exact ⟨ret_bool (tf_yes (latP_of (by omega) (by omega) HR.out (fun a ha => hpre.out a (by omega)))), hbel⟩
  · have hne : ((xs.length : Int) != N) = true := by rw [bne_iff_ne]; exact h3
    go_enter Try.func56, Try.ntmps56
    go_wp2
    go_ret
    exact ⟨ret_bool (tf_no (by rintro ⟨⟨_, _, h⟩, _⟩; exact h3 h)), below_alloc _ _⟩
end Go.Proofs.Ytipcjofmplpffaa
