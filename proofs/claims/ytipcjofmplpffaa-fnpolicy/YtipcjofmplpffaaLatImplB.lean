/-
  What the program's own tests of a relation return: order, bounds.
-/
import Derived.Test.YtipcjofmplpffaaLatImpl
namespace Go.Proofs.Ytipcjofmplpffaa
open Go.RowKit

theorem all_next {p : Nat → Prop} {k : Nat} (h : ∀ c, c < k → p c) (hk : p k) : ∀ c, c < k + 1 → p c := fun c hc => by
  rcases Nat.lt_succ_iff_lt_or_eq.1 hc with h' | h'
  · exact h c h'
  · subst h'; exact hk

set_option maxHeartbeats 1000000 in
theorem rowsOrdered_any (A : Option Addr) (ca : Nat) (xs : List Nat) (w : World) (hA : Rd w A (us xs)) (hu : U64 xs) (hs : Small xs) (hn : xs.length ≤ 16) :
    Calls Try.prog 83 #[.slice A xs.length ca] w fun e w' => e = .returned (.bool (tf (Ord xs))) ∧ Below w.heap.size w w' := by
  have HS := Lib.hid hs
  clear hs
  go_enter Try.func83, Try.ntmps83
  go_wp2
  go_loopw [7] (fun i wr => ∃ k : Nat, k ≤ xs.length ∧ i = .int .i64 k ∧ Hid (∀ a, a < k → le xs a a = true ∧ ∀ b, b < xs.length → OrdAt xs a b) ∧ Below w.heap.size w wr) (fun i _ => xs.length - (intOf i).toNat)
  case atStart => exact ⟨0, Nat.zero_le _, rfl, Lib.hid (fun c hc => by omega), Below.refl _ _⟩
  case round =>
    obtain ⟨k, hk, rfl, hpre, hbel⟩ := hrel
    by_cases hlt : k < xs.length
    · obtain ⟨ad, rfl, hb1, hc1⟩ := hA k _ (us_at hlt)
      have hrow : row xs k < 18446744073709551616 := hu.at k
      have hc2 : wr.cell? (ad.add k) = some (.int .u64 (row xs k : Int)) := (hbel.cell (by rw [add_block]; exact hb1)).trans hc1
      clear hc1
      cases hbit : (row xs k).testBit k with
      | false =>
        go_wp2_with (go_at_call 86; refine (hasLabel_any (row xs k) k _ hrow (by omega)).mono ?_; rintro e w' ⟨rfl, rfl⟩)
        go_ret
        exact ⟨ret_bool (tf_no (fun h => by have := (h k hlt).1; unfold le at this; rw [hbit] at this; cases this)), hbel⟩
      | true =>
        go_wp2_with (go_at_call 86; refine (hasLabel_any (row xs k) k _ hrow (by omega)).mono ?_; rintro e w' ⟨rfl, rfl⟩)
        clear hc2
        have HB := Lib.hid hbit
        clear hbit
        go_loopw [19] (fun i wr' => ∃ j : Nat, j ≤ xs.length ∧ i = .int .i64 j ∧ Hid (∀ b, b < j → OrdAt xs k b) ∧ Below w.heap.size w wr') (fun i _ => xs.length - (intOf i).toNat)
        case atStart => exact ⟨0, Nat.zero_le _, rfl, Lib.hid (fun c hc => by omega), hbel⟩
        case round =>
          obtain ⟨j, hj, rfl, hpre2, hbel2⟩ := hrel
          clear hbel
          by_cases hlt2 : j < xs.length
          · obtain ⟨ad', e', hb3, hc3⟩ := hA j _ (us_at hlt2)
            obtain rfl : ad = ad' := by injection e'
            have hrow2 : row xs j < 18446744073709551616 := hu.at j
            obtain ⟨ad'', e'', _, hc1⟩ := hA k _ (us_at hlt)
            obtain rfl : ad = ad'' := by injection e''
            clear e' e''
            have hk2 : ∀ u : Bel wr, u.w.cell? (ad.add k) = some (.int .u64 (row xs k : Int)) := fun u => ((below_trans hbel2 u.ok).cell (by rw [add_block]; exact hb1)).trans hc1
            have hj2 : ∀ u : Bel wr, u.w.cell? (ad.add j) = some (.int .u64 (row xs j : Int)) := fun u => ((below_trans hbel2 u.ok).cell (by rw [add_block]; exact hb1)).trans hc3
            have hk3 : wr.cell? (ad.add k) = some (.int .u64 (row xs k : Int)) := hk2 ⟨wr, Below.refl _ _⟩
            clear hc1 hc3
            by_cases hkj : k = j
            · have ht : ((k : Int) == (j : Int)) = true := by simp [hkj]
              have HK := Lib.hid hkj
              clear hkj
              go_wp2
              go_roundw
              case rel => exact ⟨j + 1, by omega, by go_num, Lib.hid (all_next hpre2.out ⟨fun h => absurd HK.out h, fun c _ _ h => by rw [HK.out]; exact h⟩), hbel2⟩
              case measure => simp [intOf]; omega
            · have ht : ((k : Int) == (j : Int)) = false := by rw [beq_eq_false_iff_ne]; omega
              have HK := Lib.hid hkj
              clear hkj
              cases hbit : (row xs k).testBit j with
              | false =>
                go_wp2_with (go_at_call 86; refine (hasLabel_any (row xs k) j _ hrow (by omega)).mono ?_; rintro e w' ⟨rfl, rfl⟩)
                go_roundw
                case rel => exact ⟨j + 1, by omega, by go_num, Lib.hid (all_next hpre2.out ((ord_iff hu HS.out hlt2).2 fun _ h => by unfold le at h; rw [hbit] at h; cases h)), hbel2⟩
                case measure => simp [intOf]; omega
              | true =>
                go_wp2_with (go_at_call 86; refine (hasLabel_any (row xs k) j _ hrow (by omega)).mono ?_; rintro e w' ⟨rfl, rfl⟩)
                clear hk3
                have HBJ := Lib.hid hbit
                clear hbit
                cases hbit2 : (row xs j).testBit k with
                | true =>
                  refine wp_region_bel (by kernel_rfl) (by kernel_rfl) ?_
                  repeat (go_big_quiet_step ((go_at_call 86; exact bel_of_same _ (hasLabel_is (row xs j) k true _ hrow2 (by omega) hbit2))))
                  refine wpQuiet_nil ?_
                  rintro _ ⟨u, rfl⟩
                  go_wp2
                  go_ret
                  exact ⟨ret_bool (tf_no (fun h => by have := ((h k hlt).2 j hlt2).1 HK.out HBJ.out; unfold le at this; rw [hbit2] at this; cases this)), below_trans hbel2 u.ok⟩
                | false =>
                  have hand := and_not (row xs j) (row xs k) hrow2 hrow
                  by_cases hz : (row xs j &&& (18446744073709551615 - row xs k) : Nat) = 0
                  · have ht2 : (bits .andNot .u64 (row xs j : Int) (row xs k : Int) != 0) = false := by rw [hand, hz]; rfl
                    have HZ := Lib.hid hz
                    clear hand hz
                    refine wp_region_bel (by kernel_rfl) (by kernel_rfl) ?_
                    repeat (go_big_quiet_step ((go_at_call 86; exact bel_of_same _ (hasLabel_is (row xs j) k false _ hrow2 (by omega) hbit2))))
                    refine wpQuiet_nil ?_
                    rintro _ ⟨u, rfl⟩
                    go_wp2
                    go_roundw
                    case rel => exact ⟨j + 1, by omega, by go_num, Lib.hid (all_next hpre2.out ((ord_iff hu HS.out hlt2).2 fun _ _ => ⟨hbit2, HZ.out⟩)), below_trans hbel2 u.ok⟩
                    case measure => simp [intOf]; omega
                  · have ht2 : (bits .andNot .u64 (row xs j : Int) (row xs k : Int) != 0) = true := by rw [hand, bne_iff_ne]; omega
                    have HZ := Lib.hid hz
                    clear hand hz
                    refine wp_region_bel (by kernel_rfl) (by kernel_rfl) ?_
                    repeat (go_big_quiet_step ((go_at_call 86; exact bel_of_same _ (hasLabel_is (row xs j) k false _ hrow2 (by omega) hbit2))))
                    refine wpQuiet_nil ?_
                    rintro _ ⟨u, rfl⟩
                    go_wp2
                    go_ret
                    exact ⟨ret_bool (tf_no (fun h => HZ.out ((ord_iff hu HS.out hlt2).1 ((h k hlt).2 j hlt2) HK.out HBJ.out).2)), below_trans hbel2 u.ok⟩
          · go_wp2
            go_roundw
            case rel => exact ⟨k + 1, by omega, by go_num, Lib.hid (all_next hpre.out ⟨HB.out, fun b hb => hpre2.out b (by omega)⟩), hbel2⟩
            case measure => simp [intOf]; omega
    · go_wp2
      go_ret
      exact ⟨ret_bool (tf_yes (fun a ha => hpre.out a (by omega))), hbel⟩
end Go.Proofs.Ytipcjofmplpffaa
