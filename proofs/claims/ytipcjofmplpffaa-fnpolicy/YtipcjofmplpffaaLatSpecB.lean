/-
  The model's bound of two labels.
-/
import Derived.Test.YtipcjofmplpffaaLatSpec
namespace Go.Proofs.Ytipcjofmplpffaa
open Go.RowKit

set_option maxHeartbeats 2000000 in
theorem l01Bound_any (A : Option Addr) (ca : Nat) (xs : List Nat) (a b : Nat) (up : Bool) (w : World) (hA : Rd w A (us xs)) (hu : U64 xs) (hn : xs.length ≤ 16) (ha : a < xs.length) (hb : b < xs.length) :
    Calls Try.prog 81 #[.agg #[.int .i64 (xs.length : Int), .slice A xs.length ca], .int .i64 (a : Int), .int .i64 (b : Int), .bool up] w fun e w' => e = .returned (.int .i64 (bound xs up a b)) ∧ Below w.heap.size w w' := by
  have HA := Lib.hid (fun W (h : Below w.heap.size w W) => hA.below h)
  clear hA
  unfold bound
  go_enter Try.func81, Try.ntmps81
  go_wp2
  go_loopw [9] (fun i wr => ∃ k : Nat, k ≤ xs.length ∧ i = .int .i64 k ∧ Hid (∀ c, c < k → isB xs up a b c = false) ∧ Own wr w.heap.size 26 [.int .i64 (xs.length : Int), .slice A xs.length ca] ∧ Below w.heap.size w wr) (fun i _ => xs.length - (intOf i).toNat)
  case atStart => exact ⟨0, Nat.zero_le _, rfl, Lib.hid (fun c hc => by omega), Own.new _ _ _, below_alloc _ _⟩
  case round =>
    obtain ⟨k, hk, rfl, hpre, hown, hbel⟩ := hrel
    obtain ⟨c0, c1⟩ := hown.two
    by_cases hlt : k < xs.length
    · go_wp2_with fail
      cases hsa : side xs up a k
      case' false =>
        refine (as_bool hsa (side_any _ A ca xs a k up _ (HA.out _ hbel) hu hn ha hlt)).mono ?_
        rintro e wf ⟨rfl, hbf⟩
        have hof := hown.grow hbf
        replace hbf := below_trans hbel hbf
        have HF : Hid (false = fits xs up a b k) := by simp [Hid, fits, hsa]
        clear c0 c1 hown hbel hsa
        obtain ⟨c0, c1⟩ := hof.two
        go_wp2
      case' true =>
        refine (as_bool hsa (side_any _ A ca xs a k up _ (HA.out _ hbel) hu hn ha hlt)).mono ?_
        rintro e w1 ⟨rfl, hb1⟩
        have ho1 := hown.grow hb1
        replace hb1 := below_trans hbel hb1
        clear c0 c1 hown hbel
        obtain ⟨c0, c1⟩ := ho1.two
        go_wp2_with fail
        cases hsb : side xs up b k
        case' false =>
          refine (as_bool hsb (side_any _ A ca xs b k up _ (HA.out _ hb1) hu hn hb hlt)).mono ?_
          have HF : Hid (false = fits xs up a b k) := by simp [Hid, fits, hsb]
        case' true =>
          refine (as_bool hsb (side_any _ A ca xs b k up _ (HA.out _ hb1) hu hn hb hlt)).mono ?_
          have HF : Hid (true = fits xs up a b k) := by simp [Hid, fits, hsa, hsb]
        all_goals
          rintro e wf ⟨rfl, hbf⟩
          have hof := ho1.grow hbf
          replace hbf := below_trans hb1 hbf
          clear c0 c1 ho1 hb1 hsa hsb
          obtain ⟨c0, c1⟩ := hof.two
          go_wp2
      all_goals
        clear c0 c1
        go_loopw [10, 11] (fun t i wr' => ∃ (j : Nat) (f : Bool), j ≤ xs.length ∧ i = .int .i64 j ∧ t = .bool f ∧ Hid (f = fitsTo xs up a b k j) ∧ Own wr' w.heap.size 26 [.int .i64 (xs.length : Int), .slice A xs.length ca] ∧ Below w.heap.size w wr') (fun _ i _ => xs.length - (intOf i).toNat)
        case atStart => exact ⟨0, _, Nat.zero_le _, rfl, rfl, by rw [fitsTo_zero]; exact HF, hof, hbf⟩
        case round =>
          obtain ⟨j, f, hj, rfl, rfl, hf, hown, hbel⟩ := hrel
          clear hof hbf HF
          obtain ⟨c0, c1⟩ := hown.two
          cases f
          · -- it does not fit: on to the next label
            have hno : isB xs up a b k = false := fitsTo_mono hj hf.out.symm
            have HNO := Lib.hid hno
            clear hno
            by_cases hjl : j < xs.length
            all_goals
              go_wp2
              go_roundw
              case rel => exact ⟨k + 1, by omega, by go_num, Lib.hid (all_next hpre.out HNO.out), hown, hbel⟩
              case measure => simp [intOf]; omega
          · by_cases hjl : j < xs.length
            · go_wp2_with fail
              cases hsa : side xs up a j
              · refine (as_bool hsa (side_any _ A ca xs a j up _ (HA.out _ hbel) hu hn ha hjl)).mono ?_
                rintro e w1 ⟨rfl, hb1⟩
                have ho1 := hown.grow hb1
                replace hb1 := below_trans hbel hb1
                clear c0 c1 hown hbel
                go_wp2
                go_roundw
                case rel => exact ⟨j + 1, true, by omega, by go_num, rfl, Lib.hid (by rw [fitsTo_succ, ← hf.out]; simp [holds, hsa]), ho1, hb1⟩
                case measure => simp [intOf]; omega
              · refine (as_bool hsa (side_any _ A ca xs a j up _ (HA.out _ hbel) hu hn ha hjl)).mono ?_
                rintro e w1 ⟨rfl, hb1⟩
                have ho1 := hown.grow hb1
                replace hb1 := below_trans hbel hb1
                clear c0 c1 hown hbel
                obtain ⟨c0, c1⟩ := ho1.two
                go_wp2_with fail
                cases hsb : side xs up b j
                · refine (as_bool hsb (side_any _ A ca xs b j up _ (HA.out _ hb1) hu hn hb hjl)).mono ?_
                  rintro e w2 ⟨rfl, hb2⟩
                  have ho2 := ho1.grow hb2
                  replace hb2 := below_trans hb1 hb2
                  clear c0 c1 ho1 hb1
                  go_wp2
                  go_roundw
                  case rel => exact ⟨j + 1, true, by omega, by go_num, rfl, Lib.hid (by rw [fitsTo_succ, ← hf.out]; simp [holds, hsb]), ho2, hb2⟩
                  case measure => simp [intOf]; omega
                · refine (as_bool hsb (side_any _ A ca xs b j up _ (HA.out _ hb1) hu hn hb hjl)).mono ?_
                  rintro e w2 ⟨rfl, hb2⟩
                  have ho2 := ho1.grow hb2
                  replace hb2 := below_trans hb1 hb2
                  clear c0 c1 ho1 hb1
                  obtain ⟨c0, c1⟩ := ho2.two
                  go_wp2_with fail
                  cases hsc : side xs up k j
                  all_goals
                    refine (as_bool hsc (side_any _ A ca xs k j up _ (HA.out _ hb2) hu hn hlt hjl)).mono ?_
                    rintro e w3 ⟨rfl, hb3⟩
                    have ho3 := ho2.grow hb3
                    replace hb3 := below_trans hb2 hb3
                    clear c0 c1 ho2 hb2
                    go_wp2
                    go_roundw
                    case rel => exact ⟨j + 1, _, by omega, by go_num, rfl, Lib.hid (by rw [fitsTo_succ, ← hf.out]; simp [holds, hsa, hsb, hsc]), ho3, hb3⟩
                    case measure => simp [intOf]; omega
            · go_wp2
              go_ret
              have hjn : j = xs.length := by omega
              exact ⟨ret_int (first_at hlt (by rw [← fitsTo_all, ← hjn]; exact hf.out.symm) hpre.out).symm, hbel⟩
    · go_wp2
      go_ret
      exact ⟨ret_int (first_none (fun c hc => hpre.out c (by omega))).symm, hbel⟩
end Go.Proofs.Ytipcjofmplpffaa
