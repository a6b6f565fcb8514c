/-
  The program's WideMean.
-/
import Derived.Test.YtlmlckgnmkjkdaaWideA
import Derived.Test.YtlmlckgnmkjkdaaWideDiv
namespace Go.Proofs.Ytlmlckgnmkjkdaa
open Go.RowKit

set_option maxHeartbeats 1000000 in
theorem implWideMean_bad (ah al n : Int) (w : World) (hn : ¬ (1 ≤ n ∧ n ≤ 1000000)) :
    Calls Try.prog 129 #[.agg #[.int .i64 ah, .int .u64 al], .int .i64 n] w (IntRes w 0 false) := by
  by_cases h1 : n < 1
  · go_enter Try.func129, Try.ntmps129
    go_wp2
    go_ret2
    exact ⟨rfl, below1 _ _⟩
  · have h2 : 1000000 < n := by omega
    go_enter Try.func129, Try.ntmps129
    go_wp2
    go_ret2
    exact ⟨rfl, below1 _ _⟩


theorem divide_z (z n : Int) (hz : 0 ≤ z) (hw : Wr z) (hn : 1 ≤ n) (hn2 : n ≤ 1000000) : ∃ a b c : Nat,
    (∀ W, Calls Try.prog 138 #[.int .u64 (IntKind.u64.wrap (hi z)), .int .u64 (lo z), .int .u64 n] W (ThreeRes W a b c)) ∧ z / n = (a : Int) * 18446744073709551616 + b ∧ b < 18446744073709551616 := by
  obtain ⟨N, rfl⟩ := Int.eq_ofNat_of_zero_le (show 0 ≤ n by omega)
  obtain ⟨Z, rfl⟩ := Int.eq_ofNat_of_zero_le hz
  obtain ⟨h, l, e1, e2, ez, hh, hl⟩ : ∃ h l : Nat, IntKind.u64.wrap (hi Z) = (h : Int) ∧ lo Z = (l : Int) ∧ Z = h * 18446744073709551616 + l ∧ h < 18446744073709551616 ∧ l < 18446744073709551616 := by
    rw [wrapU, hi_wr hw]; unfold Wr at hw; unfold lo
    exact ⟨Z / 18446744073709551616, Z % 18446744073709551616, by omega, by omega, by omega, by omega, by omega⟩
  have hN : 0 < N := by omega
  refine ⟨h / N, (h % N * 18446744073709551616 + l) / N, (h % N * 18446744073709551616 + l) % N, fun W => ?_, ?_, halves_lt hN hl⟩
  · rw [e1, e2]; exact divideHalves_any h l N W hN (by omega) hh hl
  · rw [← Int.natCast_ediv, ez, halves_sum h l N hN]
    simp

theorem floor_flip (x n : Int) (hn : 1 ≤ n) : x / n = -1 - (-1 - x) / n := by
  have e := Int.mul_ediv_add_emod (-1 - x) n
  have h0 := Int.emod_nonneg (-1 - x) (show n ≠ 0 by omega)
  have h1 := Int.emod_lt_of_pos (-1 - x) (show 0 < n by omega)
  generalize (-1 - x) / n = q at *
  generalize (-1 - x) % n = r at *
  refine ((Int.ediv_emod_unique (r := n - 1 - r) (show 0 < n by omega)).2 ⟨?_, by omega, by omega⟩).1
  rw [Int.mul_sub]
  generalize n * q = z at *
  omega

set_option maxHeartbeats 1000000 in
theorem implWideMean_pos (ah al x n : Int) (w : World) (hn1 : 1 ≤ n) (hn2 : n ≤ 1000000) (hx : Wr x) (hx0 : 0 ≤ x) (e1 : ah = hi x) (e2 : al = lo x) :
    ((I64 (x / n)) → Calls Try.prog 129 #[.agg #[.int .i64 ah, .int .u64 al], .int .i64 n] w (IntRes w (x / n) true)) ∧
    (¬ (I64 (x / n)) → Calls Try.prog 129 #[.agg #[.int .i64 ah, .int .u64 al], .int .i64 n] w (IntRes w 0 false)) := by
  obtain ⟨a, b, c, hC, hq, hb⟩ := divide_z x n hx0 hx hn1 hn2
  rw [← e1, ← e2] at hC
  have hn0 : ¬ ah < 0 := by rw [e1, hi_neg hx]; omega
  have HC := Lib.hid hC
  unfold I64
  rw [hq]
  clear hC e1 e2 hq hx hx0
  constructor
  · intro hi'
    obtain rfl : a = 0 := by omega
    have hbm : ¬ (9223372036854775807 : Int) < (b : Int) := by omega
    rw [show ((0 : Nat) : Int) * 18446744073709551616 + (b : Int) = (b : Int) by omega]
    clear hi'
    go_enter Try.func129, Try.ntmps129
    go_wp2_with fail
    refine (HC.out _).mono ?_
    rintro e w1 ⟨rfl, hb1⟩
    replace hb1 := below_trans (below1 _ _) hb1
    go_wp2
    go_ret2
    exact ⟨rfl, hb1⟩
  · intro hi'
    by_cases ha : a = 0
    · subst ha
      have hbm : (9223372036854775807 : Int) < (b : Int) := by omega
      go_enter Try.func129, Try.ntmps129
      go_wp2_with fail
      refine (HC.out _).mono ?_
      rintro e w1 ⟨rfl, hb1⟩
      replace hb1 := below_trans (below1 _ _) hb1
      go_wp2
      go_ret2
      exact ⟨rfl, hb1⟩
    · have hab : ((a : Int) != 0) = true := by simp; omega
      go_enter Try.func129, Try.ntmps129
      go_wp2_with fail
      refine (HC.out _).mono ?_
      rintro e w1 ⟨rfl, hb1⟩
      replace hb1 := below_trans (below1 _ _) hb1
      go_wp2
      go_ret2
      exact ⟨rfl, hb1⟩
set_option maxHeartbeats 1000000 in
theorem implWideMean_neg (ah al x n : Int) (w : World) (hn1 : 1 ≤ n) (hn2 : n ≤ 1000000) (hx : Wr x) (hx0 : x < 0) (e1 : ah = hi x) (e2 : al = lo x) :
    ((I64 (x / n)) → Calls Try.prog 129 #[.agg #[.int .i64 ah, .int .u64 al], .int .i64 n] w (IntRes w (x / n) true)) ∧
    (¬ (I64 (x / n)) → Calls Try.prog 129 #[.agg #[.int .i64 ah, .int .u64 al], .int .i64 n] w (IntRes w 0 false)) := by
  obtain ⟨a, b, c, hC, hq, hb⟩ := divide_z (-1 - x) n (by omega) (by unfold Wr at *; omega) hn1 hn2
  have hn0 : ah < 0 := by rw [e1, hi_neg hx]; exact hx0
  have HC := Lib.hid hC
  have HE := Lib.hid (And.intro e1 e2)
  unfold I64
  rw [floor_flip x n hn1, hq]
  clear hC e1 e2 hq hx hx0
  constructor
  · intro hi'
    obtain rfl : a = 0 := by omega
    have hbm : ¬ (9223372036854775807 : Int) < (b : Int) := by omega
    have hnb := not_i64 (b : Int) (by unfold I64; omega)
    rw [show -1 - (((0 : Nat) : Int) * 18446744073709551616 + (b : Int)) = -1 - (b : Int) by omega, ← hnb]
    clear hi' hnb
    go_enter Try.func129, Try.ntmps129
    go_wp2_with fail
    refine (flipWide_any ah al x _ HE.out.1 HE.out.2).mono ?_
    rintro e w0 ⟨rfl, hb0⟩
    have o0 := (Own.new w 70 [.int .i64 ah, .int .u64 al]).grow hb0
    replace hb0 := below_trans (below1 _ _) hb0
    obtain ⟨c0, c1⟩ := o0.two
    have ff0 := o0.free 0
    have ff1 := o0.free 1
    have hS := own_set2 o0 (.int .i64 (hi (-1 - x))) (.int .u64 (lo (-1 - x)))
    have hT := below_set2 hb0 (Nat.le_refl _) (.int .i64 (hi (-1 - x))) (.int .u64 (lo (-1 - x)))
    obtain ⟨d0, d1⟩ := hS.two
    go_wp2_with fail
    clear c0 c1 ff0 ff1 d0 d1 hS o0
    refine (HC.out _).mono ?_
    rintro e w1 ⟨rfl, hb1⟩
    replace hb1 := below_trans hT hb1
    clear hT hb0
    go_wp2
    go_ret2
    exact ⟨rfl, hb1⟩
  · intro hi'
    by_cases ha : a = 0
    · subst ha
      have hbm : (9223372036854775807 : Int) < (b : Int) := by omega
      go_enter Try.func129, Try.ntmps129
      go_wp2_with fail
      refine (flipWide_any ah al x _ HE.out.1 HE.out.2).mono ?_
      rintro e w0 ⟨rfl, hb0⟩
      have o0 := (Own.new w 70 [.int .i64 ah, .int .u64 al]).grow hb0
      replace hb0 := below_trans (below1 _ _) hb0
      obtain ⟨c0, c1⟩ := o0.two
      have ff0 := o0.free 0
      have ff1 := o0.free 1
      have hS := own_set2 o0 (.int .i64 (hi (-1 - x))) (.int .u64 (lo (-1 - x)))
      have hT := below_set2 hb0 (Nat.le_refl _) (.int .i64 (hi (-1 - x))) (.int .u64 (lo (-1 - x)))
      obtain ⟨d0, d1⟩ := hS.two
      go_wp2_with fail
      clear c0 c1 ff0 ff1 d0 d1 hS o0
      refine (HC.out _).mono ?_
      rintro e w1 ⟨rfl, hb1⟩
      replace hb1 := below_trans hT hb1
      clear hT hb0
      go_wp2
      go_ret2
      exact ⟨rfl, hb1⟩
    · have hab : ((a : Int) != 0) = true := by simp; omega
      go_enter Try.func129, Try.ntmps129
      go_wp2_with fail
      refine (flipWide_any ah al x _ HE.out.1 HE.out.2).mono ?_
      rintro e w0 ⟨rfl, hb0⟩
      have o0 := (Own.new w 70 [.int .i64 ah, .int .u64 al]).grow hb0
      replace hb0 := below_trans (below1 _ _) hb0
      obtain ⟨c0, c1⟩ := o0.two
      have ff0 := o0.free 0
      have ff1 := o0.free 1
      have hS := own_set2 o0 (.int .i64 (hi (-1 - x))) (.int .u64 (lo (-1 - x)))
      have hT := below_set2 hb0 (Nat.le_refl _) (.int .i64 (hi (-1 - x))) (.int .u64 (lo (-1 - x)))
      obtain ⟨d0, d1⟩ := hS.two
      go_wp2_with fail
      clear c0 c1 ff0 ff1 d0 d1 hS o0
      refine (HC.out _).mono ?_
      rintro e w1 ⟨rfl, hb1⟩
      replace hb1 := below_trans hT hb1
      clear hT hb0
      go_wp2
      go_ret2
      exact ⟨rfl, hb1⟩

theorem implWideMean_yes (ah al x n : Int) (w : World) (hn1 : 1 ≤ n) (hn2 : n ≤ 1000000) (hx : Wr x) (e1 : ah = hi x) (e2 : al = lo x) (h : I64 (x / n)) :
    Calls Try.prog 129 #[.agg #[.int .i64 ah, .int .u64 al], .int .i64 n] w (IntRes w (x / n) true) := by
  by_cases h0 : x < 0
  · exact (implWideMean_neg ah al x n w hn1 hn2 hx h0 e1 e2).1 h
  · exact (implWideMean_pos ah al x n w hn1 hn2 hx (by omega) e1 e2).1 h
theorem implWideMean_no (ah al x n : Int) (w : World) (hn1 : 1 ≤ n) (hn2 : n ≤ 1000000) (hx : Wr x) (e1 : ah = hi x) (e2 : al = lo x) (h : ¬ I64 (x / n)) :
    Calls Try.prog 129 #[.agg #[.int .i64 ah, .int .u64 al], .int .i64 n] w (IntRes w 0 false) := by
  by_cases h0 : x < 0
  · exact (implWideMean_neg ah al x n w hn1 hn2 hx h0 e1 e2).2 h
  · exact (implWideMean_pos ah al x n w hn1 hn2 hx (by omega) e1 e2).2 h
end Go.Proofs.Ytlmlckgnmkjkdaa
