/-
  What the small functions of the lattice layer return: bits, labels, equality of rows.
-/
import Derived.Test.YtipcjofmplpffaaBase
namespace Go.Proofs.Ytipcjofmplpffaa
open Go.RowKit

theorem bit_of (x a : Nat) (hx : x < 18446744073709551616) : (bits .and .u64 ((x : Int) / 2 ^ a) 1 == 1) = x.testBit a := by
  have e1 : ((x : Int) / 2 ^ a) = ((x / 2 ^ a : Nat) : Int) := by
    rw [Int.natCast_ediv]; simp
  have hlt : x / 2 ^ a < 18446744073709551616 := Nat.lt_of_le_of_lt (Nat.div_le_self _ _) hx
  have e2 : bits .and .u64 ((x / 2 ^ a : Nat) : Int) ((1 : Nat) : Int) = ((x / 2 ^ a &&& 1 : Nat) : Int) := u64_and_nat _ _ hlt (by omega)
  rw [e1]
  rw [show (1 : Int) = ((1 : Nat) : Int) from rfl, e2, Nat.testBit, Nat.shiftRight_eq_div_pow, Nat.and_one_is_mod, Nat.one_and_eq_mod_two]
  rcases Nat.mod_two_eq_zero_or_one (x / 2 ^ a) with h | h <;> rw [h] <;> decide

theorem pow_wrap (a : Nat) (ha : a < 64) : IntKind.u64.wrap (2 ^ a) = ((2 ^ a : Nat) : Int) := by
  have h : 2 ^ a < 2 ^ 64 := Nat.pow_lt_pow_right (by omega) ha
  rw [show ((2 : Int) ^ a) = ((2 ^ a : Nat) : Int) by simp]
  generalize 2 ^ a = n at *
  simp only [IntKind.wrap, IntKind.bits, IntKind.signed]
  simp
  omega

set_option maxHeartbeats 400000 in
theorem hasLabel_any (x a : Nat) (w : World) (hx : x < 18446744073709551616) (ha : a < 64) :
    Calls Try.prog 86 #[.int .u64 (x : Int), .int .i64 (a : Int)] w fun e w' => e = .returned (.bool (x.testBit a)) ∧ w = w' := by
  go_enter Try.func86, Try.ntmps86
  go_wp2
  go_ret
  exact ⟨ret_bool (bit_of x a hx), rfl⟩

/-- .. where the answer is known -/
theorem hasLabel_is (x a : Nat) (b : Bool) (w : World) (hx : x < 18446744073709551616) (ha : a < 64) (h : x.testBit a = b) :
    Calls Try.prog 86 #[.int .u64 (x : Int), .int .i64 (a : Int)] w fun e w' => e = .returned (.bool b) ∧ w = w' :=
  h ▸ hasLabel_any x a w hx ha

set_option maxHeartbeats 400000 in
theorem labelBit_any (a : Nat) (w : World) (ha : a < 64) :
    Calls Try.prog 85 #[.int .i64 (a : Int)] w fun e w' => e = .returned (.int .u64 ((2 ^ a : Nat) : Int)) ∧ w = w' := by
  go_enter Try.func85, Try.ntmps85
  go_wp2
  go_ret
  exact ⟨ret_int (pow_wrap a ha), rfl⟩

set_option maxHeartbeats 400000 in
theorem isLabel_any (n a : Int) (w : World) :
    Calls Try.prog 87 #[.int .i64 n, .int .i64 a] w fun e w' => e = .returned (.bool (decide (0 ≤ a) && decide (a < n))) ∧ w = w' := by
  go_enter Try.func87, Try.ntmps87
  go_wp2
  all_goals (go_ret; refine ⟨ret_bool ?_, rfl⟩; simp [*]; try omega)

theorem sub_wrap (m : Nat) (h0 : 0 < m) (h : m < 18446744073709551616) : IntKind.u64.wrap ((m : Int) - 1) = ((m - 1 : Nat) : Int) := by
  simp only [IntKind.wrap, IntKind.bits, IntKind.signed]
  simp
  omega

set_option maxHeartbeats 400000 in
theorem allLabels_any (n : Nat) (w : World) (hn : n < 64) :
    Calls Try.prog 64 #[.int .i64 (n : Int)] w fun e w' => e = .returned (.int .u64 ((2 ^ n - 1 : Nat) : Int)) ∧ w = w' := by
  go_enter Try.func64, Try.ntmps64
  go_wp2_with (go_at_call 85; refine (labelBit_any n w hn).mono ?_; rintro e w' ⟨rfl, rfl⟩)
  go_ret
  exact ⟨ret_int (sub_wrap (2 ^ n) (Nat.two_pow_pos n) (show 2 ^ n < 2 ^ 64 from Nat.pow_lt_pow_right (by omega) hn)), rfl⟩

set_option maxHeartbeats 400000 in
theorem eqUint64S_any (A B : Option Addr) (ca cb : Nat) (xs ys : List Nat) (w : World) (hA : Rd w A (us xs)) (hB : Rd w B (us ys)) (hn : xs.length < 4611686018427387904) (hm : ys.length < 4611686018427387904) :
    Calls Try.prog 71 #[.slice A xs.length ca, .slice B ys.length cb] w fun e w' => e = .returned (.bool (decide (xs = ys))) ∧ Below w.heap.size w w' := by
  by_cases hl : xs.length = ys.length
  · have hl1 : ((xs.length : Int) != (ys.length : Int)) = false := by simp [hl]
    have HL := Lib.hid hl
    clear hl
    go_enter Try.func71, Try.ntmps71
    go_wp2
    go_loopw [5] (fun i wr => ∃ k : Nat, k ≤ xs.length ∧ i = .int .i64 k ∧ Hid (xs.take k = ys.take k) ∧ Below w.heap.size w wr) (fun i _ => xs.length - (intOf i).toNat)
    case atStart => exact ⟨0, Nat.zero_le _, rfl, Lib.hid (by simp), Below.refl _ _⟩
    case round =>
      obtain ⟨k, hk, rfl, hpre, hbel⟩ := hrel
      by_cases hlt : k < xs.length
      · have hlt2 : k < ys.length := by rw [← HL.out]; exact hlt
        obtain ⟨ad, rfl, hb1, hc1⟩ := hA k _ (us_at hlt)
        obtain ⟨bd, rfl, hb2, hc2⟩ := hB k _ (us_at hlt2)
        have h1 : ∀ u : Bel wr, u.w.cell? (ad.add k) = some (.int .u64 ((xs.getD k 0 : Nat) : Int)) := fun u => ((below_trans hbel u.ok).cell (by rw [add_block]; exact hb1)).trans hc1
        have h2 : ∀ u : Bel wr, u.w.cell? (bd.add k) = some (.int .u64 ((ys.getD k 0 : Nat) : Int)) := fun u => ((below_trans hbel u.ok).cell (by rw [add_block]; exact hb2)).trans hc2
        clear hc1 hc2
        go_wp2
        refine wp_region_bel (by kernel_rfl) (by kernel_rfl) ?_
        repeat (go_big_quiet_step (fail))
        refine wpQuiet_nil ?_
        rintro _ ⟨u, rfl⟩
        by_cases heq : xs[k] = ys[k]
        · have hne : ((xs[k] : Int) != (ys[k] : Int)) = false := by simp [heq]
          have HE := Lib.hid heq
          clear heq
          go_wp2
          go_roundw
          case rel => exact ⟨k + 1, by omega, by go_num, Lib.hid (take_next hlt hlt2 hpre.out HE.out), below_trans hbel u.ok⟩
          case measure => simp [intOf]; omega
        · have hne : ((xs[k] : Int) != (ys[k] : Int)) = true := by rw [bne_iff_ne]; omega
          go_wp2
          go_ret
          exact ⟨ret_bool (by rw [eq_comm, decide_eq_false_iff_not]; rintro rfl; exact heq rfl), below_trans hbel u.ok⟩
      · go_wp2
        go_ret
        refine ⟨ret_bool ?_, hbel⟩
        have hp := hpre.out
        have hll := HL.out
        rw [List.take_of_length_le (by omega), List.take_of_length_le (by omega)] at hp
        simp [hp]
  · have hl1 : ((xs.length : Int) != (ys.length : Int)) = true := by rw [bne_iff_ne]; omega
    go_enter Try.func71, Try.ntmps71
    go_wp2
    go_ret
    exact ⟨ret_bool (by rw [eq_comm, decide_eq_false_iff_not]; rintro rfl; exact hl rfl), Below.refl _ _⟩
end Go.Proofs.Ytipcjofmplpffaa
