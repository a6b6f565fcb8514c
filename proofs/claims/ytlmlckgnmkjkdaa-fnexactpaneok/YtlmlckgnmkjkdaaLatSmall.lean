/-
  What the small functions of the lattice layer return: bits, labels, equality of rows.
-/
import Derived.Test.YtlmlckgnmkjkdaaBase
namespace Go.Proofs.Ytlmlckgnmkjkdaa
open Go.RowKit

theorem bit_of (x a : Nat) (hx : x < 18446744073709551616) : (bits .and .u64 ((x : Int) / 2 ^ a) 1 == 1) = x.testBit a := by
  have e1 : ((x : Int) / 2 ^ a) = ((x / 2 ^ a : Nat) : Int) := by
    rw [Int.natCast_ediv]; simp
  have hlt : x / 2 ^ a < 18446744073709551616 := Nat.lt_of_le_of_lt (Nat.div_le_self _ _) hx
  have e2 : bits .and .u64 ((x / 2 ^ a : Nat) : Int) ((1 : Nat) : Int) = ((x / 2 ^ a &&& 1 : Nat) : Int) := u64_and_nat _ _ hlt (by omega)
  rw [e1]
  rw [show (1 : Int) = ((1 : Nat) : Int) from rfl, e2, Nat.testBit, Nat.shiftRight_eq_div_pow, Nat.and_one_is_mod, Nat.one_and_eq_mod_two]
  rcases Nat.mod_two_eq_zero_or_one (x / 2 ^ a) with h | h <;> rw [h] <;> decide

theorem pow_wrap (a : Nat) (ha : a < 64) : IntKind.u64.wrap (2 ^ a) = ((2 ^ a : Nat) : Int) := by
  have h : 2 ^ a < 2 ^ 64 := Nat.pow_lt_pow_right (by omega) ha
  rw [show ((2 : Int) ^ a) = ((2 ^ a : Nat) : Int) by simp]
  generalize 2 ^ a = n at *
  simp only [IntKind.wrap, IntKind.bits, IntKind.signed]
  simp
  omega

set_option maxHeartbeats 400000 in
theorem isLabel_any (n a : Int) (w : World) :
    Calls Try.prog 76 #[.int .i64 n, .int .i64 a] w fun e w' => e = .returned (.bool (decide (0 ≤ a) && decide (a < n))) ∧ w = w' := by
  go_enter Try.func76, Try.ntmps76
  go_wp2
  all_goals (go_ret; refine ⟨ret_bool ?_, rfl⟩; simp [*]; try omega)

theorem sub_wrap (m : Nat) (h0 : 0 < m) (h : m < 18446744073709551616) : IntKind.u64.wrap ((m : Int) - 1) = ((m - 1 : Nat) : Int) := by
  simp only [IntKind.wrap, IntKind.bits, IntKind.signed]
  simp
  omega

end Go.Proofs.Ytlmlckgnmkjkdaa
