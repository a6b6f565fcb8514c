/-
  What the model's helpers of the lattice layer return.
-/
import Derived.Test.YtipcjofmplpffaaLatFns
namespace Go.Proofs.Ytipcjofmplpffaa
open Go.RowKit

set_option maxHeartbeats 400000 in
theorem l01Bit_any (x a : Nat) (w : World) (hx : x < 18446744073709551616) (ha : a < 64) :
    Calls Try.prog 79 #[.int .u64 (x : Int), .int .i64 (a : Int)] w fun e w' => e = .returned (.bool (x.testBit a)) ∧ w = w' := by
  go_enter Try.func79, Try.ntmps79
  go_wp2
  go_ret
  exact ⟨ret_bool (bit_of x a hx), rfl⟩

/-- .. where the answer is known -/
theorem l01Bit_is (x a : Nat) (b : Bool) (w : World) (hx : x < 18446744073709551616) (ha : a < 64) (h : x.testBit a = b) :
    Calls Try.prog 79 #[.int .u64 (x : Int), .int .i64 (a : Int)] w fun e w' => e = .returned (.bool b) ∧ w = w' :=
  h ▸ l01Bit_any x a w hx ha

theorem mul2_wrap (k : Nat) (hk : k < 63) : IntKind.u64.wrap (2 * ((2 ^ k : Nat) : Int)) = ((2 ^ (k + 1) : Nat) : Int) := by
  have h := pow_wrap (k + 1) (by omega)
  rw [← h]
  congr 1
  rw [Int.pow_succ]; simp; omega

set_option maxHeartbeats 400000 in
theorem l01Power_any (n : Nat) (w : World) (hn : n < 63) :
    Calls Try.prog 80 #[.int .i64 (n : Int)] w fun e w' => e = .returned (.int .u64 ((2 : Int) ^ n)) ∧ w = w' := by
  go_enter Try.func80, Try.ntmps80
  go_wp2
  go_loop [0, 3] (fun i x => ∃ k : Nat, k ≤ n ∧ i = .int .i64 ((n : Int) - k) ∧ x = .int .u64 ((2 ^ k : Nat) : Int)) (fun i _ => (intOf i).toNat)
  case atStart => exact ⟨0, Nat.zero_le _, by simp, by simp⟩
  case round =>
    obtain ⟨k, hk, rfl, rfl⟩ := hrel
    have hm := mul2_wrap k (by omega)
    by_cases hlt : k < n
    · go_wp2
      go_round
      case rel => exact ⟨k + 1, by omega, by go_num, by first | rfl | (congr 1; done)⟩
      case measure => simp [intOf]; omega
    · obtain rfl : k = n := by omega
      clear hm
      go_wp2
      go_ret
      exact ⟨by simp, rfl⟩

set_option maxHeartbeats 400000 in
theorem side_any (N : Int) (A : Option Addr) (ca : Nat) (xs : List Nat) (a c : Nat) (up : Bool) (w : World) (hA : Rd w A (us xs)) (hu : U64 xs) (hn : xs.length ≤ 16) (ha : a < xs.length) (hc : c < xs.length) :
    Calls Try.prog 94 #[.agg #[.int .i64 N, .slice A xs.length ca], .int .i64 (a : Int), .int .i64 (c : Int), .bool up] w fun e w' => e = .returned (.bool (side xs up a c)) ∧ Below w.heap.size w w' := by
  obtain ⟨ad, rfl, hb1, hc1⟩ := hA a _ (us_at ha)
  obtain ⟨ad', e', _, hc2⟩ := hA c _ (us_at hc)
  obtain rfl : ad = ad' := by injection e'
  clear e'
  have hra : row xs a < 18446744073709551616 := hu.at a
  have hrc : row xs c < 18446744073709551616 := hu.at c
  have hk1 := alloc_cell (v := .int .u64 (row xs a : Int)) (by rw [add_block]; exact hb1) hc1
  have hk2 := alloc_cell (v := .int .u64 (row xs c : Int)) (by rw [add_block]; exact hb1) hc2
  clear hc1 hc2 hA
  cases up
  · go_enter Try.func94, Try.ntmps94
    go_wp2_with (go_at_call 79; refine (l01Bit_any (row xs c) a _ hrc (by omega)).mono ?_; rintro e w' ⟨rfl, rfl⟩)
    go_ret
    exact ⟨rfl, below_alloc _ _⟩
  · go_enter Try.func94, Try.ntmps94
    go_wp2_with (go_at_call 79; refine (l01Bit_any (row xs a) c _ hra (by omega)).mono ?_; rintro e w' ⟨rfl, rfl⟩)
    go_ret
    exact ⟨rfl, below_alloc _ _⟩

/-- what is known of c behind the labels below j -/
def fitsTo (xs : List Nat) (up : Bool) (a b c j : Nat) : Bool := fits xs up a b c && (List.range j).all fun d => holds xs up a b c d
theorem fitsTo_zero (xs : List Nat) (up : Bool) (a b c : Nat) : fitsTo xs up a b c 0 = fits xs up a b c := by simp [fitsTo]
theorem fitsTo_all (xs : List Nat) (up : Bool) (a b c : Nat) : fitsTo xs up a b c xs.length = isB xs up a b c := rfl
theorem fitsTo_succ (xs : List Nat) (up : Bool) (a b c j : Nat) : fitsTo xs up a b c (j + 1) = (fitsTo xs up a b c j && holds xs up a b c j) := by
  simp [fitsTo, List.range_succ, Bool.and_assoc]
theorem fitsTo_mono {xs : List Nat} {up : Bool} {a b c j : Nat} (hj : j ≤ xs.length) (h : fitsTo xs up a b c j = false) : isB xs up a b c = false := by
  rw [← fitsTo_all]
  obtain ⟨m, hm⟩ := Nat.exists_eq_add_of_le hj
  rw [hm]
  clear hm
  induction m with
  | zero => exact h
  | succ m ih => rw [show j + (m + 1) = j + m + 1 from rfl, fitsTo_succ, ih]; rfl

end Go.Proofs.Ytipcjofmplpffaa
