/-
  What the program's own helpers of the lattice layer return.
-/
import Derived.Test.YtipcjofmplpffaaLatSmall
namespace Go.Proofs.Ytipcjofmplpffaa
open Go.RowKit

theorem and_not (x y : Nat) (hx : x < 18446744073709551616) (hy : y < 18446744073709551616) : bits .andNot .u64 (x : Int) (y : Int) = ((x &&& (18446744073709551615 - y) : Nat) : Int) := u64_andNot_nat x y hx hy

def lp (xs : List Nat) (set c : Nat) : Bool := set.testBit c && (set &&& (18446744073709551615 - row xs c) == 0)
theorem least_eq (xs : List Nat) (set : Nat) : least xs set = first (lp xs set) xs.length := rfl

theorem row_at {xs : List Nat} {k : Nat} (h : k < xs.length) : xs[k] = row xs k := by simp [row, h]

set_option maxHeartbeats 400000 in
theorem leastIn_any (A : Option Addr) (ca : Nat) (xs : List Nat) (set : Nat) (w : World) (hA : Rd w A (us xs)) (hu : U64 xs) (hset : set < 18446744073709551616) (hn : xs.length ≤ 64) :
    Calls Try.prog 65 #[.slice A xs.length ca, .int .u64 (set : Int)] w fun e w' => e = .returned (.int .i64 (least xs set)) ∧ w = w' := by
  rw [least_eq]
  go_enter Try.func65, Try.ntmps65
  go_wp2
  go_loop [8] (fun i => ∃ k : Nat, k ≤ xs.length ∧ i = .int .i64 k ∧ Hid (∀ c, c < k → lp xs set c = false)) (fun i => xs.length - (intOf i).toNat)
  case atStart => exact ⟨0, Nat.zero_le _, rfl, Lib.hid (fun c hc => by omega)⟩
  case round =>
    obtain ⟨k, hk, rfl, hpre⟩ := hrel
    by_cases hlt : k < xs.length
    · obtain ⟨ad, rfl, hb1, hc1⟩ := hA k _ (us_at hlt)
      have hrow : row xs k < 18446744073709551616 := hu.at k
      have hc2 : w.cell? (ad.add k) = some (.int .u64 (row xs k : Int)) := hc1
      clear hc1
      cases hbit : set.testBit k with
      | false =>
        go_wp2_with (go_at_call 86; refine (hasLabel_any set k _ hset (by omega)).mono ?_; rintro e w' ⟨rfl, rfl⟩)
        go_round
        case rel => exact ⟨k + 1, by omega, by go_num, Lib.hid (fun c hc => by
          rcases Nat.lt_succ_iff_lt_or_eq.1 hc with h | h
          · exact hpre.out c h
          · subst h; simp [lp, hbit])⟩
        case measure => simp [intOf]; omega
      | true =>
        have hand := and_not set (row xs k) hset hrow
        cases hz : ((set &&& (18446744073709551615 - row xs k) : Nat) == 0) with
        | false =>
          have ht : (bits .andNot .u64 (set : Int) (row xs k : Int) == 0) = false := by
            rw [hand, beq_eq_false_iff_ne]; rw [beq_eq_false_iff_ne] at hz; omega
          clear hand
          go_wp2_with (go_at_call 86; refine (hasLabel_any set k _ hset (by omega)).mono ?_; rintro e w' ⟨rfl, rfl⟩)
          go_round
          case rel => exact ⟨k + 1, by omega, by go_num, Lib.hid (fun c hc => by
            rcases Nat.lt_succ_iff_lt_or_eq.1 hc with h | h
            · exact hpre.out c h
            · subst h; simp [lp, hbit, hz])⟩
          case measure => simp [intOf]; omega
        | true =>
          have ht : (bits .andNot .u64 (set : Int) (row xs k : Int) == 0) = true := by
            rw [hand, beq_iff_eq]; rw [beq_iff_eq] at hz; omega
          clear hand
          go_wp2_with (go_at_call 86; refine (hasLabel_any set k _ hset (by omega)).mono ?_; rintro e w' ⟨rfl, rfl⟩)
          go_ret
          exact ⟨ret_int (first_at hlt (by simp [lp, hbit, hz]) hpre.out).symm, rfl⟩
    · go_wp2
      go_ret
      exact ⟨ret_int (first_none (fun c hc => hpre.out c (by omega))).symm, rfl⟩

theorem alloc_cell {w : World} {a : Addr} {v : Value} (hb : a.block < w.heap.size) (h : w.cell? a = some v) (o : Obj) : (w.alloc o).cell? a = some v :=
  (World.cell?_alloc_lt w o a hb).trans h

theorem small_iff {x n : Nat} (hn : n ≤ 16) (hx : x < 18446744073709551616) : (x &&& (18446744073709551615 - (2 ^ n - 1)) = 0) ↔ x < 2 ^ n := by
  have h16 : 2 ^ n ≤ 65536 := Nat.pow_le_pow_right (n := 2) (by omega) hn
  have h0 : 0 < 2 ^ n := Nat.two_pow_pos n
  rw [andNot_zero hx (by omega)]
  constructor
  · intro h
    apply Nat.lt_pow_two_of_testBit
    intro i hi
    cases hb : x.testBit i with
    | false => rfl
    | true =>
      have h1 := h i hb
      rw [Nat.testBit_two_pow_sub_one] at h1
      simp at h1; omega
  · intro h i hi
    rw [Nat.testBit_two_pow_sub_one]
    simpa using bit_lt h hi

set_option maxHeartbeats 400000 in
theorem rowsFit_any (N : Int) (A : Option Addr) (ca : Nat) (xs : List Nat) (w : World) (hA : Rd w A (us xs)) (hu : U64 xs) (hn : xs.length < 4611686018427387904) :
    Calls Try.prog 82 #[.agg #[.int .i64 N, .slice A xs.length ca]] w fun e w' => e = .returned (.bool (tf (Fit N xs ∧ Small xs))) ∧ Below w.heap.size w w' := by
  by_cases h1 : N < 1
  · go_enter Try.func82, Try.ntmps82
    go_wp2
    go_ret
    exact ⟨ret_bool (tf_no (by rintro ⟨⟨h, _⟩, _⟩; omega)), (Below.refl _ _).alloc (Nat.le_refl _) _⟩
  by_cases h2 : 16 < N
  · go_enter Try.func82, Try.ntmps82
    go_wp2
    go_ret
    exact ⟨ret_bool (tf_no (by rintro ⟨⟨_, h, _⟩, _⟩; omega)), (Below.refl _ _).alloc (Nat.le_refl _) _⟩
  by_cases h3 : (xs.length : Int) = N
  · subst h3
    have hne : ((xs.length : Int) != (xs.length : Int)) = false := by simp
    go_enter Try.func82, Try.ntmps82
    go_wp2
    go_loop [24] (fun i => ∃ k : Nat, k ≤ xs.length ∧ i = .int .i64 k ∧ Hid (∀ c, c < k → row xs c < 2 ^ xs.length)) (fun i => xs.length - (intOf i).toNat)
    case atStart => exact ⟨0, Nat.zero_le _, rfl, Lib.hid (fun c hc => by omega)⟩
    case round =>
      obtain ⟨k, hk, rfl, hpre⟩ := hrel
      by_cases hlt : k < xs.length
      · obtain ⟨ad, rfl, hb1, hc1⟩ := hA k _ (us_at hlt)
        have hrow : row xs k < 18446744073709551616 := hu.at k
        have hc2 := alloc_cell (v := .int .u64 (row xs k : Int)) (by rw [add_block]; exact hb1) hc1
        clear hc1
        have hp : 2 ^ xs.length - 1 < 18446744073709551616 := by
          have : 2 ^ xs.length ≤ 2 ^ 16 := Nat.pow_le_pow_right (by omega) (by omega)
          omega
        have hand := and_not (row xs k) (2 ^ xs.length - 1) hrow hp
        by_cases hz : row xs k < 2 ^ xs.length
        · have ht : (bits .andNot .u64 (row xs k : Int) ((2 ^ xs.length - 1 : Nat) : Int) != 0) = false := by
            rw [hand, (small_iff (by omega) hrow).2 hz]; rfl
          have HZ := Lib.hid hz
          clear hand hz hp
          go_wp2_with (go_at_call 64; refine (allLabels_any xs.length _ (by omega)).mono ?_; rintro e w' ⟨rfl, rfl⟩)
          go_round
          case rel => exact ⟨k + 1, by omega, by go_num, Lib.hid (fun c hc => by
            rcases Nat.lt_succ_iff_lt_or_eq.1 hc with h | h
            · exact hpre.out c h
            · subst h; exact HZ.out)⟩
          case measure => simp [intOf]; omega
        · have ht : (bits .andNot .u64 (row xs k : Int) ((2 ^ xs.length - 1 : Nat) : Int) != 0) = true := by
            rw [hand, bne_iff_ne]
            intro h
            exact hz ((small_iff (by omega) hrow).1 (by omega))
          have HZ := Lib.hid hz
          clear hand hz hp
          go_wp2_with (go_at_call 64; refine (allLabels_any xs.length _ (by omega)).mono ?_; rintro e w' ⟨rfl, rfl⟩)
          go_ret
          exact ⟨ret_bool (tf_no (by rintro ⟨_, h⟩; exact HZ.out (h k hlt))), (Below.refl _ _).alloc (Nat.le_refl _) _⟩
      · go_wp2
        go_ret
        exact ⟨ret_bool (tf_yes ⟨⟨by omega, by omega, rfl⟩, fun a ha => hpre.out a (by omega)⟩), (Below.refl _ _).alloc (Nat.le_refl _) _⟩
  · have hne : ((xs.length : Int) != N) = true := by rw [bne_iff_ne]; exact h3
    go_enter Try.func82, Try.ntmps82
    go_wp2
    go_ret
    exact ⟨ret_bool (tf_no (by rintro ⟨⟨_, _, h⟩, _⟩; exact h3 h)), (Below.refl _ _).alloc (Nat.le_refl _) _⟩

end Go.Proofs.Ytipcjofmplpffaa
