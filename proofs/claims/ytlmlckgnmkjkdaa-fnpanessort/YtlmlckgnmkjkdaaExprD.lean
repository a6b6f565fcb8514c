/-
  ExprDepth and ExprOk, the program's and the model's: what they return.
-/
import Derived.Test.YtlmlckgnmkjkdaaTokKit
import Derived.Test.YtlmlckgnmkjkdaaExprMath
namespace Go.Proofs.Ytlmlckgnmkjkdaa
open Go.RowKit

theorem pops_at {op : Int} (h0 : 0 ≤ op) (h1 : op ≤ 11) : op = 0 ∨ op = 1 ∨ op = 2 ∨ op = 3 ∨ op = 11 ∨ (op ≠ 0 ∧ op ≠ 1 ∧ op ≠ 2 ∧ op ≠ 3 ∧ op ≠ 11 ∧ pops op = 2) := by
  by_cases h : op ≤ 3
  · omega
  · by_cases h' : op = 11
    · omega
    · right; right; right; right; right; refine ⟨by omega, by omega, by omega, by omega, h', ?_⟩; simp [pops, h, h']

set_option maxHeartbeats 400000 in
theorem popsOf_any (op : Int) (w : World) (h0 : 0 ≤ op) (h1 : op ≤ 11) :
    Calls Try.prog 119 #[.int .i64 op] w fun e w' => e = .returned (.int .i64 (pops op)) ∧ w = w' := by
  rcases pops_at h0 h1 with rfl | rfl | rfl | rfl | rfl | ⟨a, b, c, d, f, hp⟩
  iterate 5
    · go_enter Try.func119, Try.ntmps119
      go_wp2
      go_ret
      exact ⟨rfl, rfl⟩
  have ta : (op == 0) = false := by simpa using a
  have tb : (op == 1) = false := by simpa using b
  have tc : (op == 2) = false := by simpa using c
  have td : (op == 3) = false := by simpa using d
  have tf : (op == 11) = false := by simpa using f
  rw [hp]
  clear a b c d f hp
  go_enter Try.func119, Try.ntmps119
  go_wp2
  go_ret
  exact ⟨rfl, rfl⟩

set_option maxHeartbeats 400000 in
theorem l03Takes_any (op : Int) (w : World) :
    Calls Try.prog 117 #[.int .i64 op] w fun e w' => e = .returned (.int .i64 (pops op)) ∧ w = w' := by
  by_cases h : op ≤ 3
  · go_enter Try.func117, Try.ntmps117
    go_wp2
    go_ret
    exact ⟨ret_int (by simp [pops, h]), rfl⟩
  · by_cases h' : op = 11
    · subst h'
      go_enter Try.func117, Try.ntmps117
      go_wp2
      go_ret
      exact ⟨rfl, rfl⟩
    · have t : (op == 11) = false := by simpa using h'
      go_enter Try.func117, Try.ntmps117
      go_wp2
      go_ret
      exact ⟨ret_int (by simp [pops, h, h']), rfl⟩

set_option maxHeartbeats 400000 in
theorem tokOk_any (a b : Int) (w : World) :
    Calls Try.prog 118 #[.agg #[.int .i64 a, .int .i64 b]] w fun e w' => e = .returned (.bool (decide (tokGood (a, b)))) ∧ Below w.heap.size w w' := by
  by_cases h : a = 0
  · subst h
    go_enter Try.func118, Try.ntmps118
    go_wp2
    go_ret
    exact ⟨ret_bool (by simp [tokGood]), below_alloc _ _⟩
  have t : (a == 0) = false := by simpa using h
  by_cases h0 : a > 0
  · by_cases h1 : a ≤ 11
    · by_cases h2 : b = 0
      · subst h2
        go_enter Try.func118, Try.ntmps118
        go_wp2
        go_ret
        exact ⟨ret_bool (by simp [tokGood]; omega), below_alloc _ _⟩
      · have t2 : (b == 0) = false := by simpa using h2
        go_enter Try.func118, Try.ntmps118
        go_wp2
        go_ret
        exact ⟨ret_bool (by rw [eq_comm, decide_eq_false_iff_not]; unfold tokGood; simp only; omega), below_alloc _ _⟩
    · go_enter Try.func118, Try.ntmps118
      go_wp2
      go_ret
      exact ⟨ret_bool (by rw [eq_comm, decide_eq_false_iff_not]; unfold tokGood; simp only; omega), below_alloc _ _⟩
  · go_enter Try.func118, Try.ntmps118
    go_wp2
    go_ret
    exact ⟨ret_bool (by rw [eq_comm, decide_eq_false_iff_not]; unfold tokGood; simp only; omega), below_alloc _ _⟩
end Go.Proofs.Ytlmlckgnmkjkdaa
