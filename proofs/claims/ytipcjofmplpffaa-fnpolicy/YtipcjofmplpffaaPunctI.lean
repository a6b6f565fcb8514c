/-
  The program's small functions on puncts: what they return.
-/
import Derived.Test.YtipcjofmplpffaaPunctT
import Derived.Test.YtipcjofmplpffaaLatFns
namespace Go.Proofs.Ytipcjofmplpffaa
open Go.RowKit

set_option maxHeartbeats 400000 in
theorem isSource_any (a : Int) (w : World) :
    Calls Try.prog 52 #[.int .i64 a] w fun e w' => e = .returned (.bool (decide (0 ≤ a) && decide (a < 4))) ∧ w = w' := by
  go_enter Try.func52, Try.ntmps52
  go_wp2
  all_goals (go_ret; refine ⟨ret_bool ?_, rfl⟩; simp [*]; try omega)
set_option maxHeartbeats 400000 in
theorem isKey_any (a : Int) (w : World) :
    Calls Try.prog 53 #[.int .i64 a] w fun e w' => e = .returned (.bool (decide (0 ≤ a) && decide (a ≤ 15))) ∧ w = w' := by
  go_enter Try.func53, Try.ntmps53
  go_wp2
  all_goals (go_ret; refine ⟨ret_bool ?_, rfl⟩; simp [*]; try omega)
theorem isSource_is {a : Int} {b : Bool} (h : decide (0 ≤ a ∧ a < 4) = b) (w : World) : Calls Try.prog 52 #[.int .i64 a] w fun e w' => e = .returned (.bool b) ∧ w = w' :=
  as_bool (R := fun w' => w = w') (by rw [← h]; simp) (isSource_any a w)
theorem isKey_is {a : Int} {b : Bool} (h : decide (0 ≤ a ∧ a ≤ 15) = b) (w : World) : Calls Try.prog 53 #[.int .i64 a] w fun e w' => e = .returned (.bool b) ∧ w = w' :=
  as_bool (R := fun w' => w = w') (by rw [← h]; simp) (isKey_any a w)

/-- a key with 0 for the digits behind the first b -/
def cutK (k b : Int) : Int := k / pw (4 - b) * pw (4 - b)
set_option maxHeartbeats 400000 in
theorem keyPrefix_any (k b : Int) (w : World) (h0 : 0 ≤ k) (h1 : k ≤ 15) (hb0 : 0 ≤ b) (hb1 : b ≤ 4) :
    Calls Try.prog 54 #[.int .i64 k, .int .i64 b] w fun e w' => e = .returned (.int .i64 (cutK k b)) ∧ w = w' := by
  have h : b = 0 ∨ b = 1 ∨ b = 2 ∨ b = 3 ∨ b = 4 := by omega
  rcases h with rfl | rfl | rfl | rfl | rfl
  all_goals
    go_enter Try.func54, Try.ntmps54
    go_wp2
    go_ret
    refine ⟨ret_int ?_, rfl⟩
    simp [cutK, pw]
theorem cutK_self {c b : Int} : cutK c b = c ↔ c % pw (4 - b) = 0 := by
  have h := Int.mul_ediv_add_emod c (pw (4 - b))
  unfold cutK
  rw [Int.mul_comm] at h
  omega
theorem cutK_same {k c b : Int} : cutK k b = cutK c b ↔ k / pw (4 - b) = c / pw (4 - b) := by
  have h := pw_range (4 - b)
  unfold cutK
  exact ⟨fun e => Int.eq_of_mul_eq_mul_right (by omega) e, fun e => by rw [e]⟩

set_option maxHeartbeats 1000000 in
theorem placeFits_any (a b c d : Int) (w : World) :
    Calls Try.prog 55 #[pv a b c d] w fun e w' => e = .returned (.bool (decide (inRange (a, b, c, d)))) ∧ Below w.heap.size w w' := by
  by_cases h1 : 0 ≤ a ∧ a < 4
  · have H1 := Lib.hid (decide_eq_true h1)
    by_cases h2 : 0 ≤ b
    · by_cases h2' : b ≤ 4
      · rw [show decide (inRange (a, b, c, d)) = (decide (0 ≤ c) && decide (c ≤ 15)) by
          rw [Bool.eq_iff_iff, decide_eq_true_iff, Bool.and_eq_true, decide_eq_true_iff, decide_eq_true_iff]; exact ⟨fun h => h.2.2.2.2, fun h => ⟨h1.1, h1.2, h2, h2', h⟩⟩]
        go_enter Try.func55, Try.ntmps55
        go_wp2_with (first | (go_at_call 52; refine (isSource_is H1.out _).mono ?_; rintro e w' ⟨rfl, rfl⟩) | (go_at_call 53; refine (isKey_any c _).mono ?_; rintro e w' ⟨rfl, rfl⟩))
        go_ret
        exact ⟨rfl, below_alloc _ _⟩
      · rw [show decide (inRange (a, b, c, d)) = false from decide_eq_false (fun h => h2' h.2.2.2.1)]
        go_enter Try.func55, Try.ntmps55
        go_wp2_with (go_at_call 52; refine (isSource_is H1.out _).mono ?_; rintro e w' ⟨rfl, rfl⟩)
        go_ret
        exact ⟨rfl, below_alloc _ _⟩
    · rw [show decide (inRange (a, b, c, d)) = false from decide_eq_false (fun h => h2 h.2.2.1)]
      go_enter Try.func55, Try.ntmps55
      go_wp2_with (go_at_call 52; refine (isSource_is H1.out _).mono ?_; rintro e w' ⟨rfl, rfl⟩)
      go_ret
      exact ⟨rfl, below_alloc _ _⟩
  · have H1 := Lib.hid (decide_eq_false h1)
    rw [show decide (inRange (a, b, c, d)) = false from decide_eq_false (fun h => h1 ⟨h.1, h.2.1⟩)]
    go_enter Try.func55, Try.ntmps55
    go_wp2_with (go_at_call 52; refine (isSource_is H1.out _).mono ?_; rintro e w' ⟨rfl, rfl⟩)
    go_ret
    exact ⟨rfl, below_alloc _ _⟩

set_option maxHeartbeats 1000000 in
theorem punctFits_any (N a b c d : Int) (w : World) :
    Calls Try.prog 70 #[.int .i64 N, pv a b c d] w fun e w' => e = .returned (.bool (decide (goodP N (a, b, c, d)))) ∧ Below w.heap.size w w' := by
  have k0 := fun u : Bel (w.alloc (.cells #[.int .i64 a, .int .i64 b, .int .i64 c, .int .i64 d] 29)) => (box_punct u.w u.ok).1
  have k1 := fun u : Bel (w.alloc (.cells #[.int .i64 a, .int .i64 b, .int .i64 c, .int .i64 d] 29)) => (box_punct u.w u.ok).2.1
  have k2 := fun u : Bel (w.alloc (.cells #[.int .i64 a, .int .i64 b, .int .i64 c, .int .i64 d] 29)) => (box_punct u.w u.ok).2.2.1
  have k3 := fun u : Bel (w.alloc (.cells #[.int .i64 a, .int .i64 b, .int .i64 c, .int .i64 d] 29)) => (box_punct u.w u.ok).2.2.2
  by_cases h1 : inRange (a, b, c, d)
  · have H1 := Lib.hid (decide_eq_true h1)
    have HC := Lib.hid (fun W => keyPrefix_any c b W h1.2.2.2.2.1 h1.2.2.2.2.2 h1.2.2.1 h1.2.2.2.1)
    by_cases h2 : c % pw (4 - b) = 0
    · have t2 : (cutK c b == c) = true := by rw [beq_iff_eq]; exact cutK_self.2 h2
      rw [show decide (goodP N (a, b, c, d)) = (decide (0 ≤ d) && decide (d < N)) by
        rw [Bool.eq_iff_iff, decide_eq_true_iff, Bool.and_eq_true, decide_eq_true_iff, decide_eq_true_iff]; exact ⟨fun h => h.1, fun h => ⟨h, h1, h2⟩⟩]
      generalize cutK c b = K at *
      clear h1 h2
      go_enter Try.func70, Try.ntmps70
      go_wp2
      refine wp_region_bel (by kernel_rfl) (by kernel_rfl) ?_
      repeat (go_big_quiet_step (first | (go_at_call 55; exact bel_of _ (as_bool H1.out (placeFits_any a b c d _))) | (go_at_call 54; exact bel_of_same _ (HC.out _)) | (go_at_call 87; exact bel_of_same _ (isLabel_any N d _))))
      refine wpQuiet_nil ?_
      rintro _ ⟨u, rfl⟩
      go_wp2
      go_ret
      exact ⟨rfl, below_trans (below_alloc _ _) u.ok⟩
    · have t2 : (cutK c b == c) = false := by rw [beq_eq_false_iff_ne]; exact fun h => h2 (cutK_self.1 h)
      rw [show decide (goodP N (a, b, c, d)) = false from decide_eq_false (fun h => h2 h.2.2)]
      generalize cutK c b = K at *
      clear h1 h2
      go_enter Try.func70, Try.ntmps70
      go_wp2
      refine wp_region_bel (by kernel_rfl) (by kernel_rfl) ?_
      repeat (go_big_quiet_step (first | (go_at_call 55; exact bel_of _ (as_bool H1.out (placeFits_any a b c d _))) | (go_at_call 54; exact bel_of_same _ (HC.out _))))
      refine wpQuiet_nil ?_
      rintro _ ⟨u, rfl⟩
      go_wp2
      go_ret
      exact ⟨rfl, below_trans (below_alloc _ _) u.ok⟩
  · have H1 := Lib.hid (decide_eq_false h1)
    rw [show decide (goodP N (a, b, c, d)) = false from decide_eq_false (fun h => h1 h.2.1)]
    clear h1
    go_enter Try.func70, Try.ntmps70
    go_wp2
    refine wp_region_bel (by kernel_rfl) (by kernel_rfl) ?_
    repeat (go_big_quiet_step ((go_at_call 55; exact bel_of _ (as_bool H1.out (placeFits_any a b c d _)))))
    refine wpQuiet_nil ?_
    rintro _ ⟨u, rfl⟩
    go_wp2
    go_ret
    exact ⟨rfl, below_trans (below_alloc _ _) u.ok⟩

set_option maxHeartbeats 1000000 in
theorem implPunctHas_any (a b c d s k : Int) (w : World) :
    Calls Try.prog 18 #[pv a b c d, .int .i64 s, .int .i64 k] w fun e w' => e = .returned (.bool (decide (hasP (a, b, c, d) s k))) ∧ Below w.heap.size w w' := by
  have k0 := fun u : Bel (w.alloc (.cells #[.int .i64 a, .int .i64 b, .int .i64 c, .int .i64 d] 29)) => (box_punct u.w u.ok).1
  have k1 := fun u : Bel (w.alloc (.cells #[.int .i64 a, .int .i64 b, .int .i64 c, .int .i64 d] 29)) => (box_punct u.w u.ok).2.1
  have k2 := fun u : Bel (w.alloc (.cells #[.int .i64 a, .int .i64 b, .int .i64 c, .int .i64 d] 29)) => (box_punct u.w u.ok).2.2.1
  have k3 := fun u : Bel (w.alloc (.cells #[.int .i64 a, .int .i64 b, .int .i64 c, .int .i64 d] 29)) => (box_punct u.w u.ok).2.2.2
  by_cases h1 : inRange (a, b, c, d)
  · have H1 := Lib.hid (decide_eq_true h1)
    by_cases hs : a = s
    · have ts : (s == a) = true := by simp [hs]
      by_cases h3 : 0 ≤ k ∧ k ≤ 15
      · have H3 := Lib.hid (decide_eq_true h3)
        have HC := Lib.hid (show ∀ z, z = k ∨ z = c → 0 ≤ z ∧ z ≤ 15 from fun z hz => by rcases hz with rfl | rfl; exact h3; exact h1.2.2.2.2)
        have HP := Lib.hid (fun z (hz : z = k ∨ z = c) W => keyPrefix_any z b W (HC.out z hz).1 (HC.out z hz).2 h1.2.2.1 h1.2.2.2.1)
        have HD := Lib.hid (show decide (hasP (a, b, c, d) s k) = (cutK k b == cutK c b) by
          rw [Bool.eq_iff_iff, decide_eq_true_iff, beq_iff_eq, cutK_same]; exact ⟨fun h => h.2.2.2, fun h => ⟨h1, hs, h3, h⟩⟩)
        rw [HD.out]
        clear h1 hs h3
        go_enter Try.func18, Try.ntmps18
        go_wp2
        refine wp_region_bel (by kernel_rfl) (by kernel_rfl) ?_
        repeat (go_big_quiet_step (first | (go_at_call 55; exact bel_of _ (as_bool H1.out (placeFits_any a b c d _))) | (go_at_call 54; exact bel_of_same _ (HP.out _ (by first | exact .inl rfl | exact .inr rfl) _)) | (go_at_call 53; exact bel_of_same _ (isKey_is H3.out _))))
        refine wpQuiet_nil ?_
        rintro _ ⟨u, rfl⟩
        go_wp2
        go_ret
        exact ⟨rfl, below_trans (below_alloc _ _) u.ok⟩
      · have H3 := Lib.hid (decide_eq_false h3)
        rw [show decide (hasP (a, b, c, d) s k) = false from decide_eq_false (fun h => h3 h.2.2.1)]
        clear h1 hs h3
        go_enter Try.func18, Try.ntmps18
        go_wp2
        refine wp_region_bel (by kernel_rfl) (by kernel_rfl) ?_
        repeat (go_big_quiet_step (first | (go_at_call 55; exact bel_of _ (as_bool H1.out (placeFits_any a b c d _))) | (go_at_call 53; exact bel_of_same _ (isKey_is H3.out _))))
        refine wpQuiet_nil ?_
        rintro _ ⟨u, rfl⟩
        go_wp2
        go_ret
        exact ⟨rfl, below_trans (below_alloc _ _) u.ok⟩
    · have ts : (s == a) = false := by rw [beq_eq_false_iff_ne]; exact fun h => hs h.symm
      rw [show decide (hasP (a, b, c, d) s k) = false from decide_eq_false (fun h => hs h.2.1)]
      clear h1 hs
      go_enter Try.func18, Try.ntmps18
      go_wp2
      refine wp_region_bel (by kernel_rfl) (by kernel_rfl) ?_
      repeat (go_big_quiet_step ((go_at_call 55; exact bel_of _ (as_bool H1.out (placeFits_any a b c d _)))))
      refine wpQuiet_nil ?_
      rintro _ ⟨u, rfl⟩
      go_wp2
      go_ret
      exact ⟨rfl, below_trans (below_alloc _ _) u.ok⟩
  · have H1 := Lib.hid (decide_eq_false h1)
    rw [show decide (hasP (a, b, c, d) s k) = false from decide_eq_false (fun h => h1 h.1)]
    clear h1
    go_enter Try.func18, Try.ntmps18
    go_wp2
    refine wp_region_bel (by kernel_rfl) (by kernel_rfl) ?_
    repeat (go_big_quiet_step ((go_at_call 55; exact bel_of _ (as_bool H1.out (placeFits_any a b c d _)))))
    refine wpQuiet_nil ?_
    rintro _ ⟨u, rfl⟩
    go_wp2
    go_ret
    exact ⟨rfl, below_trans (below_alloc _ _) u.ok⟩
end Go.Proofs.Ytipcjofmplpffaa
