/-
  The model's l04Right, PunctHas, l04Less and l04One: what they return.
-/
import Derived.Test.YtipcjofmplpffaaPunctS
namespace Go.Proofs.Ytipcjofmplpffaa
open Go.RowKit

abbrev pv (a b c d : Int) : Value := .agg #[.int .i64 a, .int .i64 b, .int .i64 c, .int .i64 d]
/-- a boxed punct, while the world grows -/
theorem box_punct {w : World} {a b c d : Int} (W : World) (h : Below (w.alloc (.cells #[.int .i64 a, .int .i64 b, .int .i64 c, .int .i64 d] 29)).heap.size (w.alloc (.cells #[.int .i64 a, .int .i64 b, .int .i64 c, .int .i64 d] 29)) W) :
    W.cell? ⟨w.heap.size, 0, none⟩ = some (.int .i64 a) ∧ W.cell? ⟨w.heap.size, 1, none⟩ = some (.int .i64 b) ∧ W.cell? ⟨w.heap.size, 2, none⟩ = some (.int .i64 c) ∧ W.cell? ⟨w.heap.size, 3, none⟩ = some (.int .i64 d) := by
  have ho : Own W w.heap.size 29 [.int .i64 a, .int .i64 b, .int .i64 c, .int .i64 d] := (Own.new w _ [.int .i64 a, .int .i64 b, .int .i64 c, .int .i64 d]).grow h
  exact ⟨ho.cell 0, ho.cell 1, ho.cell 2, ho.cell 3⟩

theorem below_drewN {B : Nat} {a w : World} (h : Below B a w) (n : Nat) : Below B a (w.drewN n) := ⟨h.os, h.tape, h.output, h.size, h.block⟩
theorem tmod_pos {a b : Int} (ha : 0 ≤ a) : a.tmod b = a % b := Int.tmod_eq_emod_of_nonneg ha
theorem tdiv_pos {a b : Int} (ha : 0 ≤ a) : a.tdiv b = a / b := Int.tdiv_eq_ediv_of_nonneg ha

set_option maxHeartbeats 1000000 in
theorem l04Right_any (a b c d : Int) (w : World) :
    Calls Try.prog 58 #[pv a b c d] w fun e w' => e = .returned (.bool (decide (rightP (a, b, c, d)))) ∧ Below w.heap.size w w' := by
  have k0 := fun u : Bel (w.alloc (.cells #[.int .i64 a, .int .i64 b, .int .i64 c, .int .i64 d] 29)) => (box_punct u.w u.ok).1
  have k1 := fun u : Bel (w.alloc (.cells #[.int .i64 a, .int .i64 b, .int .i64 c, .int .i64 d] 29)) => (box_punct u.w u.ok).2.1
  have k2 := fun u : Bel (w.alloc (.cells #[.int .i64 a, .int .i64 b, .int .i64 c, .int .i64 d] 29)) => (box_punct u.w u.ok).2.2.1
  by_cases h1 : 0 ≤ a ∧ a < 4
  · have H1 := Lib.hid (decide_eq_true h1)
    by_cases h2 : 0 ≤ b ∧ b ≤ 4
    · have H2 := Lib.hid (decide_eq_true h2)
      by_cases h3 : 0 ≤ c ∧ c ≤ 15
      · have H3 := Lib.hid (decide_eq_true h3)
        have hL := pw_range (4 - b)
        have HP := Lib.hid (fun W => l04Pow_any (4 - b) W (by omega) (by omega))
        have HD := Lib.hid (show decide (rightP (a, b, c, d)) = (c % pw (4 - b) == 0) by
          rw [Bool.eq_iff_iff, decide_eq_true_iff, beq_iff_eq]; exact ⟨fun h => h.2, fun h => ⟨⟨h1.1, h1.2, h2.1, h2.2, h3.1, h3.2⟩, h⟩⟩)
        rw [HD.out]
        generalize pw (4 - b) = L at *
        have hz : (L == 0) = false := by simp; omega
        go_enter Try.func58, Try.ntmps58
        go_wp2
        refine wp_region_bel (by kernel_rfl) (by kernel_rfl) ?_
        repeat (go_big_quiet_step (first | (go_at_call 48; exact bel_of_same _ (l04Src_is H1.out _)) | (go_at_call 49; exact bel_of_same _ (l04Bits_is H2.out _)) | (go_at_call 50; exact bel_of_same _ (l04Key_is H3.out _)) | (go_at_call 51; exact bel_of_same _ (HP.out _))))
        refine wpQuiet_nil ?_
        rintro _ ⟨u, rfl⟩
        go_wp2
        go_ret
        exact ⟨rfl, below_trans (below_alloc _ _) u.ok⟩
      · have H3 := Lib.hid (decide_eq_false h3)
        rw [show decide (rightP (a, b, c, d)) = false from decide_eq_false (fun h => h3 ⟨h.1.2.2.2.2.1, h.1.2.2.2.2.2⟩)]
        go_enter Try.func58, Try.ntmps58
        go_wp2
        refine wp_region_bel (by kernel_rfl) (by kernel_rfl) ?_
        repeat (go_big_quiet_step (first | (go_at_call 48; exact bel_of_same _ (l04Src_is H1.out _)) | (go_at_call 49; exact bel_of_same _ (l04Bits_is H2.out _)) | (go_at_call 50; exact bel_of_same _ (l04Key_is H3.out _))))
        refine wpQuiet_nil ?_
        rintro _ ⟨u, rfl⟩
        go_wp2
        go_ret
        exact ⟨rfl, below_trans (below_alloc _ _) u.ok⟩
    · have H2 := Lib.hid (decide_eq_false h2)
      rw [show decide (rightP (a, b, c, d)) = false from decide_eq_false (fun h => h2 ⟨h.1.2.2.1, h.1.2.2.2.1⟩)]
      go_enter Try.func58, Try.ntmps58
      go_wp2
      refine wp_region_bel (by kernel_rfl) (by kernel_rfl) ?_
      repeat (go_big_quiet_step (first | (go_at_call 48; exact bel_of_same _ (l04Src_is H1.out _)) | (go_at_call 49; exact bel_of_same _ (l04Bits_is H2.out _))))
      refine wpQuiet_nil ?_
      rintro _ ⟨u, rfl⟩
      go_wp2
      go_ret
      exact ⟨rfl, below_trans (below_alloc _ _) u.ok⟩
  · have H1 := Lib.hid (decide_eq_false h1)
    rw [show decide (rightP (a, b, c, d)) = false from decide_eq_false (fun h => h1 ⟨h.1.1, h.1.2.1⟩)]
    go_enter Try.func58, Try.ntmps58
    go_wp2
    refine wp_region_bel (by kernel_rfl) (by kernel_rfl) ?_
    repeat (go_big_quiet_step ((go_at_call 48; exact bel_of_same _ (l04Src_is H1.out _))))
    refine wpQuiet_nil ?_
    rintro _ ⟨u, rfl⟩
    go_wp2
    go_ret
    exact ⟨rfl, below_trans (below_alloc _ _) u.ok⟩

set_option maxHeartbeats 1000000 in
theorem specPunctHas_any (a b c d s k : Int) (w : World) :
    Calls Try.prog 16 #[pv a b c d, .int .i64 s, .int .i64 k] w fun e w' => e = .returned (.bool (decide (hasP (a, b, c, d) s k))) ∧ Below w.heap.size w w' := by
  by_cases h1 : 0 ≤ a ∧ a < 4
  · have H1 := Lib.hid (decide_eq_true h1)
    by_cases h2 : 0 ≤ b ∧ b ≤ 4
    · have H2 := Lib.hid (decide_eq_true h2)
      by_cases hs : a = s
      · have ts : (a != s) = false := by simp [hs]
        by_cases h3 : 0 ≤ k ∧ k ≤ 15
        · have H3 := Lib.hid (decide_eq_true h3)
          by_cases h4 : 0 ≤ c ∧ c ≤ 15
          · have HK := Lib.hid (show ∀ z, z = k ∨ z = c → decide (0 ≤ z ∧ z ≤ 15) = true from fun z hz => by rcases hz with rfl | rfl <;> simp [*])
            have hL := pw_range (4 - b)
            have HP := Lib.hid (fun W => l04Pow_any (4 - b) W (by omega) (by omega))
            have HD := Lib.hid (show decide (hasP (a, b, c, d) s k) = (k / pw (4 - b) == c / pw (4 - b)) by
              rw [Bool.eq_iff_iff, decide_eq_true_iff, beq_iff_eq]; exact ⟨fun h => h.2.2.2, fun h => ⟨⟨h1.1, h1.2, h2.1, h2.2, h4.1, h4.2⟩, hs, h3, h⟩⟩)
            rw [HD.out]
            have hq1 : 0 ≤ k / pw (4 - b) ∧ k / pw (4 - b) ≤ k := ⟨Int.ediv_nonneg h3.1 (by omega), Int.ediv_le_self _ h3.1⟩
            have hq2 : 0 ≤ c / pw (4 - b) ∧ c / pw (4 - b) ≤ c := ⟨Int.ediv_nonneg h4.1 (by omega), Int.ediv_le_self _ h4.1⟩
            generalize pw (4 - b) = L at *
            have hz : (L == 0) = false := by simp; omega
            clear hs
            go_enter Try.func16, Try.ntmps16
            go_wp2_with (first | (go_at_call 48; refine (l04Src_is H1.out _).mono ?_; rintro e w' ⟨rfl, rfl⟩) | (go_at_call 49; refine (l04Bits_is H2.out _).mono ?_; rintro e w' ⟨rfl, rfl⟩) | (go_at_call 50; refine (l04Key_is (HK.out _ (by first | exact .inl rfl | exact .inr rfl)) _).mono ?_; rintro e w' ⟨rfl, rfl⟩) | (go_at_call 51; refine (HP.out _).mono ?_; rintro e w' ⟨rfl, rfl⟩))
            go_quiet (fail)
            go_wp2
            go_ret
            exact ⟨rfl, below_drewN (below_alloc _ _) _⟩
          · have HK := Lib.hid (show ∀ z, (z = k → decide (0 ≤ z ∧ z ≤ 15) = true) ∧ (z = c → decide (0 ≤ z ∧ z ≤ 15) = false) from fun z => ⟨fun e => by rw [e]; exact decide_eq_true h3, fun e => by rw [e]; exact decide_eq_false h4⟩)
            have hkc : k ≠ c := fun e => h4 (e ▸ h3)
            clear hs
            rw [show decide (hasP (a, b, c, d) s k) = false from decide_eq_false (fun h => h4 ⟨h.1.2.2.2.2.1, h.1.2.2.2.2.2⟩)]
            go_enter Try.func16, Try.ntmps16
            go_wp2_with (first | (go_at_call 48; refine (l04Src_is H1.out _).mono ?_; rintro e w' ⟨rfl, rfl⟩) | (go_at_call 49; refine (l04Bits_is H2.out _).mono ?_; rintro e w' ⟨rfl, rfl⟩) | (go_at_call 50; first | (refine (l04Key_is ((HK.out _).1 (by rfl)) _).mono ?_; rintro e w' ⟨rfl, rfl⟩) | (refine (l04Key_is ((HK.out _).2 (by rfl)) _).mono ?_; rintro e w' ⟨rfl, rfl⟩)))
            go_ret
            exact ⟨rfl, below_alloc _ _⟩
        · have H3 := Lib.hid (decide_eq_false h3)
          clear hs
          rw [show decide (hasP (a, b, c, d) s k) = false from decide_eq_false (fun h => h3 h.2.2.1)]
          go_enter Try.func16, Try.ntmps16
          go_wp2_with (first | (go_at_call 48; refine (l04Src_is H1.out _).mono ?_; rintro e w' ⟨rfl, rfl⟩) | (go_at_call 49; refine (l04Bits_is H2.out _).mono ?_; rintro e w' ⟨rfl, rfl⟩) | (go_at_call 50; refine (l04Key_is H3.out _).mono ?_; rintro e w' ⟨rfl, rfl⟩))
          go_ret
          exact ⟨rfl, below_alloc _ _⟩
      · have ts : (a != s) = true := by simpa using hs
        rw [show decide (hasP (a, b, c, d) s k) = false from decide_eq_false (fun h => hs h.2.1)]
        go_enter Try.func16, Try.ntmps16
        go_wp2_with (first | (go_at_call 48; refine (l04Src_is H1.out _).mono ?_; rintro e w' ⟨rfl, rfl⟩) | (go_at_call 49; refine (l04Bits_is H2.out _).mono ?_; rintro e w' ⟨rfl, rfl⟩))
        go_ret
        exact ⟨rfl, below_alloc _ _⟩
    · have H2 := Lib.hid (decide_eq_false h2)
      rw [show decide (hasP (a, b, c, d) s k) = false from decide_eq_false (fun h => h2 ⟨h.1.2.2.1, h.1.2.2.2.1⟩)]
      go_enter Try.func16, Try.ntmps16
      go_wp2_with (first | (go_at_call 48; refine (l04Src_is H1.out _).mono ?_; rintro e w' ⟨rfl, rfl⟩) | (go_at_call 49; refine (l04Bits_is H2.out _).mono ?_; rintro e w' ⟨rfl, rfl⟩))
      go_ret
      exact ⟨rfl, below_alloc _ _⟩
  · have H1 := Lib.hid (decide_eq_false h1)
    rw [show decide (hasP (a, b, c, d) s k) = false from decide_eq_false (fun h => h1 ⟨h.1.1, h.1.2.1⟩)]
    go_enter Try.func16, Try.ntmps16
    go_wp2_with (go_at_call 48; refine (l04Src_is H1.out _).mono ?_; rintro e w' ⟨rfl, rfl⟩)
    go_ret
    exact ⟨rfl, below_alloc _ _⟩

set_option maxHeartbeats 1000000 in
theorem l04Less_any (a b c d a' b' c' d' : Int) (w : World) :
    Calls Try.prog 44 #[pv a b c d, pv a' b' c' d'] w fun e w' => e = .returned (.bool (decide (lessP (a, b, c, d) (a', b', c', d')))) ∧ Below w.heap.size w w' := by
  have HB := Lib.hid (below_trans (below_alloc w (.cells #[.int .i64 a, .int .i64 b, .int .i64 c, .int .i64 d] 29)) (below_alloc _ (.cells #[.int .i64 a', .int .i64 b', .int .i64 c', .int .i64 d'] 29)))
  by_cases h1 : a = a'
  · subst h1
    have t1 : (a != a) = false := by simp
    by_cases h2 : b = b'
    · subst h2
      have t2 : (b != b) = false := by simp
      rw [show decide (lessP (a, b, c, d) (a, b, c', d')) = decide (c < c') from decide_eq_decide.2 (by simp [lessP])]
      go_enter Try.func44, Try.ntmps44
      go_wp2
      go_ret
      exact ⟨rfl, HB.out⟩
    · have t2 : (b != b') = true := by simpa using h2
      rw [show decide (lessP (a, b, c, d) (a, b', c', d')) = decide (b < b') from decide_eq_decide.2 (by simp [lessP, h2])]
      clear h2
      go_enter Try.func44, Try.ntmps44
      go_wp2
      go_ret
      exact ⟨rfl, HB.out⟩
  · have t1 : (a != a') = true := by simpa using h1
    rw [show decide (lessP (a, b, c, d) (a', b', c', d')) = decide (a < a') from decide_eq_decide.2 (by simp [lessP, h1])]
    clear h1
    go_enter Try.func44, Try.ntmps44
    go_wp2
    go_ret
    exact ⟨rfl, HB.out⟩

set_option maxHeartbeats 1000000 in
theorem l04One_any (a b c d a' b' c' d' : Int) (w : World) :
    Calls Try.prog 77 #[pv a b c d, pv a' b' c' d'] w fun e w' => e = .returned (.bool (decide (sameP (a, b, c, d) (a', b', c', d')))) ∧ Below w.heap.size w w' := by
  have HB := Lib.hid (below_trans (below_alloc w (.cells #[.int .i64 a, .int .i64 b, .int .i64 c, .int .i64 d] 29)) (below_alloc _ (.cells #[.int .i64 a', .int .i64 b', .int .i64 c', .int .i64 d'] 29)))
  by_cases h1 : a = a'
  · subst h1
    have t1 : (a == a) = true := by simp
    by_cases h2 : b = b'
    · subst h2
      have t2 : (b == b) = true := by simp
      rw [show decide (sameP (a, b, c, d) (a, b, c', d')) = (c == c') by rw [Bool.eq_iff_iff]; simp [sameP]]
      go_enter Try.func77, Try.ntmps77
      go_wp2
      go_ret
      exact ⟨rfl, HB.out⟩
    · have t2 : (b == b') = false := by simpa using h2
      rw [show decide (sameP (a, b, c, d) (a, b', c', d')) = false from decide_eq_false (fun h => h2 h.2.1)]
      clear h2
      go_enter Try.func77, Try.ntmps77
      go_wp2
      go_ret
      exact ⟨rfl, HB.out⟩
  · have t1 : (a == a') = false := by simpa using h1
    rw [show decide (sameP (a, b, c, d) (a', b', c', d')) = false from decide_eq_false (fun h => h1 h.1)]
    clear h1
    go_enter Try.func77, Try.ntmps77
    go_wp2
    go_ret
    exact ⟨rfl, HB.out⟩
end Go.Proofs.Ytipcjofmplpffaa
