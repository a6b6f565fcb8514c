/-
  Windows: the small functions of the model and of the program: what they return.
-/
import Derived.Test.YtlmlckgnmkjkdaaWinLawB
import Derived.Test.YtlmlckgnmkjkdaaKitWin
import Derived.Test.YtlmlckgnmkjkdaaKitWinDef
namespace Go.Proofs.Ytlmlckgnmkjkdaa
open Go.RowKit

/-- a time -/
def isT (t : Int) : Prop := 0 ≤ t ∧ t ≤ 1000
set_option maxHeartbeats 400000 in
theorem l05Time_any (t : Int) (w : World) : Calls Try.prog 67 #[.int .i64 t] w fun e w' => e = .returned (.bool (tf (isT t))) ∧ w = w' := by
  by_cases h0 : 0 ≤ t
  · by_cases h1 : t ≤ 1000
    · go_enter Try.func67, Try.ntmps67
      go_wp2
      go_ret
      first | exact ⟨ret_bool (tf_yes (by unfold isT; omega)), rfl⟩ | exact ⟨ret_bool (tf_no (by unfold isT; omega)), rfl⟩
    · go_enter Try.func67, Try.ntmps67
      go_wp2
      go_ret
      first | exact ⟨ret_bool (tf_yes (by unfold isT; omega)), rfl⟩ | exact ⟨ret_bool (tf_no (by unfold isT; omega)), rfl⟩
  · go_enter Try.func67, Try.ntmps67
    go_wp2
    go_ret
    first | exact ⟨ret_bool (tf_yes (by unfold isT; omega)), rfl⟩ | exact ⟨ret_bool (tf_no (by unfold isT; omega)), rfl⟩
set_option maxHeartbeats 400000 in
theorem isTime_any (t : Int) (w : World) : Calls Try.prog 70 #[.int .i64 t] w fun e w' => e = .returned (.bool (tf (isT t))) ∧ w = w' := by
  by_cases h0 : 0 ≤ t
  · by_cases h1 : t ≤ 1000
    · go_enter Try.func70, Try.ntmps70
      go_wp2
      go_ret
      first | exact ⟨ret_bool (tf_yes (by unfold isT; omega)), rfl⟩ | exact ⟨ret_bool (tf_no (by unfold isT; omega)), rfl⟩
    · go_enter Try.func70, Try.ntmps70
      go_wp2
      go_ret
      first | exact ⟨ret_bool (tf_yes (by unfold isT; omega)), rfl⟩ | exact ⟨ret_bool (tf_no (by unfold isT; omega)), rfl⟩
  · go_enter Try.func70, Try.ntmps70
    go_wp2
    go_ret
    first | exact ⟨ret_bool (tf_yes (by unfold isT; omega)), rfl⟩ | exact ⟨ret_bool (tf_no (by unfold isT; omega)), rfl⟩
set_option maxHeartbeats 400000 in
theorem l06Win_any (a b : Int) (w : World) : Calls Try.prog 72 #[.agg #[.int .i64 a, .int .i64 b]] w fun e w' => e = .returned (.bool (tf (winOk (a, b)))) ∧ Below w.heap.size w w' := by
  by_cases h0 : 0 ≤ a
  · by_cases h1 : a < b
    · by_cases h2 : b ≤ 1100
      · go_enter Try.func72, Try.ntmps72
        go_wp2
        go_ret
        first | exact ⟨ret_bool (tf_yes (by unfold winOk; omega)), below_alloc _ _⟩ | exact ⟨ret_bool (tf_no (by unfold winOk; omega)), below_alloc _ _⟩
      · go_enter Try.func72, Try.ntmps72
        go_wp2
        go_ret
        first | exact ⟨ret_bool (tf_yes (by unfold winOk; omega)), below_alloc _ _⟩ | exact ⟨ret_bool (tf_no (by unfold winOk; omega)), below_alloc _ _⟩
    · go_enter Try.func72, Try.ntmps72
      go_wp2
      go_ret
      first | exact ⟨ret_bool (tf_yes (by unfold winOk; omega)), below_alloc _ _⟩ | exact ⟨ret_bool (tf_no (by unfold winOk; omega)), below_alloc _ _⟩
  · go_enter Try.func72, Try.ntmps72
    go_wp2
    go_ret
    first | exact ⟨ret_bool (tf_yes (by unfold winOk; omega)), below_alloc _ _⟩ | exact ⟨ret_bool (tf_no (by unfold winOk; omega)), below_alloc _ _⟩
set_option maxHeartbeats 400000 in
theorem isWin_any (a b : Int) (w : World) : Calls Try.prog 75 #[.agg #[.int .i64 a, .int .i64 b]] w fun e w' => e = .returned (.bool (tf (winOk (a, b)))) ∧ Below w.heap.size w w' := by
  by_cases h0 : 0 ≤ a
  · by_cases h1 : a < b
    · by_cases h2 : b ≤ 1100
      · go_enter Try.func75, Try.ntmps75
        go_wp2
        go_ret
        first | exact ⟨ret_bool (tf_yes (by unfold winOk; omega)), below_alloc _ _⟩ | exact ⟨ret_bool (tf_no (by unfold winOk; omega)), below_alloc _ _⟩
      · go_enter Try.func75, Try.ntmps75
        go_wp2
        go_ret
        first | exact ⟨ret_bool (tf_yes (by unfold winOk; omega)), below_alloc _ _⟩ | exact ⟨ret_bool (tf_no (by unfold winOk; omega)), below_alloc _ _⟩
    · go_enter Try.func75, Try.ntmps75
      go_wp2
      go_ret
      first | exact ⟨ret_bool (tf_yes (by unfold winOk; omega)), below_alloc _ _⟩ | exact ⟨ret_bool (tf_no (by unfold winOk; omega)), below_alloc _ _⟩
  · go_enter Try.func75, Try.ntmps75
    go_wp2
    go_ret
    first | exact ⟨ret_bool (tf_yes (by unfold winOk; omega)), below_alloc _ _⟩ | exact ⟨ret_bool (tf_no (by unfold winOk; omega)), below_alloc _ _⟩
set_option maxHeartbeats 1000000 in
theorem specWinOk_any (k s t : Int) (w : World) : Calls Try.prog 56 #[.agg #[.int .i64 k, .int .i64 s, .int .i64 t]] w fun e w' => e = .returned (.bool (tf (defOk k s t))) ∧ Below w.heap.size w w' := by
  by_cases h0 : k < 1
  · go_enter Try.func56, Try.ntmps56
    go_wp2
    go_ret
    first | exact ⟨ret_bool (tf_yes (by unfold defOk; omega)), below_alloc _ _⟩ | exact ⟨ret_bool (tf_no (by unfold defOk; omega)), below_alloc _ _⟩ | exact ⟨ret_bool ((show (t == 0) = false by simpa using ‹¬ t = 0›).trans (tf_no (by unfold defOk; omega))), below_alloc _ _⟩
  · by_cases h1 : 3 < k
    · go_enter Try.func56, Try.ntmps56
      go_wp2
      go_ret
      first | exact ⟨ret_bool (tf_yes (by unfold defOk; omega)), below_alloc _ _⟩ | exact ⟨ret_bool (tf_no (by unfold defOk; omega)), below_alloc _ _⟩ | exact ⟨ret_bool ((show (t == 0) = false by simpa using ‹¬ t = 0›).trans (tf_no (by unfold defOk; omega))), below_alloc _ _⟩
    · by_cases h2 : s < 1
      · go_enter Try.func56, Try.ntmps56
        go_wp2
        go_ret
        first | exact ⟨ret_bool (tf_yes (by unfold defOk; omega)), below_alloc _ _⟩ | exact ⟨ret_bool (tf_no (by unfold defOk; omega)), below_alloc _ _⟩ | exact ⟨ret_bool ((show (t == 0) = false by simpa using ‹¬ t = 0›).trans (tf_no (by unfold defOk; omega))), below_alloc _ _⟩
      · by_cases h3 : 100 < s
        · go_enter Try.func56, Try.ntmps56
          go_wp2
          go_ret
          first | exact ⟨ret_bool (tf_yes (by unfold defOk; omega)), below_alloc _ _⟩ | exact ⟨ret_bool (tf_no (by unfold defOk; omega)), below_alloc _ _⟩ | exact ⟨ret_bool ((show (t == 0) = false by simpa using ‹¬ t = 0›).trans (tf_no (by unfold defOk; omega))), below_alloc _ _⟩
        · by_cases h4 : k = 2
          · by_cases h5 : 1 ≤ t
            · by_cases h6 : t ≤ s
              · by_cases h7 : s ≤ 8 * t
                · go_enter Try.func56, Try.ntmps56
                  go_wp2
                  go_ret
                  first | exact ⟨ret_bool (tf_yes (by unfold defOk; omega)), below_alloc _ _⟩ | exact ⟨ret_bool (tf_no (by unfold defOk; omega)), below_alloc _ _⟩ | exact ⟨ret_bool ((show (t == 0) = false by simpa using ‹¬ t = 0›).trans (tf_no (by unfold defOk; omega))), below_alloc _ _⟩
                · go_enter Try.func56, Try.ntmps56
                  go_wp2
                  go_ret
                  first | exact ⟨ret_bool (tf_yes (by unfold defOk; omega)), below_alloc _ _⟩ | exact ⟨ret_bool (tf_no (by unfold defOk; omega)), below_alloc _ _⟩ | exact ⟨ret_bool ((show (t == 0) = false by simpa using ‹¬ t = 0›).trans (tf_no (by unfold defOk; omega))), below_alloc _ _⟩
              · go_enter Try.func56, Try.ntmps56
                go_wp2
                go_ret
                first | exact ⟨ret_bool (tf_yes (by unfold defOk; omega)), below_alloc _ _⟩ | exact ⟨ret_bool (tf_no (by unfold defOk; omega)), below_alloc _ _⟩ | exact ⟨ret_bool ((show (t == 0) = false by simpa using ‹¬ t = 0›).trans (tf_no (by unfold defOk; omega))), below_alloc _ _⟩
            · go_enter Try.func56, Try.ntmps56
              go_wp2
              go_ret
              first | exact ⟨ret_bool (tf_yes (by unfold defOk; omega)), below_alloc _ _⟩ | exact ⟨ret_bool (tf_no (by unfold defOk; omega)), below_alloc _ _⟩ | exact ⟨ret_bool ((show (t == 0) = false by simpa using ‹¬ t = 0›).trans (tf_no (by unfold defOk; omega))), below_alloc _ _⟩
          · by_cases h5 : t = 0
            · go_enter Try.func56, Try.ntmps56
              go_wp2
              go_ret
              first | exact ⟨ret_bool (tf_yes (by unfold defOk; omega)), below_alloc _ _⟩ | exact ⟨ret_bool (tf_no (by unfold defOk; omega)), below_alloc _ _⟩ | exact ⟨ret_bool ((show (t == 0) = false by simpa using ‹¬ t = 0›).trans (tf_no (by unfold defOk; omega))), below_alloc _ _⟩
            · go_enter Try.func56, Try.ntmps56
              go_wp2
              go_ret
              first | exact ⟨ret_bool (tf_yes (by unfold defOk; omega)), below_alloc _ _⟩ | exact ⟨ret_bool (tf_no (by unfold defOk; omega)), below_alloc _ _⟩ | exact ⟨ret_bool ((show (t == 0) = false by simpa using ‹¬ t = 0›).trans (tf_no (by unfold defOk; omega))), below_alloc _ _⟩
set_option maxHeartbeats 1000000 in
theorem implWinOk_any (k s t : Int) (w : World) : Calls Try.prog 99 #[.agg #[.int .i64 k, .int .i64 s, .int .i64 t]] w fun e w' => e = .returned (.bool (tf (defOk k s t))) ∧ Below w.heap.size w w' := by
  by_cases h0 : s < 1
  · go_enter Try.func99, Try.ntmps99
    go_wp2
    go_ret
    first | exact ⟨ret_bool (tf_yes (by unfold defOk; omega)), below_alloc _ _⟩ | exact ⟨ret_bool (tf_no (by unfold defOk; omega)), below_alloc _ _⟩ | exact ⟨ret_bool ((show (t == 0) = false by simpa using ‹¬ t = 0›).trans (tf_no (by unfold defOk; omega))), below_alloc _ _⟩
  · by_cases h1 : 100 < s
    · go_enter Try.func99, Try.ntmps99
      go_wp2
      go_ret
      first | exact ⟨ret_bool (tf_yes (by unfold defOk; omega)), below_alloc _ _⟩ | exact ⟨ret_bool (tf_no (by unfold defOk; omega)), below_alloc _ _⟩ | exact ⟨ret_bool ((show (t == 0) = false by simpa using ‹¬ t = 0›).trans (tf_no (by unfold defOk; omega))), below_alloc _ _⟩
    · by_cases h2 : k = 1
      · by_cases h3 : t = 0
        · go_enter Try.func99, Try.ntmps99
          go_wp2
          go_ret
          first | exact ⟨ret_bool (tf_yes (by unfold defOk; omega)), below_alloc _ _⟩ | exact ⟨ret_bool (tf_no (by unfold defOk; omega)), below_alloc _ _⟩ | exact ⟨ret_bool ((show (t == 0) = false by simpa using ‹¬ t = 0›).trans (tf_no (by unfold defOk; omega))), below_alloc _ _⟩
        · go_enter Try.func99, Try.ntmps99
          go_wp2
          go_ret
          first | exact ⟨ret_bool (tf_yes (by unfold defOk; omega)), below_alloc _ _⟩ | exact ⟨ret_bool (tf_no (by unfold defOk; omega)), below_alloc _ _⟩ | exact ⟨ret_bool ((show (t == 0) = false by simpa using ‹¬ t = 0›).trans (tf_no (by unfold defOk; omega))), below_alloc _ _⟩
      · by_cases h3 : k = 3
        · by_cases h4 : t = 0
          · go_enter Try.func99, Try.ntmps99
            go_wp2
            go_ret
            first | exact ⟨ret_bool (tf_yes (by unfold defOk; omega)), below_alloc _ _⟩ | exact ⟨ret_bool (tf_no (by unfold defOk; omega)), below_alloc _ _⟩ | exact ⟨ret_bool ((show (t == 0) = false by simpa using ‹¬ t = 0›).trans (tf_no (by unfold defOk; omega))), below_alloc _ _⟩
          · go_enter Try.func99, Try.ntmps99
            go_wp2
            go_ret
            first | exact ⟨ret_bool (tf_yes (by unfold defOk; omega)), below_alloc _ _⟩ | exact ⟨ret_bool (tf_no (by unfold defOk; omega)), below_alloc _ _⟩ | exact ⟨ret_bool ((show (t == 0) = false by simpa using ‹¬ t = 0›).trans (tf_no (by unfold defOk; omega))), below_alloc _ _⟩
        · by_cases h4 : k = 2
          · by_cases h5 : 1 ≤ t
            · by_cases h6 : t ≤ s
              · by_cases h7 : s ≤ 8 * t
                · go_enter Try.func99, Try.ntmps99
                  go_wp2
                  go_ret
                  first | exact ⟨ret_bool (tf_yes (by unfold defOk; omega)), below_alloc _ _⟩ | exact ⟨ret_bool (tf_no (by unfold defOk; omega)), below_alloc _ _⟩ | exact ⟨ret_bool ((show (t == 0) = false by simpa using ‹¬ t = 0›).trans (tf_no (by unfold defOk; omega))), below_alloc _ _⟩
                · go_enter Try.func99, Try.ntmps99
                  go_wp2
                  go_ret
                  first | exact ⟨ret_bool (tf_yes (by unfold defOk; omega)), below_alloc _ _⟩ | exact ⟨ret_bool (tf_no (by unfold defOk; omega)), below_alloc _ _⟩ | exact ⟨ret_bool ((show (t == 0) = false by simpa using ‹¬ t = 0›).trans (tf_no (by unfold defOk; omega))), below_alloc _ _⟩
              · go_enter Try.func99, Try.ntmps99
                go_wp2
                go_ret
                first | exact ⟨ret_bool (tf_yes (by unfold defOk; omega)), below_alloc _ _⟩ | exact ⟨ret_bool (tf_no (by unfold defOk; omega)), below_alloc _ _⟩ | exact ⟨ret_bool ((show (t == 0) = false by simpa using ‹¬ t = 0›).trans (tf_no (by unfold defOk; omega))), below_alloc _ _⟩
            · go_enter Try.func99, Try.ntmps99
              go_wp2
              go_ret
              first | exact ⟨ret_bool (tf_yes (by unfold defOk; omega)), below_alloc _ _⟩ | exact ⟨ret_bool (tf_no (by unfold defOk; omega)), below_alloc _ _⟩ | exact ⟨ret_bool ((show (t == 0) = false by simpa using ‹¬ t = 0›).trans (tf_no (by unfold defOk; omega))), below_alloc _ _⟩
          · go_enter Try.func99, Try.ntmps99
            go_wp2
            go_ret
            first | exact ⟨ret_bool (tf_yes (by unfold defOk; omega)), below_alloc _ _⟩ | exact ⟨ret_bool (tf_no (by unfold defOk; omega)), below_alloc _ _⟩ | exact ⟨ret_bool ((show (t == 0) = false by simpa using ‹¬ t = 0›).trans (tf_no (by unfold defOk; omega))), below_alloc _ _⟩
end Go.Proofs.Ytlmlckgnmkjkdaa
