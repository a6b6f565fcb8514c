/-
  ElemOk, the model's and the program's: what they return. WRITTEN BY tools/genpane.py.
-/
import Derived.Test.YtlmlckgnmkjkdaaSrcKey
import Derived.Test.YtlmlckgnmkjkdaaWinS
import Derived.Test.YtlmlckgnmkjkdaaCmpOr
import Derived.Test.YtlmlckgnmkjkdaaOwnsS
namespace Go.Proofs.Ytlmlckgnmkjkdaa
open Go.RowKit

theorem Own.fourth {w : World} {g : Nat} {t : TypeId} {c0 c1 c2 c3 : Value} (h : Own w g t [c0, c1, c2, c3]) : w.cell? ⟨g, 0, none⟩ = some c0 ∧ w.cell? ⟨g, 1, none⟩ = some c1 ∧ w.cell? ⟨g, 2, none⟩ = some c2 ∧ w.cell? ⟨g, 3, none⟩ = some c3 :=
  ⟨h.cell 0, h.cell 1, h.cell 2, h.cell 3⟩
def elemOk (s k t : Int) : Prop := (0 ≤ s ∧ s < 4) ∧ (0 ≤ k ∧ k ≤ 15) ∧ isT t
abbrev elv (s k v t : Int) : Value := .agg #[.int .i64 s, .int .i64 k, .int .i64 v, .int .i64 t]

set_option maxHeartbeats 1000000 in
theorem specElemOk_any (s k v t : Int) (w : World) :
    Calls Try.prog 21 #[elv s k v t] w fun e w' => e = .returned (.bool (tf (elemOk s k t))) ∧ Below w.heap.size w w' := by
  have o1 := Own.new w 49 [.int .i64 s, .int .i64 k, .int .i64 v, .int .i64 t]
  have hb := below_alloc w (.cells #[.int .i64 s, .int .i64 k, .int .i64 v, .int .i64 t] 49)
  obtain ⟨c0, c1, c2, c3⟩ := o1.fourth
  clear o1
  by_cases h1 : 0 ≤ s ∧ s < 4
  · have H1 := Lib.hid (decide_eq_true h1)
    by_cases h2 : 0 ≤ k ∧ k ≤ 15
    · have H2 := Lib.hid (decide_eq_true h2)
      by_cases h3 : isT t
      · have H3 := Lib.hid (tf_yes h3).symm
        have H := Lib.hid (show elemOk s k t from ⟨h1, h2, h3⟩)
        clear h1 h2 h3
        go_enter Try.func21, Try.ntmps21
        go_wp2_with (first | (go_at_call 65; refine (l04Src_is H1.out _).mono ?_; rintro e w' ⟨rfl, rfl⟩) | (go_at_call 66; refine (l04Key_is H2.out _).mono ?_; rintro e w' ⟨rfl, rfl⟩) | (go_at_call 67; refine (as_bool (R := fun w' => _ = w') H3.out (l05Time_any t _)).mono ?_; rintro e w' ⟨rfl, rfl⟩))
        go_ret
        exact ⟨ret_bool (tf_yes H.out), hb⟩
      · have H3 := Lib.hid (tf_no h3).symm
        have H := Lib.hid (show ¬ elemOk s k t from fun h => h3 h.2.2)
        clear h1 h2 h3
        go_enter Try.func21, Try.ntmps21
        go_wp2_with (first | (go_at_call 65; refine (l04Src_is H1.out _).mono ?_; rintro e w' ⟨rfl, rfl⟩) | (go_at_call 66; refine (l04Key_is H2.out _).mono ?_; rintro e w' ⟨rfl, rfl⟩) | (go_at_call 67; refine (as_bool (R := fun w' => _ = w') H3.out (l05Time_any t _)).mono ?_; rintro e w' ⟨rfl, rfl⟩))
        go_ret
        exact ⟨ret_bool (tf_no H.out), hb⟩
    · have H2 := Lib.hid (decide_eq_false h2)
      have H := Lib.hid (show ¬ elemOk s k t from fun h => h2 h.2.1)
      clear h1 h2
      go_enter Try.func21, Try.ntmps21
      go_wp2_with (first | (go_at_call 65; refine (l04Src_is H1.out _).mono ?_; rintro e w' ⟨rfl, rfl⟩) | (go_at_call 66; refine (l04Key_is H2.out _).mono ?_; rintro e w' ⟨rfl, rfl⟩))
      go_ret
      exact ⟨ret_bool (tf_no H.out), hb⟩
  · have H1 := Lib.hid (decide_eq_false h1)
    have H := Lib.hid (show ¬ elemOk s k t from fun h => h1 h.1)
    clear h1
    go_enter Try.func21, Try.ntmps21
    go_wp2_with (go_at_call 65; refine (l04Src_is H1.out _).mono ?_; rintro e w' ⟨rfl, rfl⟩)
    go_ret
    exact ⟨ret_bool (tf_no H.out), hb⟩

set_option maxHeartbeats 1000000 in
theorem implElemOk_any (s k v t : Int) (w : World) :
    Calls Try.prog 23 #[elv s k v t] w fun e w' => e = .returned (.bool (tf (elemOk s k t))) ∧ Below w.heap.size w w' := by
  have o1 := Own.new w 49 [.int .i64 s, .int .i64 k, .int .i64 v, .int .i64 t]
  have hb := below_alloc w (.cells #[.int .i64 s, .int .i64 k, .int .i64 v, .int .i64 t] 49)
  obtain ⟨c0, c1, c2, c3⟩ := o1.fourth
  clear o1
  by_cases h1 : 0 ≤ s ∧ s < 4
  · have H1 := Lib.hid (decide_eq_true h1)
    by_cases h2 : 0 ≤ k ∧ k ≤ 15
    · have H2 := Lib.hid (decide_eq_true h2)
      by_cases h3 : isT t
      · have H3 := Lib.hid (tf_yes h3).symm
        have H := Lib.hid (show elemOk s k t from ⟨h1, h2, h3⟩)
        clear h1 h2 h3
        go_enter Try.func23, Try.ntmps23
        go_wp2_with (first | (go_at_call 68; refine (isSource_is H1.out _).mono ?_; rintro e w' ⟨rfl, rfl⟩) | (go_at_call 69; refine (isKey_is H2.out _).mono ?_; rintro e w' ⟨rfl, rfl⟩) | (go_at_call 70; refine (as_bool (R := fun w' => _ = w') H3.out (isTime_any t _)).mono ?_; rintro e w' ⟨rfl, rfl⟩))
        go_ret
        exact ⟨ret_bool (tf_yes H.out), hb⟩
      · have H3 := Lib.hid (tf_no h3).symm
        have H := Lib.hid (show ¬ elemOk s k t from fun h => h3 h.2.2)
        clear h1 h2 h3
        go_enter Try.func23, Try.ntmps23
        go_wp2_with (first | (go_at_call 68; refine (isSource_is H1.out _).mono ?_; rintro e w' ⟨rfl, rfl⟩) | (go_at_call 69; refine (isKey_is H2.out _).mono ?_; rintro e w' ⟨rfl, rfl⟩) | (go_at_call 70; refine (as_bool (R := fun w' => _ = w') H3.out (isTime_any t _)).mono ?_; rintro e w' ⟨rfl, rfl⟩))
        go_ret
        exact ⟨ret_bool (tf_no H.out), hb⟩
    · have H2 := Lib.hid (decide_eq_false h2)
      have H := Lib.hid (show ¬ elemOk s k t from fun h => h2 h.2.1)
      clear h1 h2
      go_enter Try.func23, Try.ntmps23
      go_wp2_with (first | (go_at_call 68; refine (isSource_is H1.out _).mono ?_; rintro e w' ⟨rfl, rfl⟩) | (go_at_call 69; refine (isKey_is H2.out _).mono ?_; rintro e w' ⟨rfl, rfl⟩))
      go_ret
      exact ⟨ret_bool (tf_no H.out), hb⟩
  · have H1 := Lib.hid (decide_eq_false h1)
    have H := Lib.hid (show ¬ elemOk s k t from fun h => h1 h.1)
    clear h1
    go_enter Try.func23, Try.ntmps23
    go_wp2_with (go_at_call 68; refine (isSource_is H1.out _).mono ?_; rintro e w' ⟨rfl, rfl⟩)
    go_ret
    exact ⟨ret_bool (tf_no H.out), hb⟩
end Go.Proofs.Ytlmlckgnmkjkdaa
