/-
  Sources and keys: the small functions of the model and of the program.
-/
import Derived.Test.YtlmlckgnmkjkdaaBase
namespace Go.Proofs.Ytlmlckgnmkjkdaa
open Go.RowKit

set_option maxHeartbeats 400000 in
theorem l04Src_any (a : Int) (w : World) :
    Calls Try.prog 65 #[.int .i64 a] w fun e w' => e = .returned (.bool (decide (0 ≤ a) && decide (a < 4))) ∧ w = w' := by
  go_enter Try.func65, Try.ntmps65
  go_wp2
  all_goals (go_ret; refine ⟨ret_bool ?_, rfl⟩; simp [*]; try omega)
set_option maxHeartbeats 400000 in
theorem l04Key_any (a : Int) (w : World) :
    Calls Try.prog 66 #[.int .i64 a] w fun e w' => e = .returned (.bool (decide (0 ≤ a) && decide (a ≤ 15))) ∧ w = w' := by
  go_enter Try.func66, Try.ntmps66
  go_wp2
  all_goals (go_ret; refine ⟨ret_bool ?_, rfl⟩; simp [*]; try omega)
theorem l04Src_is {a : Int} {b : Bool} (h : decide (0 ≤ a ∧ a < 4) = b) (w : World) : Calls Try.prog 65 #[.int .i64 a] w fun e w' => e = .returned (.bool b) ∧ w = w' :=
  as_bool (R := fun w' => w = w') (by rw [← h]; simp) (l04Src_any a w)
theorem l04Key_is {a : Int} {b : Bool} (h : decide (0 ≤ a ∧ a ≤ 15) = b) (w : World) : Calls Try.prog 66 #[.int .i64 a] w fun e w' => e = .returned (.bool b) ∧ w = w' :=
  as_bool (R := fun w' => w = w') (by rw [← h]; simp) (l04Key_any a w)
set_option maxHeartbeats 400000 in
theorem isSource_any (a : Int) (w : World) :
    Calls Try.prog 68 #[.int .i64 a] w fun e w' => e = .returned (.bool (decide (0 ≤ a) && decide (a < 4))) ∧ w = w' := by
  go_enter Try.func68, Try.ntmps68
  go_wp2
  all_goals (go_ret; refine ⟨ret_bool ?_, rfl⟩; simp [*]; try omega)
set_option maxHeartbeats 400000 in
theorem isKey_any (a : Int) (w : World) :
    Calls Try.prog 69 #[.int .i64 a] w fun e w' => e = .returned (.bool (decide (0 ≤ a) && decide (a ≤ 15))) ∧ w = w' := by
  go_enter Try.func69, Try.ntmps69
  go_wp2
  all_goals (go_ret; refine ⟨ret_bool ?_, rfl⟩; simp [*]; try omega)
theorem isSource_is {a : Int} {b : Bool} (h : decide (0 ≤ a ∧ a < 4) = b) (w : World) : Calls Try.prog 68 #[.int .i64 a] w fun e w' => e = .returned (.bool b) ∧ w = w' :=
  as_bool (R := fun w' => w = w') (by rw [← h]; simp) (isSource_any a w)
theorem isKey_is {a : Int} {b : Bool} (h : decide (0 ≤ a ∧ a ≤ 15) = b) (w : World) : Calls Try.prog 69 #[.int .i64 a] w fun e w' => e = .returned (.bool b) ∧ w = w' :=
  as_bool (R := fun w' => w = w') (by rw [← h]; simp) (isKey_any a w)
end Go.Proofs.Ytlmlckgnmkjkdaa
