/-
  The model's small functions on puncts: what they return.
-/
import Derived.Test.YtipcjofmplpffaaQuads
import Derived.Test.YtipcjofmplpffaaLatSmall
namespace Go.Proofs.Ytipcjofmplpffaa
open Go.RowKit

set_option maxHeartbeats 400000 in
theorem l04Src_any (a : Int) (w : World) :
    Calls Try.prog 48 #[.int .i64 a] w fun e w' => e = .returned (.bool (decide (0 ≤ a) && decide (a < 4))) ∧ w = w' := by
  go_enter Try.func48, Try.ntmps48
  go_wp2
  all_goals (go_ret; refine ⟨ret_bool ?_, rfl⟩; simp [*]; try omega)
set_option maxHeartbeats 400000 in
theorem l04Key_any (a : Int) (w : World) :
    Calls Try.prog 50 #[.int .i64 a] w fun e w' => e = .returned (.bool (decide (0 ≤ a) && decide (a ≤ 15))) ∧ w = w' := by
  go_enter Try.func50, Try.ntmps50
  go_wp2
  all_goals (go_ret; refine ⟨ret_bool ?_, rfl⟩; simp [*]; try omega)
set_option maxHeartbeats 400000 in
theorem l04Bits_any (a : Int) (w : World) :
    Calls Try.prog 49 #[.int .i64 a] w fun e w' => e = .returned (.bool (decide (0 ≤ a) && decide (a ≤ 4))) ∧ w = w' := by
  go_enter Try.func49, Try.ntmps49
  go_wp2
  all_goals (go_ret; refine ⟨ret_bool ?_, rfl⟩; simp [*]; try omega)
theorem l04Src_is {a : Int} {b : Bool} (h : decide (0 ≤ a ∧ a < 4) = b) (w : World) : Calls Try.prog 48 #[.int .i64 a] w fun e w' => e = .returned (.bool b) ∧ w = w' :=
  as_bool (R := fun w' => w = w') (by rw [← h]; simp) (l04Src_any a w)
theorem l04Key_is {a : Int} {b : Bool} (h : decide (0 ≤ a ∧ a ≤ 15) = b) (w : World) : Calls Try.prog 50 #[.int .i64 a] w fun e w' => e = .returned (.bool b) ∧ w = w' :=
  as_bool (R := fun w' => w = w') (by rw [← h]; simp) (l04Key_any a w)
theorem l04Bits_is {a : Int} {b : Bool} (h : decide (0 ≤ a ∧ a ≤ 4) = b) (w : World) : Calls Try.prog 49 #[.int .i64 a] w fun e w' => e = .returned (.bool b) ∧ w = w' :=
  as_bool (R := fun w' => w = w') (by rw [← h]; simp) (l04Bits_any a w)

set_option maxHeartbeats 400000 in
theorem l04Pow_any (n : Int) (w : World) (h0 : 0 ≤ n) (h4 : n ≤ 4) :
    Calls Try.prog 51 #[.int .i64 n] w fun e w' => e = .returned (.int .i64 (pw n)) ∧ w = w' := by
  obtain ⟨m, rfl⟩ := Int.eq_ofNat_of_zero_le h0
  go_enter Try.func51, Try.ntmps51
  go_wp2
  go_loop [0, 3] (fun i o => ∃ k : Nat, k ≤ m ∧ i = .int .i64 k ∧ o = .int .i64 (pw ((m : Int) - k))) (fun i _ => (intOf i).toNat)
  case atStart => exact ⟨m, Nat.le_refl _, rfl, by simp [pw_zero]⟩
  case round =>
    obtain ⟨k, hk, rfl, rfl⟩ := hrel
    by_cases hlt : 0 < k
    · have hp := pw_range ((m : Int) - k)
      have hs := pw_step (n := (m : Int) - k) (by omega) (by omega)
      have HS := Lib.hid hs
      clear hs
      generalize pw ((m : Int) - k) = P at *
      go_wp2
      go_round
      case rel => exact ⟨k - 1, by omega, by go_num, by rw [show (m : Int) - ((k - 1 : Nat) : Int) = (m : Int) - k + 1 by omega, ← HS.out]⟩
      case measure => simp [intOf]; omega
    · go_wp2
      go_ret
      exact ⟨ret_int (by rw [show (m : Int) - k = m by omega]), rfl⟩
end Go.Proofs.Ytipcjofmplpffaa
