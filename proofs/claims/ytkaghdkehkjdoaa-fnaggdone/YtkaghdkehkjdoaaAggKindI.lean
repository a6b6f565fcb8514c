/-
  AggKind, the program's and the model's: what they return.
-/
import Derived.Test.YtkaghdkehkjdoaaBase
namespace Go.Proofs.Ytkaghdkehkjdoaa
open Go.RowKit

/-- the kinds and their k -/
def kindOk (q k : Int) : Prop := q = 6 ∧ 1 ≤ k ∧ k ≤ 4 ∨ 1 ≤ q ∧ q ≤ 5 ∧ k = 0

set_option maxHeartbeats 400000 in
theorem specAggKind_any (q k : Int) (w : World) :
    Calls Try.prog 33 #[.int .i64 q, .int .i64 k] w fun e w' => e = .returned (.bool (tf (kindOk q k))) ∧ w = w' := by
  by_cases h6 : q = 6
  · by_cases h1 : 1 ≤ k
    · go_enter Try.func33, Try.ntmps33
      go_wp2
      go_ret
      refine ⟨ret_bool ?_, rfl⟩
      by_cases h4 : k ≤ 4
      · rw [← tf_yes (show kindOk q k from .inl ⟨h6, h1, h4⟩)]; simp [h4]
      · rw [← tf_no (show ¬ kindOk q k from fun h => by unfold kindOk at h; omega)]; simp; omega
    · go_enter Try.func33, Try.ntmps33
      go_wp2
      go_ret
      exact ⟨ret_bool (tf_no (fun h => by unfold kindOk at h; omega)), rfl⟩
  · by_cases h1 : 1 ≤ q
    · by_cases h5 : q < 6
      · go_enter Try.func33, Try.ntmps33
        go_wp2
        go_ret
        refine ⟨ret_bool ?_, rfl⟩
        by_cases h4 : k = 0
        · rw [← tf_yes (show kindOk q k from .inr ⟨h1, by omega, h4⟩)]; simp [h4]
        · rw [← tf_no (show ¬ kindOk q k from fun h => by unfold kindOk at h; omega)]; simp; omega
      · go_enter Try.func33, Try.ntmps33
        go_wp2
        go_ret
        exact ⟨ret_bool (tf_no (fun h => by unfold kindOk at h; omega)), rfl⟩
    · go_enter Try.func33, Try.ntmps33
      go_wp2
      go_ret
      exact ⟨ret_bool (tf_no (fun h => by unfold kindOk at h; omega)), rfl⟩

theorem kind_of {q k : Int} (h : 1 ≤ q ∧ q ≤ 5) : (k == 0) = tf (kindOk q k) := by
  by_cases h4 : k = 0
  · rw [← tf_yes (show kindOk q k from .inr ⟨h.1, h.2, h4⟩)]; simp [h4]
  · rw [← tf_no (show ¬ kindOk q k from fun h => by unfold kindOk at h; omega)]; simp; omega

set_option maxHeartbeats 400000 in
theorem implAggKind_any (q k : Int) (w : World) :
    Calls Try.prog 34 #[.int .i64 q, .int .i64 k] w fun e w' => e = .returned (.bool (tf (kindOk q k))) ∧ w = w' := by
  by_cases h6 : q = 6
  · subst h6
    by_cases h1 : 1 ≤ k
    · go_enter Try.func34, Try.ntmps34
      go_wp2
      go_ret
      refine ⟨ret_bool ?_, rfl⟩
      by_cases h4 : k ≤ 4
      · rw [← tf_yes (show kindOk 6 k from .inl ⟨rfl, h1, h4⟩)]; simp [h4]
      · rw [← tf_no (show ¬ kindOk 6 k from fun h => by unfold kindOk at h; omega)]; simp; omega
    · go_enter Try.func34, Try.ntmps34
      go_wp2
      go_ret
      exact ⟨ret_bool (tf_no (fun h => by unfold kindOk at h; omega)), rfl⟩
  · by_cases h : 1 ≤ q ∧ q ≤ 5
    · have HK := Lib.hid (kind_of (k := k) h)
      have h' : q = 1 ∨ q = 2 ∨ q = 3 ∨ q = 4 ∨ q = 5 := by omega
      rcases h' with rfl | rfl | rfl | rfl | rfl
      all_goals
        clear h
        go_enter Try.func34, Try.ntmps34
        go_wp2
        go_ret
        exact ⟨ret_bool HK.out, rfl⟩
    · have n1 : ¬ q = 1 := by omega
      have n2 : ¬ q = 2 := by omega
      have n3 : ¬ q = 3 := by omega
      have n4 : ¬ q = 4 := by omega
      have n5 : ¬ q = 5 := by omega
      have HK := Lib.hid (tf_no (show ¬ kindOk q k from fun h => by unfold kindOk at h; omega))
      clear h
      go_enter Try.func34, Try.ntmps34
      go_wp2
      go_ret
      exact ⟨ret_bool HK.out, rfl⟩

set_option maxHeartbeats 400000 in
theorem fnExactAggKind_walk (q k : Int) (w : World) :
    Calls Try.prog 9 #[.int .i64 q, .int .i64 k] w fun e w' => e = .returned (.bool true) ∧ Below w.heap.size w w' := by
  obtain ⟨b, HB⟩ : ∃ b, Hid (tf (kindOk q k) = b) := ⟨_, Lib.hid rfl⟩
  have hne : (b != b) = false := by simp
  go_enter Try.func9, Try.ntmps9
  go_wp2_with fail
  refine (as_bool HB.out (specAggKind_any q k _)).mono ?_
  rintro e _ ⟨rfl, rfl⟩
  go_wp2_with fail
  refine (as_bool HB.out (implAggKind_any q k _)).mono ?_
  rintro e _ ⟨rfl, rfl⟩
  go_wp2
  go_ret
  exact ⟨rfl, Below.refl _ _⟩
end Go.Proofs.Ytkaghdkehkjdoaa
