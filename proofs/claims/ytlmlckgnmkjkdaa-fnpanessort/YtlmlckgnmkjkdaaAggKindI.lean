/-
  AggKind, the program's and the model's: what they return.
-/
import Derived.Test.YtlmlckgnmkjkdaaBase
namespace Go.Proofs.Ytlmlckgnmkjkdaa
open Go.RowKit

/-- the kinds and their k -/
def kindOk (q k : Int) : Prop := q = 6 ∧ 1 ≤ k ∧ k ≤ 4 ∨ 1 ≤ q ∧ q ≤ 5 ∧ k = 0

set_option maxHeartbeats 400000 in
theorem specAggKind_any (q k : Int) (w : World) :
    Calls Try.prog 57 #[.int .i64 q, .int .i64 k] w fun e w' => e = .returned (.bool (tf (kindOk q k))) ∧ w = w' := by
  by_cases h6 : q = 6
  · by_cases h1 : 1 ≤ k
    · go_enter Try.func57, Try.ntmps57
      go_wp2
      go_ret
      refine ⟨ret_bool ?_, rfl⟩
      by_cases h4 : k ≤ 4
      · rw [← tf_yes (show kindOk q k from .inl ⟨h6, h1, h4⟩)]; simp [h4]
      · rw [← tf_no (show ¬ kindOk q k from fun h => by unfold kindOk at h; omega)]; simp; omega
    · go_enter Try.func57, Try.ntmps57
      go_wp2
      go_ret
      exact ⟨ret_bool (tf_no (fun h => by unfold kindOk at h; omega)), rfl⟩
  · by_cases h1 : 1 ≤ q
    · by_cases h5 : q < 6
      · go_enter Try.func57, Try.ntmps57
        go_wp2
        go_ret
        refine ⟨ret_bool ?_, rfl⟩
        by_cases h4 : k = 0
        · rw [← tf_yes (show kindOk q k from .inr ⟨h1, by omega, h4⟩)]; simp [h4]
        · rw [← tf_no (show ¬ kindOk q k from fun h => by unfold kindOk at h; omega)]; simp; omega
      · go_enter Try.func57, Try.ntmps57
        go_wp2
        go_ret
        exact ⟨ret_bool (tf_no (fun h => by unfold kindOk at h; omega)), rfl⟩
    · go_enter Try.func57, Try.ntmps57
      go_wp2
      go_ret
      exact ⟨ret_bool (tf_no (fun h => by unfold kindOk at h; omega)), rfl⟩

theorem kind_of {q k : Int} (h : 1 ≤ q ∧ q ≤ 5) : (k == 0) = tf (kindOk q k) := by
  by_cases h4 : k = 0
  · rw [← tf_yes (show kindOk q k from .inr ⟨h.1, h.2, h4⟩)]; simp [h4]
  · rw [← tf_no (show ¬ kindOk q k from fun h => by unfold kindOk at h; omega)]; simp; omega

set_option maxHeartbeats 400000 in
theorem implAggKind_any (q k : Int) (w : World) :
    Calls Try.prog 62 #[.int .i64 q, .int .i64 k] w fun e w' => e = .returned (.bool (tf (kindOk q k))) ∧ w = w' := by
  by_cases h6 : q = 6
  · subst h6
    by_cases h1 : 1 ≤ k
    · go_enter Try.func62, Try.ntmps62
      go_wp2
      go_ret
      refine ⟨ret_bool ?_, rfl⟩
      by_cases h4 : k ≤ 4
      · rw [← tf_yes (show kindOk 6 k from .inl ⟨rfl, h1, h4⟩)]; simp [h4]
      · rw [← tf_no (show ¬ kindOk 6 k from fun h => by unfold kindOk at h; omega)]; simp; omega
    · go_enter Try.func62, Try.ntmps62
      go_wp2
      go_ret
      exact ⟨ret_bool (tf_no (fun h => by unfold kindOk at h; omega)), rfl⟩
  · by_cases h : 1 ≤ q ∧ q ≤ 5
    · have HK := Lib.hid (kind_of (k := k) h)
      have h' : q = 1 ∨ q = 2 ∨ q = 3 ∨ q = 4 ∨ q = 5 := by omega
      rcases h' with rfl | rfl | rfl | rfl | rfl
      all_goals
        clear h
        go_enter Try.func62, Try.ntmps62
        go_wp2
        go_ret
        exact ⟨ret_bool HK.out, rfl⟩
    · have n1 : ¬ q = 1 := by omega
      have n2 : ¬ q = 2 := by omega
      have n3 : ¬ q = 3 := by omega
      have n4 : ¬ q = 4 := by omega
      have n5 : ¬ q = 5 := by omega
      have HK := Lib.hid (tf_no (show ¬ kindOk q k from fun h => by unfold kindOk at h; omega))
      clear h
      go_enter Try.func62, Try.ntmps62
      go_wp2
      go_ret
      exact ⟨ret_bool HK.out, rfl⟩

end Go.Proofs.Ytlmlckgnmkjkdaa
