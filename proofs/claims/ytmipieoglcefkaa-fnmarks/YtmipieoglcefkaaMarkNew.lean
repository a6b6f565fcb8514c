/-
  MarksNew, the model's and the program's: what it returns. The law on it.
-/
import Derived.Test.YtmipieoglcefkaaKitMarkB
import Derived.Test.YtmipieoglcefkaaAppStep
import Derived.Deep.RegionHeld3
namespace Go.Proofs.Ytmipieoglcefkaa
open Go.RowKit

/-- The call hands back marks, in memory of its own. -/
def MkRes1 (G : Int) (rs : List Mk) (w : World) (e : Ending) (w' : World) : Prop :=
  ∃ A c, e = .returned (msv G (.slice A rs.length c)) ∧ RowAt w.heap.size w'.heap.size w' 36 2 (.slice A rs.length c) rs.length (mz rs) ∧ Below w.heap.size w w'
/-- n new marks, or none -/
def newM (n : Int) : List Mk := if n < 1 ∨ 4 < n then [] else List.replicate n.toNat (0, false)
theorem row_none (w w' : World) : RowAt w.heap.size w'.heap.size w' 36 2 (.slice none 0 0) 0 [] := ⟨⟨by simp, .inl ⟨rfl, rfl⟩⟩, fun k hk => by simp [Value.ownBlock] at hk⟩
theorem Own.ownsS {w : World} {g base n s : Nat} {t : TypeId} {cs : List Value} (h : Own w g t cs) (hb : base ≤ g) (hn : cs.length = n * s) (hm : n ≤ 1048576) : w.ownsRow base t s (.slice (some ⟨g, 0, none⟩) n n) n cs := by
  refine ⟨hn, .inr ⟨g, n, cs.toArray, rfl, hb, h, Nat.le_refl _, by unfold maxLen; omega, by simp [hn], ?_⟩⟩
  simp [← hn]

set_option maxHeartbeats 400000 in
theorem specMarksNew_any (n : Int) (w : World) : Calls Try.prog 21 #[.int .i64 n] w (MkRes1 0 (newM n) w) := by
  by_cases h1 : n < 1
  · go_enter Try.func21, Try.ntmps21
    go_wp2
    refine bodyPost_ret (v := msv 0 (.slice none 0 0)) (by simp [results, Try.results21, go_sem]) rfl ?_
    rw [show newM n = [] by simp [newM, h1]]
    exact ⟨none, 0, rfl, row_none w _, below_alloc w _⟩
  by_cases h4 : 4 < n
  · go_enter Try.func21, Try.ntmps21
    go_wp2
    refine bodyPost_ret (v := msv 0 (.slice none 0 0)) (by simp [results, Try.results21, go_sem]) rfl ?_
    rw [show newM n = [] by simp [newM, h4]]
    exact ⟨none, 0, rfl, row_none w _, below_alloc w _⟩
  obtain ⟨k, rfl⟩ : ∃ k : Nat, n = k := ⟨n.toNat, by omega⟩
  have hk : k ≤ 4 := by omega
  have hmk := make_Mark k (by omega)
  have HN := Lib.hid (show newM (k : Int) = List.replicate k (0, false) by unfold newM; rw [if_neg (by omega)]; simp)
  go_enter Try.func21, Try.ntmps21
  go_wp2
  refine bodyPost_ret (v := msv 0 (.slice (some ⟨w.heap.size + 1, 0, none⟩) k k)) (by simp [results, Try.results21, go_sem]) rfl ?_
  rw [HN.out]
  refine ⟨some ⟨w.heap.size + 1, 0, none⟩, k, by rw [List.length_replicate], ?_, below_trans (below_alloc _ _) (below_alloc _ _)⟩
  rw [List.length_replicate]
  exact RowAt.of (Own.ownsS (base := w.heap.size) (new_second w _ 36 (mz (List.replicate k (0, false)))) (by omega) (by rw [mz_length, List.length_replicate]) (by omega))
set_option maxHeartbeats 400000 in
theorem implMarksNew_any (n : Int) (w : World) : Calls Try.prog 22 #[.int .i64 n] w (MkRes1 0 (newM n) w) := by
  by_cases h1 : n < 1
  · go_enter Try.func22, Try.ntmps22
    go_wp2
    refine bodyPost_ret (v := msv 0 (.slice none 0 0)) (by simp [results, Try.results22, go_sem]) rfl ?_
    rw [show newM n = [] by simp [newM, h1]]
    exact ⟨none, 0, rfl, row_none w _, below_alloc w _⟩
  by_cases h4 : 4 < n
  · go_enter Try.func22, Try.ntmps22
    go_wp2
    refine bodyPost_ret (v := msv 0 (.slice none 0 0)) (by simp [results, Try.results22, go_sem]) rfl ?_
    rw [show newM n = [] by simp [newM, h4]]
    exact ⟨none, 0, rfl, row_none w _, below_alloc w _⟩
  obtain ⟨k, rfl⟩ : ∃ k : Nat, n = k := ⟨n.toNat, by omega⟩
  have hk : k ≤ 4 := by omega
  have hmk := make_Mark k (by omega)
  have HN := Lib.hid (show newM (k : Int) = List.replicate k (0, false) by unfold newM; rw [if_neg (by omega)]; simp)
  go_enter Try.func22, Try.ntmps22
  go_wp2
  refine bodyPost_ret (v := msv 0 (.slice (some ⟨w.heap.size + 1, 0, none⟩) k k)) (by simp [results, Try.results22, go_sem]) rfl ?_
  rw [HN.out]
  refine ⟨some ⟨w.heap.size + 1, 0, none⟩, k, by rw [List.length_replicate], ?_, below_trans (below_alloc _ _) (below_alloc _ _)⟩
  rw [List.length_replicate]
  exact RowAt.of (Own.ownsS (base := w.heap.size) (new_second w _ 36 (mz (List.replicate k (0, false)))) (by omega) (by rw [mz_length, List.length_replicate]) (by omega))
end Go.Proofs.Ytmipieoglcefkaa
