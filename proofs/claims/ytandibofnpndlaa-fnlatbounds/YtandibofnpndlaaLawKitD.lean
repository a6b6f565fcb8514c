/-
  Copies of rows of integers.
-/
import Derived.Test.YtandibofnpndlaaLawKitC
namespace Go.Proofs.Ytandibofnpndlaa
open Go.RowKit

def iat (xs : List Int) (k : Nat) : Int := xs.getD k 0
theorem iz_iat {xs : List Int} {k : Nat} (h : k < xs.length) : (iz xs)[k]? = some (.int .i64 (iat xs k)) := iz_at h

theorem made_zeros_int (n : Nat) : madeCells (Value.int .i64 0).cells (n * 1) = (iz (List.replicate n 0)).toArray := by
  apply Array.ext
  · simp [madeCells, iz]
  · intro i h1 h2
    simp [madeCells, iz, Value.cells, Nat.mod_one]
theorem make_int (n : Nat) (hn : n ≤ 1048576) (W : World) : (Instr.makeSlice 43 (.int .i64 (n : Int)) (.int .i64 (n : Int))).run Try.prog W = .ok (.slice (some ⟨W.heap.size, 0, none⟩) n n) (W.alloc (.cells (iz (List.replicate n 0)).toArray 3)) := by
  obtain ⟨i0, hi, hz0, hz1, hz2⟩ := info_parts info_int
  have h := run_make (P := Try.prog) W 43 3 i0 (.int .i64 0) Try.underlying43 hi hz0 .i64 .i64 n n (by omega) (by omega) (by rw [hz2]; omega) (by omega)
  rw [hz1, Int.toNat_natCast, made_zeros_int] at h
  exact h

def copyToI (xs : List Int) (k : Nat) : List Int := xs.take k ++ List.replicate (xs.length - k) 0
theorem copyToI_zero (xs : List Int) : copyToI xs 0 = List.replicate xs.length 0 := by simp [copyToI]
theorem copyToI_all (xs : List Int) : copyToI xs xs.length = xs := by simp [copyToI]
theorem copyToI_length {xs : List Int} {k : Nat} (h : k ≤ xs.length) : (copyToI xs k).length = xs.length := by simp [copyToI]; omega
theorem copyToI_set {xs : List Int} {k : Nat} (h : k < xs.length) : (copyToI xs k).set k (iat xs k) = copyToI xs (k + 1) := by
  have e : xs.length - k = (xs.length - (k + 1)) + 1 := by omega
  unfold copyToI
  rw [e, List.replicate_succ, List.set_append, if_neg (by rw [List.length_take]; omega)]
  rw [show k - (xs.take k).length = 0 by rw [List.length_take]; omega, List.set_cons_zero]
  rw [List.take_succ_eq_append_getElem h, show xs[k] = iat xs k by simp [iat, h]]
  simp

set_option maxHeartbeats 400000 in
theorem toIntS_any (A : Option Addr) (ca : Nat) (xs : List Int) (w : World) (hA : Rd w A (iz xs)) (hn : xs.length ≤ 1048576) :
    Calls Try.prog 51 #[.slice A xs.length ca] w fun e w' => ∃ g, e = .returned (.slice (some ⟨g, 0, none⟩) xs.length xs.length) ∧ w.heap.size ≤ g ∧ Own w' g 3 (iz xs) ∧ Below w.heap.size w w' := by
  have hmk := make_int xs.length hn
  go_enter Try.func51, Try.ntmps51
  go_wp2
  clear hmk
  go_loopw [4] (fun i wr => ∃ k : Nat, k ≤ xs.length ∧ i = .int .i64 k ∧ Own wr w.heap.size 3 (iz (copyToI xs k)) ∧ Below w.heap.size w wr) (fun i _ => xs.length - (intOf i).toNat)
  case atStart => exact ⟨0, Nat.zero_le _, rfl, by rw [copyToI_zero]; exact Own.new _ _ _, below_alloc _ _⟩
  case round =>
    obtain ⟨k, hk, rfl, hown, hbel⟩ := hrel
    by_cases hlt : k < xs.length
    · obtain ⟨ad, rfl, hb1, hc1⟩ := hA k _ (iz_iat hlt)
      have hk2 : wr.cell? (ad.add k) = some (.int .i64 (iat xs k)) := (hbel.cell (by rw [add_block]; exact hb1)).trans hc1
      clear hc1
      have hcf : wr.cell? ⟨w.heap.size, k, none⟩ = some (.int .i64 ((copyToI xs k).getD k 0)) := by
        rw [hown.cell, iz_at (by rw [copyToI_length hk]; exact hlt)]
      have hff := hown.free k
      go_wp2
      go_roundw
      case rel => exact ⟨k + 1, by omega, by go_num, by rw [← copyToI_set hlt, ← iz_set]; exact hown.set k _, hbel.setCell (Nat.le_refl _) _⟩
      case measure => simp [intOf]; omega
    · go_wp2
      go_ret
      refine ⟨w.heap.size, rfl, Nat.le_refl _, ?_, hbel⟩
      rw [← copyToI_all xs, show xs.length = k by omega]
      have := hown
      rwa [show k = xs.length by omega] at this ⊢


theorem toIntS_at (A : Option Addr) (ca : Nat) (xs : List Int) (w : World) (hA : Rd w A (iz xs)) (hn : xs.length ≤ 1048576) :
    Calls Try.prog 51 #[.slice A xs.length ca] w fun e w' => ∃ g, e = .returned (.slice (some ⟨g, 0, none⟩) xs.length xs.length) ∧
      RowAt w.heap.size w'.heap.size w' 3 1 (.slice (some ⟨g, 0, none⟩) xs.length xs.length) xs.length (iz xs) ∧ Below w.heap.size w w' :=
  (toIntS_any A ca xs w hA hn).mono fun _ _ ⟨g, he, hg, hown, hb⟩ => ⟨g, he, hown.rowAt hg (iz_length xs) hn, hb⟩

end Go.Proofs.Ytandibofnpndlaa
