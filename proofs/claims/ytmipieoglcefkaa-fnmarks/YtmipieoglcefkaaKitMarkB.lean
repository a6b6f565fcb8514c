/-
  What the laws' own helpers on Mark and Marks return: marks that are laid, and whether they are held.
-/
import Derived.Test.YtmipieoglcefkaaKitMark
namespace Go.Proofs.Ytmipieoglcefkaa
open Go.RowKit

/-- the mark that is laid at i, from k on -/
def mkAt (k : Int) (i : Nat) : Mk := (k + i * 2, (k + i * 2 + 1) % 3 == 0)
def mks (k : Int) (n : Nat) : List Mk := (List.range n).map (mkAt k)
def mkTo (ms : List Mk) (k : Int) (i : Nat) : List Mk := mks k i ++ ms.drop i
theorem mks_length (k : Int) (n : Nat) : (mks k n).length = n := by simp [mks]
theorem mks_at {k : Int} {n i : Nat} (h : i < n) : mat (mks k n) i = mkAt k i := by simp [mat, mks, h]
theorem mkTo_length {ms : List Mk} {k : Int} {i : Nat} (h : i ≤ ms.length) : (mkTo ms k i).length = ms.length := by simp [mkTo, mks_length]; omega
theorem mkTo_zero (ms : List Mk) (k : Int) : mkTo ms k 0 = ms := by simp [mkTo, mks]
theorem mkTo_all (ms : List Mk) (k : Int) : mkTo ms k ms.length = mks k ms.length := by simp [mkTo]
theorem mkTo_set {ms : List Mk} {k : Int} {i : Nat} (h : i < ms.length) : (mkTo ms k i).set i (k + i * 2, (k + i * 2 + 1) % 3 == 0) = mkTo ms k (i + 1) := by
  unfold mkTo
  rw [List.set_append, if_neg (by rw [mks_length]; omega), mks_length, Nat.sub_self, List.drop_eq_getElem_cons h, List.set_cons_zero]
  simp [mks, List.range_succ, mkAt]

set_option maxHeartbeats 1000000 in
theorem markMarkS_any (v : Value) (base n : Nat) (ms : List Mk) (k : Int) (w : World) (hown : w.ownsRow base 36 2 v n (mz ms)) (hz : ms.length = n) (h0 : 0 ≤ k) (h1 : k ≤ 4611686018427387904) (hn : n ≤ 1048576) :
    Calls Try.prog 46 #[v, .int .i64 k] w fun e w' => e = .returned (.int .i64 (k + (n * 2 : Nat))) ∧ w'.ownsRow base 36 2 v n (mz (mks k n)) ∧ w.grownBy w' v.ownBlock := by
  obtain ⟨A, c, rfl, _⟩ := owns_rd hown
  have HZ := Lib.hid hz
  clear hz
  go_enter Try.func46, Try.ntmps46
  go_wp2
  go_loopw [1, 5] (fun q i wr => ∃ j : Nat, j ≤ n ∧ i = .int .i64 j ∧ q = .int .i64 (k + j * 2) ∧ wr.ownsRow base 36 2 (.slice A n c) n (mz (mkTo ms k j)) ∧ w.grownBy wr (Value.slice A n c).ownBlock) (fun _ i _ => n - (intOf i).toNat)
  case atStart => exact ⟨0, Nat.zero_le _, rfl, by simp, by rw [mkTo_zero]; exact hown, World.grownBy.refl _ _⟩
  case round =>
    obtain ⟨j, hj, rfl, rfl, ho, hg⟩ := hrel
    by_cases hlt : j < n
    · obtain ⟨g, rfl⟩ : ∃ g, A = some ⟨g, 0, none⟩ := by
        rcases ho.2 with ⟨h, h'⟩ | ⟨g, cap, cur, h, _⟩
        · omega
        · injection h with h; exact ⟨g, h⟩
      have hlm : j < ms.length := by rw [HZ.out]; exact hlt
      have hll : j < (mkTo ms k j).length := by rw [mkTo_length (by omega)]; exact hlm
      have c0 : wr.cell? ⟨g, j * 2, none⟩ = some (.int .i64 (mat (mkTo ms k j) j).1) := by
        rw [ho.cellAt (j * 2) (by omega), mz_lo hll]
      have c1 : wr.cell? ⟨g, j * 2 + 1, none⟩ = some (.bool (mat (mkTo ms k j) j).2) := by
        rw [ho.cellAt (j * 2 + 1) (by omega), mz_hi hll]
      have f0 := ho.frozenAt (j * 2)
      have f1 := ho.frozenAt (j * 2 + 1)
      have s0 := ho.stored (j * 2) (.int .i64 (k + j * 2))
      have s1 := s0.1.stored (j * 2 + 1) (.bool ((k + j * 2 + 1) % 3 == 0))
      have hs := s1.1
      rw [mz_set hll, mkTo_set hlm] at hs
      have HO := Lib.hid hs
      have HG := Lib.hid (grownBy_trans hg (grownBy_trans s0.2 s1.2))
      clear hs s0 s1
      go_wp2
      go_roundw
      case rel =>
        exact ⟨j + 1, by omega, by go_num, by first | rfl | (congr 1; omega), HO.out, HG.out⟩
      case measure => simp [intOf]; omega
    · go_wp2
      go_ret
      have hjn : j = n := by omega
      subst hjn
      refine ⟨ret_int (by omega), ?_, hg⟩
      have := ho
      rw [← HZ.out, mkTo_all, HZ.out] at this
      exact this
set_option maxHeartbeats 1000000 in
theorem heldMarkS_any (A : Option Addr) (c n : Nat) (k : Int) (w : World) (hA : Rd w A (mz (mks k n))) (h0 : 0 ≤ k) (h1 : k ≤ 4611686018427387904) (hn : n ≤ 1048576) :
    Calls Try.prog 47 #[.slice A n c, .int .i64 k] w fun e w' => e = .returned (.int .i64 (k + (n * 2 : Nat))) ∧ w = w' := by
  go_enter Try.func47, Try.ntmps47
  go_wp2
  go_loop [1, 5] (fun q i => ∃ j : Nat, j ≤ n ∧ i = .int .i64 j ∧ q = .int .i64 (k + j * 2)) (fun _ i => n - (intOf i).toNat)
  case atStart => exact ⟨0, Nat.zero_le _, rfl, by simp⟩
  case round =>
    obtain ⟨j, hj, rfl, rfl⟩ := hrel
    by_cases hlt : j < n
    · obtain ⟨b, off, rfl, _, hc⟩ := hA.mark (k := j) (by rw [mks_length]; exact hlt)
      rw [mks_at hlt] at hc
      have c0 : w.cell? ⟨b, off + j * 2, none⟩ = some (.int .i64 (k + j * 2)) := (hc _ (Below.refl _ _)).1
      have c1 : w.cell? ⟨b, off + j * 2 + 1, none⟩ = some (.bool ((k + j * 2 + 1) % 3 == 0)) := (hc _ (Below.refl _ _)).2
      clear hc
      have n0 : ((k + j * 2 : Int) != k + j * 2) = false := by simp
      have n1 : (((k + j * 2 + 1) % 3 == 0) != ((k + j * 2 + 1) % 3 == 0)) = false := by simp
      go_wp2
      go_round
      case rel => exact ⟨j + 1, by omega, by go_num, by first | rfl | (congr 1; omega)⟩
      case measure => simp [intOf]; omega
    · go_wp2
      go_ret
      exact ⟨ret_int (by omega), rfl⟩
set_option maxHeartbeats 400000 in
theorem markMarks_at (G : Int) (A : Option Addr) (c lo hi n : Nat) (ms : List Mk) (k : Int) (w : World) (hr : RowAt lo hi w 36 2 (.slice A n c) n (mz ms)) (h0 : 0 ≤ k) (h1 : k ≤ 4611686018427387904) (hz : ms.length = n) (hn : n ≤ 1048576) :
    Calls Try.prog 24 #[msv G (.slice A n c), .int .i64 k] w fun e w' => e = .returned (.int .i64 (k + (n * 2 : Nat))) ∧ RowAt lo hi w' 36 2 (.slice A n c) n (mz (mks k n)) ∧ Only lo hi w w' := by
  have HR := Lib.hid hr
  clear hr
  go_enter Try.func24, Try.ntmps24
  go_wp2_with fail
  refine (markMarkS_any (.slice A n c) lo n ms k _ (HR.out.grow (below_alloc w _)).1 hz h0 h1 hn).mono ?_
  rintro e w1 ⟨rfl, ho, hg⟩
  have hO := Only.trans (Only.of_below (below_alloc w (.cells #[.int .i64 G, .slice A n c] 26)) lo hi) (Only.of_row (HR.out.grow (below_alloc w _)) hg)
  have hR2 : RowAt lo hi w1 36 2 (.slice A n c) n (mz (mks k n)) := ⟨ho, HR.out.2⟩
  have HO := Lib.hid hO
  have HR2 := Lib.hid hR2
  clear HR ho hg hO hR2
  go_wp2
  go_ret
  exact ⟨rfl, HR2.out, HO.out⟩
set_option maxHeartbeats 400000 in
theorem heldMarks_any (G : Int) (A : Option Addr) (c n : Nat) (k : Int) (w : World) (hA : Rd w A (mz (mks k n))) (h0 : 0 ≤ k) (h1 : k ≤ 4611686018427387904) (hn : n ≤ 1048576) :
    Calls Try.prog 25 #[msv G (.slice A n c), .int .i64 k] w fun e w' => e = .returned (.int .i64 (k + (n * 2 : Nat))) ∧ Below w.heap.size w w' := by
  have HA := Lib.hid (fun o => hA.below (below_alloc w o))
  clear hA
  have hp : decide (k + ((n * 2 : Nat) : Int) < 0) = false := by simp; omega
  go_enter Try.func25, Try.ntmps25
  go_wp2_with (go_at_call 47; refine (heldMarkS_any A c n k _ (HA.out _) h0 h1 hn).mono ?_; rintro e w' ⟨rfl, rfl⟩)
  go_ret
  exact ⟨rfl, below_alloc _ _⟩
end Go.Proofs.Ytmipieoglcefkaa
