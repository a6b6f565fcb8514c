/-
  What the laws' own helpers return: copies, sizes, equality of lattices.
-/
import Derived.Test.YtipcjofmplpffaaLatImplC
namespace Go.Proofs.Ytipcjofmplpffaa
open Go.RowKit

def copyTo (xs : List Nat) (k : Nat) : List Nat := xs.take k ++ List.replicate (xs.length - k) 0
theorem copyTo_zero (xs : List Nat) : copyTo xs 0 = List.replicate xs.length 0 := by simp [copyTo]
theorem copyTo_all (xs : List Nat) : copyTo xs xs.length = xs := by simp [copyTo]
theorem copyTo_length {xs : List Nat} {k : Nat} (h : k ≤ xs.length) : (copyTo xs k).length = xs.length := by simp [copyTo]; omega
theorem copyTo_set {xs : List Nat} {k : Nat} (h : k < xs.length) : (copyTo xs k).set k (row xs k) = copyTo xs (k + 1) := by
  have e : xs.length - k = (xs.length - (k + 1)) + 1 := by omega
  unfold copyTo
  rw [e, List.replicate_succ, List.set_append, if_neg (by rw [List.length_take]; omega)]
  rw [show k - (xs.take k).length = 0 by rw [List.length_take]; omega, List.set_cons_zero]
  rw [List.take_succ_eq_append_getElem h, row_at h]
  simp

set_option maxHeartbeats 400000 in
theorem toUint64S_any (A : Option Addr) (ca : Nat) (xs : List Nat) (w : World) (hA : Rd w A (us xs)) (hn : xs.length ≤ 1048576) :
    Calls Try.prog 69 #[.slice A xs.length ca] w fun e w' => ∃ g, e = .returned (.slice (some ⟨g, 0, none⟩) xs.length xs.length) ∧ w.heap.size ≤ g ∧ Own w' g 81 (us xs) ∧ Below w.heap.size w w' := by
  have hmk := make_u64 xs.length hn
  go_enter Try.func69, Try.ntmps69
  go_wp2
  clear hmk
  go_loopw [4] (fun i wr => ∃ k : Nat, k ≤ xs.length ∧ i = .int .i64 k ∧ Own wr w.heap.size 81 (us (copyTo xs k)) ∧ Below w.heap.size w wr) (fun i _ => xs.length - (intOf i).toNat)
  case atStart => exact ⟨0, Nat.zero_le _, rfl, by rw [copyTo_zero]; exact Own.new _ _ _, below_alloc _ _⟩
  case round =>
    obtain ⟨k, hk, rfl, hown, hbel⟩ := hrel
    by_cases hlt : k < xs.length
    · obtain ⟨ad, rfl, hb1, hc1⟩ := hA k _ (us_at hlt)
      have hk2 : wr.cell? (ad.add k) = some (.int .u64 (row xs k : Int)) := (hbel.cell (by rw [add_block]; exact hb1)).trans hc1
      clear hc1
      have hcf : wr.cell? ⟨w.heap.size, k, none⟩ = some (.int .u64 ((copyTo xs k).getD k 0 : Nat)) := by
        rw [hown.cell, us_at (by rw [copyTo_length hk]; exact hlt)]
      have hff := hown.free k
      go_wp2
      go_roundw
      case rel => exact ⟨k + 1, by omega, by go_num, by rw [← copyTo_set hlt, ← us_set]; exact hown.set k _, hbel.setCell (Nat.le_refl _) _⟩
      case measure => simp [intOf]; omega
    · go_wp2
      go_ret
      refine ⟨w.heap.size, rfl, Nat.le_refl _, ?_, hbel⟩
      rw [← copyTo_all xs, show xs.length = k by omega]
      have := hown
      rwa [show k = xs.length by omega] at this ⊢

set_option maxHeartbeats 400000 in
theorem toLat_any (N : Int) (A : Option Addr) (ca : Nat) (xs : List Nat) (w : World) (hA : Rd w A (us xs)) (hn : xs.length ≤ 1048576) :
    Calls Try.prog 27 #[.agg #[.int .i64 N, .slice A xs.length ca]] w fun e w' => ∃ g, e = .returned (.agg #[.int .i64 N, .slice (some ⟨g, 0, none⟩) xs.length xs.length]) ∧ w.heap.size ≤ g ∧ Own w' g 81 (us xs) ∧ Below w.heap.size w w' := by
  go_enter Try.func27, Try.ntmps27
  go_wp2_with fail
  have o1 : Own (((w.alloc (.cells #[.int .i64 N, .slice A xs.length ca] 43)).alloc (.cells #[.int .i64 0, .slice none 0 0] 26)).alloc (.cells #[.int .i64 N, .slice none 0 0] 26)) (w.heap.size + 1) 26 [.int .i64 0, .slice none 0 0] := by
    have := (Own.new (w.alloc (.cells #[.int .i64 N, .slice A xs.length ca] 43)) 26 [.int .i64 0, .slice none 0 0]).alloc (.cells #[.int .i64 N, .slice none 0 0] 26)
    simpa using this
  have o2 : Own (((w.alloc (.cells #[.int .i64 N, .slice A xs.length ca] 43)).alloc (.cells #[.int .i64 0, .slice none 0 0] 26)).alloc (.cells #[.int .i64 N, .slice none 0 0] 26)) (w.heap.size + 1 + 1) 26 [.int .i64 N, .slice none 0 0] := by
    have := Own.new ((w.alloc (.cells #[.int .i64 N, .slice A xs.length ca] 43)).alloc (.cells #[.int .i64 0, .slice none 0 0] 26)) 26 [.int .i64 N, .slice none 0 0]
    simpa using this
  have b3 := below_trans (below_trans (below_alloc w (.cells #[.int .i64 N, .slice A xs.length ca] 43)) (below_alloc _ (.cells #[.int .i64 0, .slice none 0 0] 26))) (below_alloc _ (.cells #[.int .i64 N, .slice none 0 0] 26))
  refine (toUint64S_any A ca xs _ (hA.below b3) hn).mono ?_
  rintro e w1 ⟨g, rfl, hg, hown, hb⟩
  have hg2 : w.heap.size + 1 + 1 < g := by simp at hg; omega
  have p1 := o1.grow hb
  have p2 := o2.grow hb
  have hb2 := below_trans b3 hb
  clear o1 o2 b3 hb hg hA
  obtain ⟨d0, d1⟩ := p1.two
  obtain ⟨e0, e1⟩ := p2.two
  have f10 := p1.free 0
  have f11 := p1.free 1
  have f21 := p2.free 1
  go_wp2
  refine bodyPost_ret (v := .agg #[.int .i64 N, .slice (some ⟨g, 0, none⟩) xs.length xs.length]) (by simp [results, Try.results27, go_sem, d0, d1]) rfl ⟨g, rfl, by omega, ?_, ?_⟩
  · exact ((hown.far (by simp; omega) _).far (by simp; omega) _).far (by simp; omega) _
  · exact ((hb2.setCell (by simp; omega) _).setCell (by simp) _).setCell (by simp) _

def less (left : Int) (n : Nat) : Int := if left - (n : Int) < 0 then -1 else left - n

set_option maxHeartbeats 400000 in
theorem szUint64S_any (A : Option Addr) (n ca : Nat) (left : Int) (w : World) (h0 : 0 ≤ left) (h1 : left ≤ 1048576) (hn : n ≤ 9223372036854775807) :
    Calls Try.prog 67 #[.slice A n ca, .int .i64 left] w fun e w' => e = .returned (.int .i64 (less left n)) ∧ w = w' := by
  by_cases h : left - (n : Int) < 0
  · go_enter Try.func67, Try.ntmps67
    go_wp2
    go_ret
    exact ⟨ret_int (by simp [less, h]), rfl⟩
  · go_enter Try.func67, Try.ntmps67
    go_wp2
    go_ret
    exact ⟨ret_int (by simp [less]; omega), rfl⟩

set_option maxHeartbeats 400000 in
theorem szLat_any (N : Int) (A : Option Addr) (n ca : Nat) (left : Int) (w : World) (h0 : 0 ≤ left) (h1 : left ≤ 1048576) (hn : n ≤ 9223372036854775807) :
    Calls Try.prog 25 #[.agg #[.int .i64 N, .slice A n ca], .int .i64 left] w fun e w' => e = .returned (.int .i64 (less left n)) ∧ Below w.heap.size w w' := by
  by_cases h : left - (n : Int) < 0
  · have e1 : less left n = -1 := by simp [less, h]
    go_enter Try.func25, Try.ntmps25
    go_wp2_with (go_at_call 67; refine (as_int e1 (szUint64S_any A n ca left _ h0 h1 hn)).mono ?_; rintro e w' ⟨rfl, rfl⟩)
    go_ret
    exact ⟨ret_int e1.symm, below_alloc _ _⟩
  · have e1 : less left n = left - n := by simp [less]; omega
    have hp : 0 ≤ left - (n : Int) := by omega
    have E1 := Lib.hid e1
    clear e1
    go_enter Try.func25, Try.ntmps25
    go_wp2_with (go_at_call 67; refine (as_int E1.out (szUint64S_any A n ca left _ h0 h1 hn)).mono ?_; rintro e w' ⟨rfl, rfl⟩)
    go_ret
    exact ⟨ret_int E1.out.symm, below_alloc _ _⟩

set_option maxHeartbeats 400000 in
/-- lattices that are the same -/
theorem eqLat_same (N : Int) (A B : Option Addr) (ca cb : Nat) (xs : List Nat) (w : World) (hA : Rd w A (us xs)) (hB : Rd w B (us xs)) (hn : xs.length < 4611686018427387904) :
    Calls Try.prog 30 #[.agg #[.int .i64 N, .slice A xs.length ca], .agg #[.int .i64 N, .slice B xs.length cb]] w fun e w' => e = .returned (.bool true) ∧ Below w.heap.size w w' := by
  have hne : (N != N) = false := by simp
  have HA := Lib.hid (hA.below (below_trans (below_alloc w (.cells #[.int .i64 N, .slice A xs.length ca] 26)) (below_alloc _ (.cells #[.int .i64 N, .slice B xs.length cb] 26))))
  have HB := Lib.hid (hB.below (below_trans (below_alloc w (.cells #[.int .i64 N, .slice A xs.length ca] 26)) (below_alloc _ (.cells #[.int .i64 N, .slice B xs.length cb] 26))))
  go_enter Try.func30, Try.ntmps30
  go_wp2_with fail
  refine (as_bool (decide_eq_true rfl) (eqUint64S_any A B ca cb xs xs _ HA.out HB.out hn hn)).mono ?_
  rintro e w1 ⟨rfl, hb⟩
  have hb2 := below_trans (below_trans (below_alloc w _) (below_alloc _ _)) hb
  clear hb
  go_wp2
  go_ret
  exact ⟨rfl, hb2⟩

end Go.Proofs.Ytipcjofmplpffaa
