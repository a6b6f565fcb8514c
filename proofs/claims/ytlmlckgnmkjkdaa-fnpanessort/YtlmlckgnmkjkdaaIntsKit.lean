/-
  The laws' helpers on rows of integers: copies, equality, marks, and whether the marks are held.
-/
import Derived.Test.YtlmlckgnmkjkdaaIntAt
import Derived.Test.YtlmlckgnmkjkdaaMarks
import Derived.Test.YtlmlckgnmkjkdaaHold
import Derived.Test.YtlmlckgnmkjkdaaPairs
namespace Go.Proofs.Ytlmlckgnmkjkdaa
open Go.RowKit

set_option maxHeartbeats 400000 in
theorem eqIntS_any (A B : Option Addr) (ca cb : Nat) (xs ys : List Int) (w : World) (hA : Rd w A (iz xs)) (hB : Rd w B (iz ys)) (hn : xs.length < 4611686018427387904) (hm : ys.length < 4611686018427387904) :
    Calls Try.prog 77 #[.slice A xs.length ca, .slice B ys.length cb] w fun e w' => e = .returned (.bool (decide (xs = ys))) ∧ Below w.heap.size w w' := by
  by_cases hl : xs.length = ys.length
  · have hl1 : ((xs.length : Int) != (ys.length : Int)) = false := by simp [hl]
    have HL := Lib.hid hl
    clear hl
    go_enter Try.func77, Try.ntmps77
    go_wp2
    go_loopw [5] (fun i wr => ∃ k : Nat, k ≤ xs.length ∧ i = .int .i64 k ∧ Hid (xs.take k = ys.take k) ∧ Below w.heap.size w wr) (fun i _ => xs.length - (intOf i).toNat)
    case atStart => exact ⟨0, Nat.zero_le _, rfl, Lib.hid (by simp), Below.refl _ _⟩
    case round =>
      obtain ⟨k, hk, rfl, hpre, hbel⟩ := hrel
      by_cases hlt : k < xs.length
      · have hlt2 : k < ys.length := by rw [← HL.out]; exact hlt
        obtain ⟨ad, rfl, hb1, hc1⟩ := hA k _ (iz_at hlt)
        obtain ⟨bd, rfl, hb2, hc2⟩ := hB k _ (iz_at hlt2)
        have h1 : ∀ u : Bel wr, u.w.cell? (ad.add k) = some (.int .i64 (xs.getD k 0)) := fun u => ((below_trans hbel u.ok).cell (by rw [add_block]; exact hb1)).trans hc1
        have h2 : ∀ u : Bel wr, u.w.cell? (bd.add k) = some (.int .i64 (ys.getD k 0)) := fun u => ((below_trans hbel u.ok).cell (by rw [add_block]; exact hb2)).trans hc2
        clear hc1 hc2
        go_wp2
        refine wp_region_bel (by kernel_rfl) (by kernel_rfl) ?_
        repeat (go_big_quiet_step (fail))
        refine wpQuiet_nil ?_
        rintro _ ⟨u, rfl⟩
        by_cases heq : xs[k] = ys[k]
        · have hne : (xs[k] != ys[k]) = false := by simp [heq]
          have HE := Lib.hid heq
          clear heq
          go_wp2
          go_roundw
          case rel => exact ⟨k + 1, by omega, by go_num, Lib.hid (take_next hlt hlt2 hpre.out HE.out), below_trans hbel u.ok⟩
          case measure => simp [intOf]; omega
        · have hne : (xs[k] != ys[k]) = true := by rw [bne_iff_ne]; omega
          go_wp2
          go_ret
          exact ⟨ret_bool (by rw [eq_comm, decide_eq_false_iff_not]; rintro rfl; exact heq rfl), below_trans hbel u.ok⟩
      · go_wp2
        go_ret
        refine ⟨ret_bool ?_, hbel⟩
        have hp := hpre.out
        have hll := HL.out
        rw [List.take_of_length_le (by omega), List.take_of_length_le (by omega)] at hp
        simp [hp]
  · have hl1 : ((xs.length : Int) != (ys.length : Int)) = true := by rw [bne_iff_ne]; omega
    go_enter Try.func77, Try.ntmps77
    go_wp2
    go_ret
    exact ⟨ret_bool (by rw [eq_comm, decide_eq_false_iff_not]; rintro rfl; exact hl rfl), Below.refl _ _⟩

set_option maxHeartbeats 400000 in
theorem markIntS_any (v : Value) (base : Nat) (zs : List Int) (k : Int) (w : World) (hown : w.ownsRow base 3 1 v zs.length (iz zs)) (h0 : 0 ≤ k) (h1 : k ≤ 4611686018427387904) (hn : zs.length ≤ 1048576) :
    Calls Try.prog 84 #[v, .int .i64 k] w fun e w' => e = .returned (.int .i64 (k + zs.length)) ∧ w'.ownsRow base 3 1 v zs.length (iz (marks k zs.length)) ∧ w.grownBy w' v.ownBlock := by
  obtain ⟨A, c, rfl, _⟩ := owns_rd hown
  go_enter Try.func84, Try.ntmps84
  go_wp2
  go_loopw [1, 5] (fun q i wr => ∃ j : Nat, j ≤ zs.length ∧ i = .int .i64 j ∧ q = .int .i64 (k + j) ∧ wr.ownsRow base 3 1 (.slice A zs.length c) zs.length (iz (markTo zs k j)) ∧ w.grownBy wr (Value.slice A zs.length c).ownBlock) (fun _ i _ => zs.length - (intOf i).toNat)
  case atStart => exact ⟨0, Nat.zero_le _, rfl, by simp, by rw [markTo_zero]; exact hown, World.grownBy.refl _ _⟩
  case round =>
    obtain ⟨j, hj, rfl, rfl, ho, hg⟩ := hrel
    by_cases hlt : j < zs.length
    · obtain ⟨g, rfl⟩ : ∃ g, A = some ⟨g, 0, none⟩ := by
        rcases ho.2 with ⟨h, h'⟩ | ⟨g, cap, cur, h, _⟩
        · omega
        · injection h with h; exact ⟨g, h⟩
      have hcf : wr.cell? ⟨g, j, none⟩ = some (.int .i64 ((markTo zs k j).getD j 0)) := by
        rw [ho.cellAt j (by omega), iz_at (by rw [markTo_length hj]; exact hlt)]
      have hff := ho.frozenAt j
      have HO := Lib.hid (ho.stored j (.int .i64 (k + j)))
      go_wp2
      go_roundw
      case rel =>
        have := HO.out
        rw [iz_set, markTo_set hlt] at this
        exact ⟨j + 1, by omega, by go_num, by go_num, this.1, grownBy_trans hg this.2⟩
      case measure => simp [intOf]; omega
    · go_wp2
      go_ret
      have hjn : j = zs.length := by omega
      subst hjn
      exact ⟨rfl, by rw [← markTo_all]; exact ho, hg⟩
set_option maxHeartbeats 400000 in
theorem heldIntS_any (A : Option Addr) (c n : Nat) (k : Int) (w : World) (hA : Rd w A (iz (marks k n))) (h0 : 0 ≤ k) (h1 : k ≤ 4611686018427387904) (hn : n ≤ 1048576) :
    Calls Try.prog 85 #[.slice A n c, .int .i64 k] w fun e w' => e = .returned (.int .i64 (k + n)) ∧ w = w' := by
  go_enter Try.func85, Try.ntmps85
  go_wp2
  go_loop [1, 5] (fun q i => ∃ j : Nat, j ≤ n ∧ i = .int .i64 j ∧ q = .int .i64 (k + j)) (fun _ i => n - (intOf i).toNat)
  case atStart => exact ⟨0, Nat.zero_le _, rfl, by simp⟩
  case round =>
    obtain ⟨j, hj, rfl, rfl⟩ := hrel
    by_cases hlt : j < n
    · obtain ⟨ad, rfl, _, hc⟩ := hA j _ (iz_at (by rw [marks_length]; exact hlt))
      rw [marks_at hlt] at hc
      have hne : ((k + j : Int) != k + j) = false := by simp
      go_wp2
      go_round
      case rel => exact ⟨j + 1, by omega, by go_num, by go_num⟩
      case measure => simp [intOf]; omega
    · go_wp2
      go_ret
      exact ⟨ret_int (by omega), rfl⟩

theorem markIntS_at (v : Value) (lo hi n : Nat) (zs : List Int) (k : Int) (w : World) (hr : RowAt lo hi w 3 1 v n (iz zs)) (h0 : 0 ≤ k) (h1 : k ≤ 4611686018427387904) (hl : zs.length = n) (hn : n ≤ 1048576) :
    Calls Try.prog 84 #[v, .int .i64 k] w fun e w' => e = .returned (.int .i64 (k + n)) ∧ RowAt lo hi w' 3 1 v n (iz (marks k n)) ∧ Only lo hi w w' := by
  subst hl
  exact (markIntS_any v lo zs k w hr.1 h0 h1 hn).mono fun _ _ ⟨he, ho, hg⟩ => ⟨he, ⟨ho, hr.2⟩, Only.of_row hr hg⟩

/-- rows of integers that hold the same -/
theorem eqIntS_same (A B : Option Addr) (n ca cb : Nat) (zs : List Int) (w : World) (hA : Rd w A (iz zs)) (hB : Rd w B (iz zs)) (hl : zs.length = n) (hn : n ≤ 1048576) :
    Calls Try.prog 77 #[.slice A n ca, .slice B n cb] w fun e w' => e = .returned (.bool true) ∧ Below w.heap.size w w' := by
  subst hl
  exact as_bool (decide_eq_true rfl) (eqIntS_any A B ca cb zs zs w hA hB (by omega) (by omega))

theorem info_intK : (Try.prog.info? 3).map (fun i => (i.zero, i.size, i.bytes)) = some (some (.int .i64 0), 1, 8) := by kernel_rfl
theorem made_zeros_int (n : Nat) : madeCells (Value.int .i64 0).cells (n * 1) = (iz (List.replicate n 0)).toArray := by
  apply Array.ext
  · simp [madeCells, iz]
  · intro i h1 h2
    simp [madeCells, iz, Value.cells, Nat.mod_one]
theorem make_int (n : Nat) (hn : n ≤ 1048576) (W : World) : (Instr.makeSlice 29 (.int .i64 (n : Int)) (.int .i64 (n : Int))).run Try.prog W = .ok (.slice (some ⟨W.heap.size, 0, none⟩) n n) (W.alloc (.cells (iz (List.replicate n 0)).toArray 3)) := by
  obtain ⟨i0, hi, hz0, hz1, hz2⟩ := info_parts info_intK
  have h := run_make (P := Try.prog) W 29 3 i0 (.int .i64 0) Try.underlying29 hi hz0 .i64 .i64 n n (by omega) (by omega) (by rw [hz2]; omega) (by omega)
  rw [hz1, Int.toNat_natCast, made_zeros_int] at h
  exact h

set_option maxHeartbeats 400000 in
theorem toIntS_any (A : Option Addr) (ca : Nat) (xs : List Int) (w : World) (hA : Rd w A (iz xs)) (hn : xs.length ≤ 1048576) :
    Calls Try.prog 73 #[.slice A xs.length ca] w fun e w' => ∃ g, e = .returned (.slice (some ⟨g, 0, none⟩) xs.length xs.length) ∧ w.heap.size ≤ g ∧ Own w' g 3 (iz xs) ∧ Below w.heap.size w w' := by
  have hmk := make_int xs.length hn
  go_enter Try.func73, Try.ntmps73
  go_wp2
  clear hmk
  go_loopw [4] (fun i wr => ∃ k : Nat, k ≤ xs.length ∧ i = .int .i64 k ∧ Own wr w.heap.size 3 (iz (copyToI xs k)) ∧ Below w.heap.size w wr) (fun i _ => xs.length - (intOf i).toNat)
  case atStart => exact ⟨0, Nat.zero_le _, rfl, by rw [copyToI_zero]; exact Own.new _ _ _, below_alloc _ _⟩
  case round =>
    obtain ⟨k, hk, rfl, hown, hbel⟩ := hrel
    by_cases hlt : k < xs.length
    · obtain ⟨ad, rfl, hb1, hc1⟩ := hA k _ (iz_iat hlt)
      have hk2 : wr.cell? (ad.add k) = some (.int .i64 (iat xs k)) := (hbel.cell (by rw [add_block]; exact hb1)).trans hc1
      clear hc1
      have hcf : wr.cell? ⟨w.heap.size, k, none⟩ = some (.int .i64 ((copyToI xs k).getD k 0)) := by
        rw [hown.cell, iz_at (by rw [copyToI_length hk]; exact hlt)]
      have hff := hown.free k
      go_wp2
      go_roundw
      case rel => exact ⟨k + 1, by omega, by go_num, by rw [← copyToI_set hlt, ← iz_set]; exact hown.set k _, hbel.setCell (Nat.le_refl _) _⟩
      case measure => simp [intOf]; omega
    · go_wp2
      go_ret
      refine ⟨w.heap.size, rfl, Nat.le_refl _, ?_, hbel⟩
      rw [← copyToI_all xs, show xs.length = k by omega]
      have := hown
      rwa [show k = xs.length by omega] at this ⊢


theorem toIntS_at (A : Option Addr) (ca : Nat) (xs : List Int) (w : World) (hA : Rd w A (iz xs)) (hn : xs.length ≤ 1048576) :
    Calls Try.prog 73 #[.slice A xs.length ca] w fun e w' => ∃ g, e = .returned (.slice (some ⟨g, 0, none⟩) xs.length xs.length) ∧
      RowAt w.heap.size w'.heap.size w' 3 1 (.slice (some ⟨g, 0, none⟩) xs.length xs.length) xs.length (iz xs) ∧ Below w.heap.size w w' :=
  (toIntS_any A ca xs w hA hn).mono fun _ _ ⟨g, he, hg, hown, hb⟩ => ⟨g, he, hown.rowAt hg (iz_length xs) hn, hb⟩

end Go.Proofs.Ytlmlckgnmkjkdaa
