/-
  What the laws' own helpers on Win (a struct of 2 ints) return. By kitgen.py.
-/
import Derived.Test.YtdphbfapccnhlaaFlat
namespace Go.Proofs.Ytdphbfapccnhlaa
open Go.RowKit
set_option maxHeartbeats 400000 in
theorem eqWin_same (x0 x1 : Int) (w : World) :
    Calls Try.prog 62 #[.agg #[.int .i64 x0, .int .i64 x1], .agg #[.int .i64 x0, .int .i64 x1]] w fun e w' => e = .returned (.bool true) ∧ Below w.heap.size w w' := by
  have t0 : (x0 != x0) = false := by simp
  have t1 : (x1 != x1) = false := by simp
  go_enter Try.func62, Try.ntmps62
  go_wp2
  go_ret
  exact ⟨rfl, below_trans (below_alloc _ _) (below_alloc _ _)⟩
set_option maxHeartbeats 400000 in
/-- rows that hold the same -/
theorem eqWinS_same (A B : Option Addr) (n ca cb : Nat) (zs : List Int) (w : World) (hA : Rd w A (iz zs)) (hB : Rd w B (iz zs)) (hz : zs.length = n * 2) (hn : n ≤ 1048576) :
    Calls Try.prog 32 #[.slice A n ca, .slice B n cb] w fun e w' => e = .returned (.bool true) ∧ Below w.heap.size w w' := by
  have HZ := Lib.hid hz
  clear hz
  have hne : ((n : Int) != (n : Int)) = false := by simp
  go_enter Try.func32, Try.ntmps32
  go_wp2
  go_loopw [5] (fun i wr => ∃ k : Nat, k ≤ n ∧ i = .int .i64 k ∧ Below w.heap.size w wr) (fun i _ => n - (intOf i).toNat)
  case atStart => exact ⟨0, Nat.zero_le _, rfl, Below.refl _ _⟩
  case round =>
    obtain ⟨k, hk, rfl, hbel⟩ := hrel
    by_cases hlt : k < n
    · obtain ⟨ab, ao, rfl, hab, h1⟩ := hA.cells HZ.out hlt
      obtain ⟨bb, bo, rfl, hbb, h2⟩ := hB.cells HZ.out hlt
      have a0 : ∀ u : Bel wr, u.w.cell? ⟨ab, ao + k * 2, none⟩ = some (.int .i64 (iat zs (k * 2))) := fun u => ((below_trans hbel u.ok).cell (p := ⟨ab, ao + k * 2, none⟩) hab).trans (h1 0 (by omega))
      have a1 : ∀ u : Bel wr, u.w.cell? ⟨ab, ao + k * 2 + 1, none⟩ = some (.int .i64 (iat zs (k * 2 + 1))) := fun u => ((below_trans hbel u.ok).cell (p := ⟨ab, ao + k * 2 + 1, none⟩) hab).trans (h1 1 (by omega))
      have b0 : ∀ u : Bel wr, u.w.cell? ⟨bb, bo + k * 2, none⟩ = some (.int .i64 (iat zs (k * 2))) := fun u => ((below_trans hbel u.ok).cell (p := ⟨bb, bo + k * 2, none⟩) hbb).trans (h2 0 (by omega))
      have b1 : ∀ u : Bel wr, u.w.cell? ⟨bb, bo + k * 2 + 1, none⟩ = some (.int .i64 (iat zs (k * 2 + 1))) := fun u => ((below_trans hbel u.ok).cell (p := ⟨bb, bo + k * 2 + 1, none⟩) hbb).trans (h2 1 (by omega))
      clear h1 h2 hab hbb
      generalize iat zs (k * 2) = y0 at *
      generalize iat zs (k * 2 + 1) = y1 at *
      go_wp2
      refine wp_region_bel (by kernel_rfl) (by kernel_rfl) ?_
      repeat (go_big_quiet_step ((go_at_call 62; exact bel_of _ (eqWin_same y0 y1 _))))
      refine wpQuiet_nil ?_
      rintro _ ⟨u, rfl⟩
      go_wp2
      go_roundw
      case rel => exact ⟨k + 1, by omega, by go_num, below_trans hbel u.ok⟩
      case measure => simp [intOf]; omega
    · go_wp2
      go_ret
      exact ⟨rfl, hbel⟩
set_option maxHeartbeats 400000 in
theorem toWin_any (x0 x1 : Int) (w : World) :
    Calls Try.prog 37 #[.agg #[.int .i64 x0, .int .i64 x1]] w fun e w' => e = .returned (.agg #[.int .i64 x0, .int .i64 x1]) ∧ Below w.heap.size w w' := by
  go_enter Try.func37, Try.ntmps37
  go_wp2
  refine bodyPost_ret (v := .agg #[.int .i64 x0, .int .i64 x1]) (by simp [results, Try.results37, go_sem]) rfl ⟨rfl, ?_⟩
  exact below_trans (below_trans (below_alloc _ _) (below_alloc _ _)) (below_alloc _ _)
theorem info_Win : (Try.prog.info? 32).map (fun i => (i.zero, i.size, i.bytes)) = some (some (.agg #[.int .i64 0, .int .i64 0]), 2, 16) := by kernel_rfl
theorem made_zeros_Win (n : Nat) : madeCells (Value.agg #[.int .i64 0, .int .i64 0]).cells (n * 2) = (iz (List.replicate (n * 2) 0)).toArray := by
  apply Array.ext
  · simp [madeCells, iz]
  · intro i h1 h2
    have h : i % 2 = 0 ∨ i % 2 = 1 := by omega
    simp [madeCells, iz, Value.cells]
    rcases h with h | h <;> simp [h]
theorem make_Win (n : Nat) (hn : n ≤ 1048576) (W : World) : (Instr.makeSlice 28 (.int .i64 (n : Int)) (.int .i64 (n : Int))).run Try.prog W = .ok (.slice (some ⟨W.heap.size, 0, none⟩) n n) (W.alloc (.cells (iz (List.replicate (n * 2) 0)).toArray 32)) := by
  obtain ⟨i0, hi, hz0, hz1, hz2⟩ := info_parts info_Win
  have h := run_make (P := Try.prog) W 28 32 i0 (.agg #[.int .i64 0, .int .i64 0]) Try.underlying28 hi hz0 .i64 .i64 n n (by omega) (by omega) (by rw [hz2]; omega) (by omega)
  rw [hz1, Int.toNat_natCast, made_zeros_Win] at h
  exact h
set_option maxHeartbeats 1000000 in
theorem toWinS_any (A : Option Addr) (n ca : Nat) (zs : List Int) (w : World) (hA : Rd w A (iz zs)) (hz : zs.length = n * 2) (hn : n ≤ 1048576) :
    Calls Try.prog 36 #[.slice A n ca] w fun e w' => ∃ g, e = .returned (.slice (some ⟨g, 0, none⟩) n n) ∧ w.heap.size ≤ g ∧ Own w' g 32 (iz zs) ∧ Below w.heap.size w w' := by
  have hmk := make_Win n hn
  have HZ := Lib.hid hz
  clear hz
  go_enter Try.func36, Try.ntmps36
  go_wp2
  clear hmk
  go_loopw [4] (fun i wr => ∃ k : Nat, k ≤ n ∧ i = .int .i64 k ∧ Own wr w.heap.size 32 (iz (copyToI zs (k * 2))) ∧ w.heap.size < wr.heap.size ∧ Below w.heap.size w wr) (fun i _ => n - (intOf i).toNat)
  case atStart => exact ⟨0, Nat.zero_le _, rfl, by rw [Nat.zero_mul, copyToI_zero, HZ.out]; exact Own.new _ _ _, by simp, below_alloc _ _⟩
  case round =>
    obtain ⟨k, hk, rfl, hown, hsz, hbel⟩ := hrel
    by_cases hlt : k < n
    · obtain ⟨b, off, rfl, hb, hc⟩ := hA.cells HZ.out hlt
      have d0 : wr.cell? ⟨b, off + k * 2, none⟩ = some (.int .i64 (iat zs (k * 2))) := (hbel.cell (p := ⟨b, off + k * 2, none⟩) hb).trans (hc 0 (by omega))
      have d1 : wr.cell? ⟨b, off + k * 2 + 1, none⟩ = some (.int .i64 (iat zs (k * 2 + 1))) := (hbel.cell (p := ⟨b, off + k * 2 + 1, none⟩) hb).trans (hc 1 (by omega))
      clear hc
      have hl0 : k * 2 < zs.length := by rw [HZ.out]; omega
      have hl1 : k * 2 + 1 < zs.length := by rw [HZ.out]; omega
      go_wp2_with fail
      refine (toWin_any (iat zs (k * 2)) (iat zs (k * 2 + 1)) _).mono ?_
      rintro e w1 ⟨rfl, hb1⟩
      have ho1 := hown.grow hb1
      have hbel1 := below_trans hbel hb1
      have hsz1 : w.heap.size < w1.heap.size := by have := hb1.size; omega
      clear hown hbel hb1 hsz d0 d1
      have f0 := ho1.free (k * 2)
      have f1 := ho1.free (k * 2 + 1)
      have e0 : w1.cell? ⟨w.heap.size, k * 2, none⟩ = some (.int .i64 (iat (copyToI zs (k * 2)) (k * 2))) := by
        rw [ho1.cell, iz_iat (by rw [copyToI_length (by omega)]; exact hl0)]
      have e1 : w1.cell? ⟨w.heap.size, k * 2 + 1, none⟩ = some (.int .i64 (iat (copyToI zs (k * 2)) (k * 2 + 1))) := by
        rw [ho1.cell, iz_iat (by rw [copyToI_length (by omega)]; exact hl1)]
      have s2 := (ho1.set (k * 2) (.int .i64 (iat zs (k * 2)))).set (k * 2 + 1) (.int .i64 (iat zs (k * 2 + 1)))
      rw [iz_set, copyToI_set hl0, iz_set, copyToI_set hl1, show k * 2 + 1 + 1 = (k + 1) * 2 by omega] at s2
      have HS := Lib.hid s2
      clear s2
      go_wp2
      go_roundw
      case rel => exact ⟨k + 1, by omega, by go_num, HS.out, by simpa using hsz1, (hbel1.setCell (Nat.le_refl _) _).setCell (Nat.le_refl _) _⟩
      case measure => simp [intOf]; omega
    · go_wp2
      go_ret
      refine ⟨w.heap.size, rfl, Nat.le_refl _, ?_, hbel⟩
      have hkn : k * 2 = zs.length := by rw [HZ.out]; omega
      rw [hkn, copyToI_all] at hown
      exact hown
set_option maxHeartbeats 400000 in
theorem szWinS_any (A : Option Addr) (n ca : Nat) (left : Int) (w : World) (h0 : 0 ≤ left) (h1 : left ≤ 1048576) (hn : n ≤ 9223372036854775807) :
    Calls Try.prog 35 #[.slice A n ca, .int .i64 left] w fun e w' => e = .returned (.int .i64 (lessF left n)) ∧ w = w' := by
  by_cases h : left - (n : Int) < 0
  · go_enter Try.func35, Try.ntmps35
    go_wp2
    go_ret
    exact ⟨ret_int (by simp [lessF, h]), rfl⟩
  · go_enter Try.func35, Try.ntmps35
    go_wp2
    go_ret
    exact ⟨ret_int (by simp [lessF]; omega), rfl⟩
set_option maxHeartbeats 1000000 in
theorem markWinS_any (v : Value) (base n : Nat) (zs : List Int) (k : Int) (w : World) (hown : w.ownsRow base 32 2 v n (iz zs)) (hz : zs.length = n * 2) (h0 : 0 ≤ k) (h1 : k ≤ 4611686018427387904) (hn : n ≤ 1048576) :
    Calls Try.prog 33 #[v, .int .i64 k] w fun e w' => e = .returned (.int .i64 (k + (n * 2 : Nat))) ∧ w'.ownsRow base 32 2 v n (iz (marks k (n * 2))) ∧ w.grownBy w' v.ownBlock := by
  obtain ⟨A, c, rfl, _⟩ := owns_rd hown
  have HZ := Lib.hid hz
  clear hz
  go_enter Try.func33, Try.ntmps33
  go_wp2
  go_loopw [1, 5] (fun q i wr => ∃ j : Nat, j ≤ n ∧ i = .int .i64 j ∧ q = .int .i64 (k + j * 2) ∧ wr.ownsRow base 32 2 (.slice A n c) n (iz (markTo zs k (j * 2))) ∧ w.grownBy wr (Value.slice A n c).ownBlock) (fun _ i _ => n - (intOf i).toNat)
  case atStart => exact ⟨0, Nat.zero_le _, rfl, by simp, by rw [Nat.zero_mul, markTo_zero]; exact hown, World.grownBy.refl _ _⟩
  case round =>
    obtain ⟨j, hj, rfl, rfl, ho, hg⟩ := hrel
    by_cases hlt : j < n
    · obtain ⟨g, rfl⟩ : ∃ g, A = some ⟨g, 0, none⟩ := by
        rcases ho.2 with ⟨h, h'⟩ | ⟨g, cap, cur, h, _⟩
        · omega
        · injection h with h; exact ⟨g, h⟩
      have hl0 : j * 2 < zs.length := by rw [HZ.out]; omega
      have hl1 : j * 2 + 1 < zs.length := by rw [HZ.out]; omega
      have c0 : wr.cell? ⟨g, j * 2, none⟩ = some (.int .i64 (iat (markTo zs k (j * 2)) (j * 2))) := by
        rw [ho.cellAt (j * 2) (by omega), iz_iat (by rw [markTo_length (by omega)]; exact hl0)]
      have c1 : wr.cell? ⟨g, j * 2 + 1, none⟩ = some (.int .i64 (iat (markTo zs k (j * 2)) (j * 2 + 1))) := by
        rw [ho.cellAt (j * 2 + 1) (by omega), iz_iat (by rw [markTo_length (by omega)]; exact hl1)]
      have f0 := ho.frozenAt (j * 2)
      have f1 := ho.frozenAt (j * 2 + 1)
      have s0 := ho.stored (j * 2) (.int .i64 (k + j * 2))
      have s1 := s0.1.stored (j * 2 + 1) (.int .i64 (k + j * 2 + 1))
      have e0 : (iz (markTo zs k (j * 2))).set (j * 2) (.int .i64 (k + j * 2)) = iz (markTo zs k (j * 2 + 1)) := by
        rw [show (k + j * 2 : Int) = k + (j * 2 : Nat) by omega, iz_set, markTo_set hl0]
      have e1 : (iz (markTo zs k (j * 2 + 1))).set (j * 2 + 1) (.int .i64 (k + j * 2 + 1)) = iz (markTo zs k ((j + 1) * 2)) := by
        rw [show (k + j * 2 + 1 : Int) = k + (j * 2 + 1 : Nat) by omega, iz_set, markTo_set hl1, show (j + 1) * 2 = j * 2 + 1 + 1 by omega]
      have hs := s1.1
      rw [e0, e1] at hs
      have HO := Lib.hid hs
      have HG := Lib.hid (grownBy_trans hg (grownBy_trans s0.2 (s1.2)))
      clear hs s0 s1 e0 e1
      go_wp2
      go_roundw
      case rel =>
        exact ⟨j + 1, by omega, by go_num, by first | rfl | (congr 1; omega), HO.out, HG.out⟩
      case measure => simp [intOf]; omega
    · go_wp2
      go_ret
      have hjn : j = n := by omega
      subst hjn
      refine ⟨ret_int (by omega), ?_, hg⟩
      have := ho
      rw [← HZ.out, markTo_all, HZ.out] at this
      exact this
theorem markWinS_at (v : Value) (lo hi n : Nat) (zs : List Int) (k : Int) (w : World) (hr : RowAt lo hi w 32 2 v n (iz zs)) (h0 : 0 ≤ k) (h1 : k ≤ 4611686018427387904) (hz : zs.length = n * 2) (hn : n ≤ 1048576) :
    Calls Try.prog 33 #[v, .int .i64 k] w fun e w' => e = .returned (.int .i64 (k + (n * 2 : Nat))) ∧ RowAt lo hi w' 32 2 v n (iz (marks k (n * 2))) ∧ Only lo hi w w' :=
  (markWinS_any v lo n zs k w hr.1 hz h0 h1 hn).mono fun _ _ ⟨he, ho, hg⟩ => ⟨he, ⟨ho, hr.2⟩, Only.of_row hr hg⟩
set_option maxHeartbeats 1000000 in
theorem heldWinS_any (A : Option Addr) (c n : Nat) (k : Int) (w : World) (hA : Rd w A (iz (marks k (n * 2)))) (h0 : 0 ≤ k) (h1 : k ≤ 4611686018427387904) (hn : n ≤ 1048576) :
    Calls Try.prog 34 #[.slice A n c, .int .i64 k] w fun e w' => e = .returned (.int .i64 (k + (n * 2 : Nat))) ∧ w = w' := by
  go_enter Try.func34, Try.ntmps34
  go_wp2
  go_loop [1, 5] (fun q i => ∃ j : Nat, j ≤ n ∧ i = .int .i64 j ∧ q = .int .i64 (k + j * 2)) (fun _ i => n - (intOf i).toNat)
  case atStart => exact ⟨0, Nat.zero_le _, rfl, by simp⟩
  case round =>
    obtain ⟨j, hj, rfl, rfl⟩ := hrel
    by_cases hlt : j < n
    · obtain ⟨b, off, rfl, _, hc⟩ := hA.cells (marks_length k (n * 2)) hlt
      have c0 : w.cell? ⟨b, off + j * 2, none⟩ = some (.int .i64 (k + j * 2)) := by
        have := hc 0 (by omega)
        rw [show iat (marks k (n * 2)) (j * 2 + 0) = k + j * 2 by unfold iat; rw [marks_at (by omega)]; omega] at this
        exact this
      have c1 : w.cell? ⟨b, off + j * 2 + 1, none⟩ = some (.int .i64 (k + j * 2 + 1)) := by
        have := hc 1 (by omega)
        rw [show iat (marks k (n * 2)) (j * 2 + 1) = k + j * 2 + 1 by unfold iat; rw [marks_at (by omega)]; omega] at this
        exact this
      clear hc
      have n0 : ((k + j * 2 : Int) != k + j * 2) = false := by simp
      have n1 : ((k + j * 2 + 1 : Int) != k + j * 2 + 1) = false := by simp
      go_wp2
      go_round
      case rel => exact ⟨j + 1, by omega, by go_num, by first | rfl | (congr 1; omega)⟩
      case measure => simp [intOf]; omega
    · go_wp2
      go_ret
      exact ⟨ret_int (by omega), rfl⟩
end Go.Proofs.Ytdphbfapccnhlaa
