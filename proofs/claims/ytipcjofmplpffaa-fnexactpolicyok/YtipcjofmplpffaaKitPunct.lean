/-
  What the laws' own helpers on Punct (a struct of 4 ints) return. By kitgen.py.
-/
import Derived.Test.YtipcjofmplpffaaFlat
namespace Go.Proofs.Ytipcjofmplpffaa
open Go.RowKit
set_option maxHeartbeats 400000 in
theorem eqPunct_same (x0 x1 x2 x3 : Int) (w : World) :
    Calls Try.prog 73 #[.agg #[.int .i64 x0, .int .i64 x1, .int .i64 x2, .int .i64 x3], .agg #[.int .i64 x0, .int .i64 x1, .int .i64 x2, .int .i64 x3]] w fun e w' => e = .returned (.bool true) ∧ Below w.heap.size w w' := by
  have t0 : (x0 != x0) = false := by simp
  have t1 : (x1 != x1) = false := by simp
  have t2 : (x2 != x2) = false := by simp
  have t3 : (x3 != x3) = false := by simp
  go_enter Try.func73, Try.ntmps73
  go_wp2
  go_ret
  exact ⟨rfl, below_trans (below_alloc _ _) (below_alloc _ _)⟩
set_option maxHeartbeats 400000 in
/-- rows that hold the same -/
theorem eqPunctS_same (A B : Option Addr) (n ca cb : Nat) (zs : List Int) (w : World) (hA : Rd w A (iz zs)) (hB : Rd w B (iz zs)) (hz : zs.length = n * 4) (hn : n ≤ 1048576) :
    Calls Try.prog 34 #[.slice A n ca, .slice B n cb] w fun e w' => e = .returned (.bool true) ∧ Below w.heap.size w w' := by
  have HZ := Lib.hid hz
  clear hz
  have hne : ((n : Int) != (n : Int)) = false := by simp
  go_enter Try.func34, Try.ntmps34
  go_wp2
  go_loopw [5] (fun i wr => ∃ k : Nat, k ≤ n ∧ i = .int .i64 k ∧ Below w.heap.size w wr) (fun i _ => n - (intOf i).toNat)
  case atStart => exact ⟨0, Nat.zero_le _, rfl, Below.refl _ _⟩
  case round =>
    obtain ⟨k, hk, rfl, hbel⟩ := hrel
    by_cases hlt : k < n
    · obtain ⟨ab, ao, rfl, hab, h1⟩ := hA.cells HZ.out hlt
      obtain ⟨bb, bo, rfl, hbb, h2⟩ := hB.cells HZ.out hlt
      have a0 : ∀ u : Bel wr, u.w.cell? ⟨ab, ao + k * 4, none⟩ = some (.int .i64 (iat zs (k * 4))) := fun u => ((below_trans hbel u.ok).cell (p := ⟨ab, ao + k * 4, none⟩) hab).trans (h1 0 (by omega))
      have a1 : ∀ u : Bel wr, u.w.cell? ⟨ab, ao + k * 4 + 1, none⟩ = some (.int .i64 (iat zs (k * 4 + 1))) := fun u => ((below_trans hbel u.ok).cell (p := ⟨ab, ao + k * 4 + 1, none⟩) hab).trans (h1 1 (by omega))
      have a2 : ∀ u : Bel wr, u.w.cell? ⟨ab, ao + k * 4 + 2, none⟩ = some (.int .i64 (iat zs (k * 4 + 2))) := fun u => ((below_trans hbel u.ok).cell (p := ⟨ab, ao + k * 4 + 2, none⟩) hab).trans (h1 2 (by omega))
      have a3 : ∀ u : Bel wr, u.w.cell? ⟨ab, ao + k * 4 + 3, none⟩ = some (.int .i64 (iat zs (k * 4 + 3))) := fun u => ((below_trans hbel u.ok).cell (p := ⟨ab, ao + k * 4 + 3, none⟩) hab).trans (h1 3 (by omega))
      have b0 : ∀ u : Bel wr, u.w.cell? ⟨bb, bo + k * 4, none⟩ = some (.int .i64 (iat zs (k * 4))) := fun u => ((below_trans hbel u.ok).cell (p := ⟨bb, bo + k * 4, none⟩) hbb).trans (h2 0 (by omega))
      have b1 : ∀ u : Bel wr, u.w.cell? ⟨bb, bo + k * 4 + 1, none⟩ = some (.int .i64 (iat zs (k * 4 + 1))) := fun u => ((below_trans hbel u.ok).cell (p := ⟨bb, bo + k * 4 + 1, none⟩) hbb).trans (h2 1 (by omega))
      have b2 : ∀ u : Bel wr, u.w.cell? ⟨bb, bo + k * 4 + 2, none⟩ = some (.int .i64 (iat zs (k * 4 + 2))) := fun u => ((below_trans hbel u.ok).cell (p := ⟨bb, bo + k * 4 + 2, none⟩) hbb).trans (h2 2 (by omega))
      have b3 : ∀ u : Bel wr, u.w.cell? ⟨bb, bo + k * 4 + 3, none⟩ = some (.int .i64 (iat zs (k * 4 + 3))) := fun u => ((below_trans hbel u.ok).cell (p := ⟨bb, bo + k * 4 + 3, none⟩) hbb).trans (h2 3 (by omega))
      clear h1 h2 hab hbb
      generalize iat zs (k * 4) = y0 at *
      generalize iat zs (k * 4 + 1) = y1 at *
      generalize iat zs (k * 4 + 2) = y2 at *
      generalize iat zs (k * 4 + 3) = y3 at *
      go_wp2
      refine wp_region_bel (by kernel_rfl) (by kernel_rfl) ?_
      repeat (go_big_quiet_step ((go_at_call 73; exact bel_of _ (eqPunct_same y0 y1 y2 y3 _))))
      refine wpQuiet_nil ?_
      rintro _ ⟨u, rfl⟩
      go_wp2
      go_roundw
      case rel => exact ⟨k + 1, by omega, by go_num, below_trans hbel u.ok⟩
      case measure => simp [intOf]; omega
    · go_wp2
      go_ret
      exact ⟨rfl, hbel⟩
set_option maxHeartbeats 400000 in
theorem toPunct_any (x0 x1 x2 x3 : Int) (w : World) :
    Calls Try.prog 28 #[.agg #[.int .i64 x0, .int .i64 x1, .int .i64 x2, .int .i64 x3]] w fun e w' => e = .returned (.agg #[.int .i64 x0, .int .i64 x1, .int .i64 x2, .int .i64 x3]) ∧ Below w.heap.size w w' := by
  go_enter Try.func28, Try.ntmps28
  go_wp2
  refine bodyPost_ret (v := .agg #[.int .i64 x0, .int .i64 x1, .int .i64 x2, .int .i64 x3]) (by simp [results, Try.results28, go_sem]) rfl ⟨rfl, ?_⟩
  exact below_trans (below_trans (below_alloc _ _) (below_alloc _ _)) (below_alloc _ _)
theorem info_Punct : (Try.prog.info? 29).map (fun i => (i.zero, i.size, i.bytes)) = some (some (.agg #[.int .i64 0, .int .i64 0, .int .i64 0, .int .i64 0]), 4, 32) := by kernel_rfl
theorem made_zeros_Punct (n : Nat) : madeCells (Value.agg #[.int .i64 0, .int .i64 0, .int .i64 0, .int .i64 0]).cells (n * 4) = (iz (List.replicate (n * 4) 0)).toArray := by
  apply Array.ext
  · simp [madeCells, iz]
  · intro i h1 h2
    have h : i % 4 = 0 ∨ i % 4 = 1 ∨ i % 4 = 2 ∨ i % 4 = 3 := by omega
    simp [madeCells, iz, Value.cells]
    rcases h with h | h | h | h <;> simp [h]
theorem make_Punct (n : Nat) (hn : n ≤ 1048576) (W : World) : (Instr.makeSlice 27 (.int .i64 (n : Int)) (.int .i64 (n : Int))).run Try.prog W = .ok (.slice (some ⟨W.heap.size, 0, none⟩) n n) (W.alloc (.cells (iz (List.replicate (n * 4) 0)).toArray 29)) := by
  obtain ⟨i0, hi, hz0, hz1, hz2⟩ := info_parts info_Punct
  have h := run_make (P := Try.prog) W 27 29 i0 (.agg #[.int .i64 0, .int .i64 0, .int .i64 0, .int .i64 0]) Try.underlying27 hi hz0 .i64 .i64 n n (by omega) (by omega) (by rw [hz2]; omega) (by omega)
  rw [hz1, Int.toNat_natCast, made_zeros_Punct] at h
  exact h
set_option maxHeartbeats 1000000 in
theorem toPunctS_any (A : Option Addr) (n ca : Nat) (zs : List Int) (w : World) (hA : Rd w A (iz zs)) (hz : zs.length = n * 4) (hn : n ≤ 1048576) :
    Calls Try.prog 32 #[.slice A n ca] w fun e w' => ∃ g, e = .returned (.slice (some ⟨g, 0, none⟩) n n) ∧ w.heap.size ≤ g ∧ Own w' g 29 (iz zs) ∧ Below w.heap.size w w' := by
  have hmk := make_Punct n hn
  have HZ := Lib.hid hz
  clear hz
  go_enter Try.func32, Try.ntmps32
  go_wp2
  clear hmk
  go_loopw [4] (fun i wr => ∃ k : Nat, k ≤ n ∧ i = .int .i64 k ∧ Own wr w.heap.size 29 (iz (copyToI zs (k * 4))) ∧ w.heap.size < wr.heap.size ∧ Below w.heap.size w wr) (fun i _ => n - (intOf i).toNat)
  case atStart => exact ⟨0, Nat.zero_le _, rfl, by rw [Nat.zero_mul, copyToI_zero, HZ.out]; exact Own.new _ _ _, by simp, below_alloc _ _⟩
  case round =>
    obtain ⟨k, hk, rfl, hown, hsz, hbel⟩ := hrel
    by_cases hlt : k < n
    · obtain ⟨b, off, rfl, hb, hc⟩ := hA.cells HZ.out hlt
      have d0 : wr.cell? ⟨b, off + k * 4, none⟩ = some (.int .i64 (iat zs (k * 4))) := (hbel.cell (p := ⟨b, off + k * 4, none⟩) hb).trans (hc 0 (by omega))
      have d1 : wr.cell? ⟨b, off + k * 4 + 1, none⟩ = some (.int .i64 (iat zs (k * 4 + 1))) := (hbel.cell (p := ⟨b, off + k * 4 + 1, none⟩) hb).trans (hc 1 (by omega))
      have d2 : wr.cell? ⟨b, off + k * 4 + 2, none⟩ = some (.int .i64 (iat zs (k * 4 + 2))) := (hbel.cell (p := ⟨b, off + k * 4 + 2, none⟩) hb).trans (hc 2 (by omega))
      have d3 : wr.cell? ⟨b, off + k * 4 + 3, none⟩ = some (.int .i64 (iat zs (k * 4 + 3))) := (hbel.cell (p := ⟨b, off + k * 4 + 3, none⟩) hb).trans (hc 3 (by omega))
      clear hc
      have hl0 : k * 4 < zs.length := by rw [HZ.out]; omega
      have hl1 : k * 4 + 1 < zs.length := by rw [HZ.out]; omega
      have hl2 : k * 4 + 2 < zs.length := by rw [HZ.out]; omega
      have hl3 : k * 4 + 3 < zs.length := by rw [HZ.out]; omega
      go_wp2_with fail
      refine (toPunct_any (iat zs (k * 4)) (iat zs (k * 4 + 1)) (iat zs (k * 4 + 2)) (iat zs (k * 4 + 3)) _).mono ?_
      rintro e w1 ⟨rfl, hb1⟩
      have ho1 := hown.grow hb1
      have hbel1 := below_trans hbel hb1
      have hsz1 : w.heap.size < w1.heap.size := by have := hb1.size; omega
      clear hown hbel hb1 hsz d0 d1 d2 d3
      have f0 := ho1.free (k * 4)
      have f1 := ho1.free (k * 4 + 1)
      have f2 := ho1.free (k * 4 + 2)
      have f3 := ho1.free (k * 4 + 3)
      have e0 : w1.cell? ⟨w.heap.size, k * 4, none⟩ = some (.int .i64 (iat (copyToI zs (k * 4)) (k * 4))) := by
        rw [ho1.cell, iz_iat (by rw [copyToI_length (by omega)]; exact hl0)]
      have e1 : w1.cell? ⟨w.heap.size, k * 4 + 1, none⟩ = some (.int .i64 (iat (copyToI zs (k * 4)) (k * 4 + 1))) := by
        rw [ho1.cell, iz_iat (by rw [copyToI_length (by omega)]; exact hl1)]
      have e2 : w1.cell? ⟨w.heap.size, k * 4 + 2, none⟩ = some (.int .i64 (iat (copyToI zs (k * 4)) (k * 4 + 2))) := by
        rw [ho1.cell, iz_iat (by rw [copyToI_length (by omega)]; exact hl2)]
      have e3 : w1.cell? ⟨w.heap.size, k * 4 + 3, none⟩ = some (.int .i64 (iat (copyToI zs (k * 4)) (k * 4 + 3))) := by
        rw [ho1.cell, iz_iat (by rw [copyToI_length (by omega)]; exact hl3)]
      have s2 := (((ho1.set (k * 4) (.int .i64 (iat zs (k * 4)))).set (k * 4 + 1) (.int .i64 (iat zs (k * 4 + 1)))).set (k * 4 + 2) (.int .i64 (iat zs (k * 4 + 2)))).set (k * 4 + 3) (.int .i64 (iat zs (k * 4 + 3)))
      rw [iz_set, copyToI_set hl0, iz_set, copyToI_set hl1, iz_set, copyToI_set hl2, iz_set, copyToI_set hl3, show k * 4 + 3 + 1 = (k + 1) * 4 by omega] at s2
      have HS := Lib.hid s2
      clear s2
      go_wp2
      go_roundw
      case rel => exact ⟨k + 1, by omega, by go_num, HS.out, by simpa using hsz1, (((hbel1.setCell (Nat.le_refl _) _).setCell (Nat.le_refl _) _).setCell (Nat.le_refl _) _).setCell (Nat.le_refl _) _⟩
      case measure => simp [intOf]; omega
    · go_wp2
      go_ret
      refine ⟨w.heap.size, rfl, Nat.le_refl _, ?_, hbel⟩
      have hkn : k * 4 = zs.length := by rw [HZ.out]; omega
      rw [hkn, copyToI_all] at hown
      exact hown
set_option maxHeartbeats 400000 in
theorem szPunctS_any (A : Option Addr) (n ca : Nat) (left : Int) (w : World) (h0 : 0 ≤ left) (h1 : left ≤ 1048576) (hn : n ≤ 9223372036854775807) :
    Calls Try.prog 31 #[.slice A n ca, .int .i64 left] w fun e w' => e = .returned (.int .i64 (lessF left n)) ∧ w = w' := by
  by_cases h : left - (n : Int) < 0
  · go_enter Try.func31, Try.ntmps31
    go_wp2
    go_ret
    exact ⟨ret_int (by simp [lessF, h]), rfl⟩
  · go_enter Try.func31, Try.ntmps31
    go_wp2
    go_ret
    exact ⟨ret_int (by simp [lessF]; omega), rfl⟩
set_option maxHeartbeats 1000000 in
theorem markPunctS_any (v : Value) (base n : Nat) (zs : List Int) (k : Int) (w : World) (hown : w.ownsRow base 29 4 v n (iz zs)) (hz : zs.length = n * 4) (h0 : 0 ≤ k) (h1 : k ≤ 4611686018427387904) (hn : n ≤ 1048576) :
    Calls Try.prog 36 #[v, .int .i64 k] w fun e w' => e = .returned (.int .i64 (k + (n * 4 : Nat))) ∧ w'.ownsRow base 29 4 v n (iz (marks k (n * 4))) ∧ w.grownBy w' v.ownBlock := by
  obtain ⟨A, c, rfl, _⟩ := owns_rd hown
  have HZ := Lib.hid hz
  clear hz
  go_enter Try.func36, Try.ntmps36
  go_wp2
  go_loopw [1, 5] (fun q i wr => ∃ j : Nat, j ≤ n ∧ i = .int .i64 j ∧ q = .int .i64 (k + j * 4) ∧ wr.ownsRow base 29 4 (.slice A n c) n (iz (markTo zs k (j * 4))) ∧ w.grownBy wr (Value.slice A n c).ownBlock) (fun _ i _ => n - (intOf i).toNat)
  case atStart => exact ⟨0, Nat.zero_le _, rfl, by simp, by rw [Nat.zero_mul, markTo_zero]; exact hown, World.grownBy.refl _ _⟩
  case round =>
    obtain ⟨j, hj, rfl, rfl, ho, hg⟩ := hrel
    by_cases hlt : j < n
    · obtain ⟨g, rfl⟩ : ∃ g, A = some ⟨g, 0, none⟩ := by
        rcases ho.2 with ⟨h, h'⟩ | ⟨g, cap, cur, h, _⟩
        · omega
        · injection h with h; exact ⟨g, h⟩
      have hl0 : j * 4 < zs.length := by rw [HZ.out]; omega
      have hl1 : j * 4 + 1 < zs.length := by rw [HZ.out]; omega
      have hl2 : j * 4 + 2 < zs.length := by rw [HZ.out]; omega
      have hl3 : j * 4 + 3 < zs.length := by rw [HZ.out]; omega
      have c0 : wr.cell? ⟨g, j * 4, none⟩ = some (.int .i64 (iat (markTo zs k (j * 4)) (j * 4))) := by
        rw [ho.cellAt (j * 4) (by omega), iz_iat (by rw [markTo_length (by omega)]; exact hl0)]
      have c1 : wr.cell? ⟨g, j * 4 + 1, none⟩ = some (.int .i64 (iat (markTo zs k (j * 4)) (j * 4 + 1))) := by
        rw [ho.cellAt (j * 4 + 1) (by omega), iz_iat (by rw [markTo_length (by omega)]; exact hl1)]
      have c2 : wr.cell? ⟨g, j * 4 + 2, none⟩ = some (.int .i64 (iat (markTo zs k (j * 4)) (j * 4 + 2))) := by
        rw [ho.cellAt (j * 4 + 2) (by omega), iz_iat (by rw [markTo_length (by omega)]; exact hl2)]
      have c3 : wr.cell? ⟨g, j * 4 + 3, none⟩ = some (.int .i64 (iat (markTo zs k (j * 4)) (j * 4 + 3))) := by
        rw [ho.cellAt (j * 4 + 3) (by omega), iz_iat (by rw [markTo_length (by omega)]; exact hl3)]
      have f0 := ho.frozenAt (j * 4)
      have f1 := ho.frozenAt (j * 4 + 1)
      have f2 := ho.frozenAt (j * 4 + 2)
      have f3 := ho.frozenAt (j * 4 + 3)
      have s0 := ho.stored (j * 4) (.int .i64 (k + j * 4))
      have s1 := s0.1.stored (j * 4 + 1) (.int .i64 (k + j * 4 + 1))
      have s2 := s1.1.stored (j * 4 + 2) (.int .i64 (k + j * 4 + 1 + 1))
      have s3 := s2.1.stored (j * 4 + 3) (.int .i64 (k + j * 4 + 1 + 1 + 1))
      have e0 : (iz (markTo zs k (j * 4))).set (j * 4) (.int .i64 (k + j * 4)) = iz (markTo zs k (j * 4 + 1)) := by
        rw [show (k + j * 4 : Int) = k + (j * 4 : Nat) by omega, iz_set, markTo_set hl0]
      have e1 : (iz (markTo zs k (j * 4 + 1))).set (j * 4 + 1) (.int .i64 (k + j * 4 + 1)) = iz (markTo zs k (j * 4 + 2)) := by
        rw [show (k + j * 4 + 1 : Int) = k + (j * 4 + 1 : Nat) by omega, iz_set, markTo_set hl1]
      have e2 : (iz (markTo zs k (j * 4 + 2))).set (j * 4 + 2) (.int .i64 (k + j * 4 + 1 + 1)) = iz (markTo zs k (j * 4 + 3)) := by
        rw [show (k + j * 4 + 1 + 1 : Int) = k + (j * 4 + 2 : Nat) by omega, iz_set, markTo_set hl2]
      have e3 : (iz (markTo zs k (j * 4 + 3))).set (j * 4 + 3) (.int .i64 (k + j * 4 + 1 + 1 + 1)) = iz (markTo zs k ((j + 1) * 4)) := by
        rw [show (k + j * 4 + 1 + 1 + 1 : Int) = k + (j * 4 + 3 : Nat) by omega, iz_set, markTo_set hl3, show (j + 1) * 4 = j * 4 + 3 + 1 by omega]
      have hs := s3.1
      rw [e0, e1, e2, e3] at hs
      have HO := Lib.hid hs
      have HG := Lib.hid (grownBy_trans hg (grownBy_trans s0.2 (grownBy_trans s1.2 (grownBy_trans s2.2 (s3.2)))))
      clear hs s0 s1 s2 s3 e0 e1 e2 e3
      go_wp2
      go_roundw
      case rel =>
        exact ⟨j + 1, by omega, by go_num, by first | rfl | (congr 1; omega), HO.out, HG.out⟩
      case measure => simp [intOf]; omega
    · go_wp2
      go_ret
      have hjn : j = n := by omega
      subst hjn
      refine ⟨ret_int (by omega), ?_, hg⟩
      have := ho
      rw [← HZ.out, markTo_all, HZ.out] at this
      exact this
theorem markPunctS_at (v : Value) (lo hi n : Nat) (zs : List Int) (k : Int) (w : World) (hr : RowAt lo hi w 29 4 v n (iz zs)) (h0 : 0 ≤ k) (h1 : k ≤ 4611686018427387904) (hz : zs.length = n * 4) (hn : n ≤ 1048576) :
    Calls Try.prog 36 #[v, .int .i64 k] w fun e w' => e = .returned (.int .i64 (k + (n * 4 : Nat))) ∧ RowAt lo hi w' 29 4 v n (iz (marks k (n * 4))) ∧ Only lo hi w w' :=
  (markPunctS_any v lo n zs k w hr.1 hz h0 h1 hn).mono fun _ _ ⟨he, ho, hg⟩ => ⟨he, ⟨ho, hr.2⟩, Only.of_row hr hg⟩
set_option maxHeartbeats 1000000 in
theorem heldPunctS_any (A : Option Addr) (c n : Nat) (k : Int) (w : World) (hA : Rd w A (iz (marks k (n * 4)))) (h0 : 0 ≤ k) (h1 : k ≤ 4611686018427387904) (hn : n ≤ 1048576) :
    Calls Try.prog 37 #[.slice A n c, .int .i64 k] w fun e w' => e = .returned (.int .i64 (k + (n * 4 : Nat))) ∧ w = w' := by
  go_enter Try.func37, Try.ntmps37
  go_wp2
  go_loop [1, 5] (fun q i => ∃ j : Nat, j ≤ n ∧ i = .int .i64 j ∧ q = .int .i64 (k + j * 4)) (fun _ i => n - (intOf i).toNat)
  case atStart => exact ⟨0, Nat.zero_le _, rfl, by simp⟩
  case round =>
    obtain ⟨j, hj, rfl, rfl⟩ := hrel
    by_cases hlt : j < n
    · obtain ⟨b, off, rfl, _, hc⟩ := hA.cells (marks_length k (n * 4)) hlt
      have c0 : w.cell? ⟨b, off + j * 4, none⟩ = some (.int .i64 (k + j * 4)) := by
        have := hc 0 (by omega)
        rw [show iat (marks k (n * 4)) (j * 4 + 0) = k + j * 4 by unfold iat; rw [marks_at (by omega)]; omega] at this
        exact this
      have c1 : w.cell? ⟨b, off + j * 4 + 1, none⟩ = some (.int .i64 (k + j * 4 + 1)) := by
        have := hc 1 (by omega)
        rw [show iat (marks k (n * 4)) (j * 4 + 1) = k + j * 4 + 1 by unfold iat; rw [marks_at (by omega)]; omega] at this
        exact this
      have c2 : w.cell? ⟨b, off + j * 4 + 2, none⟩ = some (.int .i64 (k + j * 4 + 1 + 1)) := by
        have := hc 2 (by omega)
        rw [show iat (marks k (n * 4)) (j * 4 + 2) = k + j * 4 + 1 + 1 by unfold iat; rw [marks_at (by omega)]; omega] at this
        exact this
      have c3 : w.cell? ⟨b, off + j * 4 + 3, none⟩ = some (.int .i64 (k + j * 4 + 1 + 1 + 1)) := by
        have := hc 3 (by omega)
        rw [show iat (marks k (n * 4)) (j * 4 + 3) = k + j * 4 + 1 + 1 + 1 by unfold iat; rw [marks_at (by omega)]; omega] at this
        exact this
      clear hc
      have n0 : ((k + j * 4 : Int) != k + j * 4) = false := by simp
      have n1 : ((k + j * 4 + 1 : Int) != k + j * 4 + 1) = false := by simp
      have n2 : ((k + j * 4 + 1 + 1 : Int) != k + j * 4 + 1 + 1) = false := by simp
      have n3 : ((k + j * 4 + 1 + 1 + 1 : Int) != k + j * 4 + 1 + 1 + 1) = false := by simp
      go_wp2
      go_round
      case rel => exact ⟨j + 1, by omega, by go_num, by first | rfl | (congr 1; omega)⟩
      case measure => simp [intOf]; omega
    · go_wp2
      go_ret
      exact ⟨ret_int (by omega), rfl⟩
end Go.Proofs.Ytipcjofmplpffaa
