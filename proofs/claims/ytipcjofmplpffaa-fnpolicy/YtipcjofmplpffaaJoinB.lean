import Derived.Test.YtipcjofmplpffaaPairs
import Derived.Test.YtipcjofmplpffaaJoinA
import Derived.Test.YtipcjofmplpffaaIntAt
import Derived.Sort.OwnSorted
import Derived.Deep.AppendLies
import Derived.Deep.RegionLaw
import Derived.Test.YtipcjofmplpffaaBase

/-
  Rows of structs of M ints, as flat lists of integers: the cells of entry k.
-/
namespace Go.Proofs.Ytipcjofmplpffaa
open Go.RowKit

theorem Rd.cells {w : World} {A : Option Addr} {zs : List Int} {n M : Nat} (h : Rd w A (iz zs)) (hz : zs.length = n * M) {k : Nat} (hk : k < n) (hM : 0 < M := by decide) :
    ∃ b off, A = some ⟨b, off, none⟩ ∧ b < w.heap.size ∧ ∀ j, j < M → w.cell? ⟨b, off + k * M + j, none⟩ = some (.int .i64 (iat zs (k * M + j))) := by
  have h0 : 0 < zs.length := by rw [hz]; exact Nat.mul_pos (by omega) hM
  obtain ⟨ad0, rfl, hb, c0⟩ := h _ _ (iz_iat (k := 0) h0)
  obtain ⟨b, off, rfl⟩ := plain_of c0
  refine ⟨b, off, rfl, hb, fun j hj => ?_⟩
  have hkj : k * M + j < zs.length := by
    rw [hz]
    have : (k + 1) * M ≤ n * M := Nat.mul_le_mul_right M hk
    rw [Nat.add_mul] at this
    omega
  obtain ⟨ad, e, _, h1⟩ := h _ _ (iz_iat (k := k * M + j) hkj)
  injection e with e
  subst e
  rw [plain_add, ← Nat.add_assoc] at h1
  exact h1

/-- what is left of a measure: -1 where nothing is -/
def lessF (left : Int) (n : Nat) : Int := if left - (n : Int) < 0 then -1 else left - (n : Int)
end Go.Proofs.Ytipcjofmplpffaa

/-
  What the laws' own helpers on Punct (a struct of 4 ints) return. By kitgen.py.
-/
namespace Go.Proofs.Ytipcjofmplpffaa
open Go.RowKit
set_option maxHeartbeats 400000 in
theorem eqPunct_same (x0 x1 x2 x3 : Int) (w : World) :
    Calls Try.prog 73 #[.agg #[.int .i64 x0, .int .i64 x1, .int .i64 x2, .int .i64 x3], .agg #[.int .i64 x0, .int .i64 x1, .int .i64 x2, .int .i64 x3]] w fun e w' => e = .returned (.bool true) ∧ Below w.heap.size w w' := by
  have t0 : (x0 != x0) = false := by simp
  have t1 : (x1 != x1) = false := by simp
  have t2 : (x2 != x2) = false := by simp
  have t3 : (x3 != x3) = false := by simp
  go_enter Try.func73, Try.ntmps73
  go_wp2
  go_ret
  exact ⟨rfl, below_trans (below_alloc _ _) (below_alloc _ _)⟩
set_option maxHeartbeats 400000 in
/-- rows that hold the same -/
theorem eqPunctS_same (A B : Option Addr) (n ca cb : Nat) (zs : List Int) (w : World) (hA : Rd w A (iz zs)) (hB : Rd w B (iz zs)) (hz : zs.length = n * 4) (hn : n ≤ 1048576) :
    Calls Try.prog 34 #[.slice A n ca, .slice B n cb] w fun e w' => e = .returned (.bool true) ∧ Below w.heap.size w w' := by
  have HZ := Lib.hid hz
  clear hz
  have hne : ((n : Int) != (n : Int)) = false := by simp
  go_enter Try.func34, Try.ntmps34
  go_wp2
  go_loopw [5] (fun i wr => ∃ k : Nat, k ≤ n ∧ i = .int .i64 k ∧ Below w.heap.size w wr) (fun i _ => n - (intOf i).toNat)
  case atStart => exact ⟨0, Nat.zero_le _, rfl, Below.refl _ _⟩
  case round =>
    obtain ⟨k, hk, rfl, hbel⟩ := hrel
    by_cases hlt : k < n
    · obtain ⟨ab, ao, rfl, hab, h1⟩ := hA.cells HZ.out hlt
      obtain ⟨bb, bo, rfl, hbb, h2⟩ := hB.cells HZ.out hlt
      have a0 : ∀ u : Bel wr, u.w.cell? ⟨ab, ao + k * 4, none⟩ = some (.int .i64 (iat zs (k * 4))) := fun u => ((below_trans hbel u.ok).cell (p := ⟨ab, ao + k * 4, none⟩) hab).trans (h1 0 (by omega))
      have a1 : ∀ u : Bel wr, u.w.cell? ⟨ab, ao + k * 4 + 1, none⟩ = some (.int .i64 (iat zs (k * 4 + 1))) := fun u => ((below_trans hbel u.ok).cell (p := ⟨ab, ao + k * 4 + 1, none⟩) hab).trans (h1 1 (by omega))
      have a2 : ∀ u : Bel wr, u.w.cell? ⟨ab, ao + k * 4 + 2, none⟩ = some (.int .i64 (iat zs (k * 4 + 2))) := fun u => ((below_trans hbel u.ok).cell (p := ⟨ab, ao + k * 4 + 2, none⟩) hab).trans (h1 2 (by omega))
      have a3 : ∀ u : Bel wr, u.w.cell? ⟨ab, ao + k * 4 + 3, none⟩ = some (.int .i64 (iat zs (k * 4 + 3))) := fun u => ((below_trans hbel u.ok).cell (p := ⟨ab, ao + k * 4 + 3, none⟩) hab).trans (h1 3 (by omega))
      have b0 : ∀ u : Bel wr, u.w.cell? ⟨bb, bo + k * 4, none⟩ = some (.int .i64 (iat zs (k * 4))) := fun u => ((below_trans hbel u.ok).cell (p := ⟨bb, bo + k * 4, none⟩) hbb).trans (h2 0 (by omega))
      have b1 : ∀ u : Bel wr, u.w.cell? ⟨bb, bo + k * 4 + 1, none⟩ = some (.int .i64 (iat zs (k * 4 + 1))) := fun u => ((below_trans hbel u.ok).cell (p := ⟨bb, bo + k * 4 + 1, none⟩) hbb).trans (h2 1 (by omega))
      have b2 : ∀ u : Bel wr, u.w.cell? ⟨bb, bo + k * 4 + 2, none⟩ = some (.int .i64 (iat zs (k * 4 + 2))) := fun u => ((below_trans hbel u.ok).cell (p := ⟨bb, bo + k * 4 + 2, none⟩) hbb).trans (h2 2 (by omega))
      have b3 : ∀ u : Bel wr, u.w.cell? ⟨bb, bo + k * 4 + 3, none⟩ = some (.int .i64 (iat zs (k * 4 + 3))) := fun u => ((below_trans hbel u.ok).cell (p := ⟨bb, bo + k * 4 + 3, none⟩) hbb).trans (h2 3 (by omega))
      clear h1 h2 hab hbb
      generalize iat zs (k * 4) = y0 at *
      generalize iat zs (k * 4 + 1) = y1 at *
      generalize iat zs (k * 4 + 2) = y2 at *
      generalize iat zs (k * 4 + 3) = y3 at *
      go_wp2
      refine wp_region_bel (by kernel_rfl) (by kernel_rfl) ?_
      repeat (go_big_quiet_step ((go_at_call 73; exact bel_of _ (eqPunct_same y0 y1 y2 y3 _))))
      refine wpQuiet_nil ?_
      rintro _ ⟨u, rfl⟩
      go_wp2
      go_roundw
      case rel => exact ⟨k + 1, by omega, by go_num, below_trans hbel u.ok⟩
      case measure => simp [intOf]; omega
    · go_wp2
      go_ret
      exact ⟨rfl, hbel⟩
set_option maxHeartbeats 400000 in
theorem toPunct_any (x0 x1 x2 x3 : Int) (w : World) :
    Calls Try.prog 28 #[.agg #[.int .i64 x0, .int .i64 x1, .int .i64 x2, .int .i64 x3]] w fun e w' => e = .returned (.agg #[.int .i64 x0, .int .i64 x1, .int .i64 x2, .int .i64 x3]) ∧ Below w.heap.size w w' := by
  go_enter Try.func28, Try.ntmps28
  go_wp2
  refine bodyPost_ret (v := .agg #[.int .i64 x0, .int .i64 x1, .int .i64 x2, .int .i64 x3]) (by simp [results, Try.results28, go_sem]) rfl ⟨rfl, ?_⟩
  exact below_trans (below_trans (below_alloc _ _) (below_alloc _ _)) (below_alloc _ _)
theorem info_Punct : (Try.prog.info? 29).map (fun i => (i.zero, i.size, i.bytes)) = some (some (.agg #[.int .i64 0, .int .i64 0, .int .i64 0, .int .i64 0]), 4, 32) := by kernel_rfl
theorem made_zeros_Punct (n : Nat) : madeCells (Value.agg #[.int .i64 0, .int .i64 0, .int .i64 0, .int .i64 0]).cells (n * 4) = (iz (List.replicate (n * 4) 0)).toArray := by
  apply Array.ext
  · simp [madeCells, iz]
  · intro i h1 h2
    have h : i % 4 = 0 ∨ i % 4 = 1 ∨ i % 4 = 2 ∨ i % 4 = 3 := by omega
    simp [madeCells, iz, Value.cells]
    rcases h with h | h | h | h <;> simp [h]
theorem make_Punct (n : Nat) (hn : n ≤ 1048576) (W : World) : (Instr.makeSlice 27 (.int .i64 (n : Int)) (.int .i64 (n : Int))).run Try.prog W = .ok (.slice (some ⟨W.heap.size, 0, none⟩) n n) (W.alloc (.cells (iz (List.replicate (n * 4) 0)).toArray 29)) := by
  obtain ⟨i0, hi, hz0, hz1, hz2⟩ := info_parts info_Punct
  have h := run_make (P := Try.prog) W 27 29 i0 (.agg #[.int .i64 0, .int .i64 0, .int .i64 0, .int .i64 0]) Try.underlying27 hi hz0 .i64 .i64 n n (by omega) (by omega) (by rw [hz2]; omega) (by omega)
  rw [hz1, Int.toNat_natCast, made_zeros_Punct] at h
  exact h
set_option maxHeartbeats 1000000 in
theorem toPunctS_any (A : Option Addr) (n ca : Nat) (zs : List Int) (w : World) (hA : Rd w A (iz zs)) (hz : zs.length = n * 4) (hn : n ≤ 1048576) :
    Calls Try.prog 32 #[.slice A n ca] w fun e w' => ∃ g, e = .returned (.slice (some ⟨g, 0, none⟩) n n) ∧ w.heap.size ≤ g ∧ Own w' g 29 (iz zs) ∧ Below w.heap.size w w' := by
  have hmk := make_Punct n hn
  have HZ := Lib.hid hz
  clear hz
  go_enter Try.func32, Try.ntmps32
  go_wp2
  clear hmk
  go_loopw [4] (fun i wr => ∃ k : Nat, k ≤ n ∧ i = .int .i64 k ∧ Own wr w.heap.size 29 (iz (copyToI zs (k * 4))) ∧ w.heap.size < wr.heap.size ∧ Below w.heap.size w wr) (fun i _ => n - (intOf i).toNat)
  case atStart => exact ⟨0, Nat.zero_le _, rfl, by rw [Nat.zero_mul, copyToI_zero, HZ.out]; exact Own.new _ _ _, by simp, below_alloc _ _⟩
  case round =>
    obtain ⟨k, hk, rfl, hown, hsz, hbel⟩ := hrel
    by_cases hlt : k < n
    · obtain ⟨b, off, rfl, hb, hc⟩ := hA.cells HZ.out hlt
      have d0 : wr.cell? ⟨b, off + k * 4, none⟩ = some (.int .i64 (iat zs (k * 4))) := (hbel.cell (p := ⟨b, off + k * 4, none⟩) hb).trans (hc 0 (by omega))
      have d1 : wr.cell? ⟨b, off + k * 4 + 1, none⟩ = some (.int .i64 (iat zs (k * 4 + 1))) := (hbel.cell (p := ⟨b, off + k * 4 + 1, none⟩) hb).trans (hc 1 (by omega))
      have d2 : wr.cell? ⟨b, off + k * 4 + 2, none⟩ = some (.int .i64 (iat zs (k * 4 + 2))) := (hbel.cell (p := ⟨b, off + k * 4 + 2, none⟩) hb).trans (hc 2 (by omega))
      have d3 : wr.cell? ⟨b, off + k * 4 + 3, none⟩ = some (.int .i64 (iat zs (k * 4 + 3))) := (hbel.cell (p := ⟨b, off + k * 4 + 3, none⟩) hb).trans (hc 3 (by omega))
      clear hc
      have hl0 : k * 4 < zs.length := by rw [HZ.out]; omega
      have hl1 : k * 4 + 1 < zs.length := by rw [HZ.out]; omega
      have hl2 : k * 4 + 2 < zs.length := by rw [HZ.out]; omega
      have hl3 : k * 4 + 3 < zs.length := by rw [HZ.out]; omega
      go_wp2_with fail
      refine (toPunct_any (iat zs (k * 4)) (iat zs (k * 4 + 1)) (iat zs (k * 4 + 2)) (iat zs (k * 4 + 3)) _).mono ?_
      rintro e w1 ⟨rfl, hb1⟩
      have ho1 := hown.grow hb1
      have hbel1 := below_trans hbel hb1
      have hsz1 : w.heap.size < w1.heap.size := by have := hb1.size; omega
      clear hown hbel hb1 hsz d0 d1 d2 d3
      have f0 := ho1.free (k * 4)
      have f1 := ho1.free (k * 4 + 1)
      have f2 := ho1.free (k * 4 + 2)
      have f3 := ho1.free (k * 4 + 3)
      have e0 : w1.cell? ⟨w.heap.size, k * 4, none⟩ = some (.int .i64 (iat (copyToI zs (k * 4)) (k * 4))) := by
        rw [ho1.cell, iz_iat (by rw [copyToI_length (by omega)]; exact hl0)]
      have e1 : w1.cell? ⟨w.heap.size, k * 4 + 1, none⟩ = some (.int .i64 (iat (copyToI zs (k * 4)) (k * 4 + 1))) := by
        rw [ho1.cell, iz_iat (by rw [copyToI_length (by omega)]; exact hl1)]
      have e2 : w1.cell? ⟨w.heap.size, k * 4 + 2, none⟩ = some (.int .i64 (iat (copyToI zs (k * 4)) (k * 4 + 2))) := by
        rw [ho1.cell, iz_iat (by rw [copyToI_length (by omega)]; exact hl2)]
      have e3 : w1.cell? ⟨w.heap.size, k * 4 + 3, none⟩ = some (.int .i64 (iat (copyToI zs (k * 4)) (k * 4 + 3))) := by
        rw [ho1.cell, iz_iat (by rw [copyToI_length (by omega)]; exact hl3)]
      have s2 := (((ho1.set (k * 4) (.int .i64 (iat zs (k * 4)))).set (k * 4 + 1) (.int .i64 (iat zs (k * 4 + 1)))).set (k * 4 + 2) (.int .i64 (iat zs (k * 4 + 2)))).set (k * 4 + 3) (.int .i64 (iat zs (k * 4 + 3)))
      rw [iz_set, copyToI_set hl0, iz_set, copyToI_set hl1, iz_set, copyToI_set hl2, iz_set, copyToI_set hl3, show k * 4 + 3 + 1 = (k + 1) * 4 by omega] at s2
      have HS := Lib.hid s2
      clear s2
      go_wp2
      go_roundw
      case rel => exact ⟨k + 1, by omega, by go_num, HS.out, by simpa using hsz1, (((hbel1.setCell (Nat.le_refl _) _).setCell (Nat.le_refl _) _).setCell (Nat.le_refl _) _).setCell (Nat.le_refl _) _⟩
      case measure => simp [intOf]; omega
    · go_wp2
      go_ret
      refine ⟨w.heap.size, rfl, Nat.le_refl _, ?_, hbel⟩
      have hkn : k * 4 = zs.length := by rw [HZ.out]; omega
      rw [hkn, copyToI_all] at hown
      exact hown
set_option maxHeartbeats 400000 in
theorem szPunctS_any (A : Option Addr) (n ca : Nat) (left : Int) (w : World) (h0 : 0 ≤ left) (h1 : left ≤ 1048576) (hn : n ≤ 9223372036854775807) :
    Calls Try.prog 31 #[.slice A n ca, .int .i64 left] w fun e w' => e = .returned (.int .i64 (lessF left n)) ∧ w = w' := by
  by_cases h : left - (n : Int) < 0
  · go_enter Try.func31, Try.ntmps31
    go_wp2
    go_ret
    exact ⟨ret_int (by simp [lessF, h]), rfl⟩
  · go_enter Try.func31, Try.ntmps31
    go_wp2
    go_ret
    exact ⟨ret_int (by simp [lessF]; omega), rfl⟩
set_option maxHeartbeats 1000000 in
theorem markPunctS_any (v : Value) (base n : Nat) (zs : List Int) (k : Int) (w : World) (hown : w.ownsRow base 29 4 v n (iz zs)) (hz : zs.length = n * 4) (h0 : 0 ≤ k) (h1 : k ≤ 4611686018427387904) (hn : n ≤ 1048576) :
    Calls Try.prog 36 #[v, .int .i64 k] w fun e w' => e = .returned (.int .i64 (k + (n * 4 : Nat))) ∧ w'.ownsRow base 29 4 v n (iz (marks k (n * 4))) ∧ w.grownBy w' v.ownBlock := by
  obtain ⟨A, c, rfl, _⟩ := owns_rd hown
  have HZ := Lib.hid hz
  clear hz
  go_enter Try.func36, Try.ntmps36
  go_wp2
  go_loopw [1, 5] (fun q i wr => ∃ j : Nat, j ≤ n ∧ i = .int .i64 j ∧ q = .int .i64 (k + j * 4) ∧ wr.ownsRow base 29 4 (.slice A n c) n (iz (markTo zs k (j * 4))) ∧ w.grownBy wr (Value.slice A n c).ownBlock) (fun _ i _ => n - (intOf i).toNat)
  case atStart => exact ⟨0, Nat.zero_le _, rfl, by simp, by rw [Nat.zero_mul, markTo_zero]; exact hown, World.grownBy.refl _ _⟩
  case round =>
    obtain ⟨j, hj, rfl, rfl, ho, hg⟩ := hrel
    by_cases hlt : j < n
    · obtain ⟨g, rfl⟩ : ∃ g, A = some ⟨g, 0, none⟩ := by
        rcases ho.2 with ⟨h, h'⟩ | ⟨g, cap, cur, h, _⟩
        · omega
        · injection h with h; exact ⟨g, h⟩
      have hl0 : j * 4 < zs.length := by rw [HZ.out]; omega
      have hl1 : j * 4 + 1 < zs.length := by rw [HZ.out]; omega
      have hl2 : j * 4 + 2 < zs.length := by rw [HZ.out]; omega
      have hl3 : j * 4 + 3 < zs.length := by rw [HZ.out]; omega
      have c0 : wr.cell? ⟨g, j * 4, none⟩ = some (.int .i64 (iat (markTo zs k (j * 4)) (j * 4))) := by
        rw [ho.cellAt (j * 4) (by omega), iz_iat (by rw [markTo_length (by omega)]; exact hl0)]
      have c1 : wr.cell? ⟨g, j * 4 + 1, none⟩ = some (.int .i64 (iat (markTo zs k (j * 4)) (j * 4 + 1))) := by
        rw [ho.cellAt (j * 4 + 1) (by omega), iz_iat (by rw [markTo_length (by omega)]; exact hl1)]
      have c2 : wr.cell? ⟨g, j * 4 + 2, none⟩ = some (.int .i64 (iat (markTo zs k (j * 4)) (j * 4 + 2))) := by
        rw [ho.cellAt (j * 4 + 2) (by omega), iz_iat (by rw [markTo_length (by omega)]; exact hl2)]
      have c3 : wr.cell? ⟨g, j * 4 + 3, none⟩ = some (.int .i64 (iat (markTo zs k (j * 4)) (j * 4 + 3))) := by
        rw [ho.cellAt (j * 4 + 3) (by omega), iz_iat (by rw [markTo_length (by omega)]; exact hl3)]
      have f0 := ho.frozenAt (j * 4)
      have f1 := ho.frozenAt (j * 4 + 1)
      have f2 := ho.frozenAt (j * 4 + 2)
      have f3 := ho.frozenAt (j * 4 + 3)
      have s0 := ho.stored (j * 4) (.int .i64 (k + j * 4))
      have s1 := s0.1.stored (j * 4 + 1) (.int .i64 (k + j * 4 + 1))
      have s2 := s1.1.stored (j * 4 + 2) (.int .i64 (k + j * 4 + 1 + 1))
      have s3 := s2.1.stored (j * 4 + 3) (.int .i64 (k + j * 4 + 1 + 1 + 1))
      have e0 : (iz (markTo zs k (j * 4))).set (j * 4) (.int .i64 (k + j * 4)) = iz (markTo zs k (j * 4 + 1)) := by
        rw [show (k + j * 4 : Int) = k + (j * 4 : Nat) by omega, iz_set, markTo_set hl0]
      have e1 : (iz (markTo zs k (j * 4 + 1))).set (j * 4 + 1) (.int .i64 (k + j * 4 + 1)) = iz (markTo zs k (j * 4 + 2)) := by
        rw [show (k + j * 4 + 1 : Int) = k + (j * 4 + 1 : Nat) by omega, iz_set, markTo_set hl1]
      have e2 : (iz (markTo zs k (j * 4 + 2))).set (j * 4 + 2) (.int .i64 (k + j * 4 + 1 + 1)) = iz (markTo zs k (j * 4 + 3)) := by
        rw [show (k + j * 4 + 1 + 1 : Int) = k + (j * 4 + 2 : Nat) by omega, iz_set, markTo_set hl2]
      have e3 : (iz (markTo zs k (j * 4 + 3))).set (j * 4 + 3) (.int .i64 (k + j * 4 + 1 + 1 + 1)) = iz (markTo zs k ((j + 1) * 4)) := by
        rw [show (k + j * 4 + 1 + 1 + 1 : Int) = k + (j * 4 + 3 : Nat) by omega, iz_set, markTo_set hl3, show (j + 1) * 4 = j * 4 + 3 + 1 by omega]
      have hs := s3.1
      rw [e0, e1, e2, e3] at hs
      have HO := Lib.hid hs
      have HG := Lib.hid (grownBy_trans hg (grownBy_trans s0.2 (grownBy_trans s1.2 (grownBy_trans s2.2 (s3.2)))))
      clear hs s0 s1 s2 s3 e0 e1 e2 e3
      go_wp2
      go_roundw
      case rel =>
        exact ⟨j + 1, by omega, by go_num, by first | rfl | (congr 1; omega), HO.out, HG.out⟩
      case measure => simp [intOf]; omega
    · go_wp2
      go_ret
      have hjn : j = n := by omega
      subst hjn
      refine ⟨ret_int (by omega), ?_, hg⟩
      have := ho
      rw [← HZ.out, markTo_all, HZ.out] at this
      exact this
theorem markPunctS_at (v : Value) (lo hi n : Nat) (zs : List Int) (k : Int) (w : World) (hr : RowAt lo hi w 29 4 v n (iz zs)) (h0 : 0 ≤ k) (h1 : k ≤ 4611686018427387904) (hz : zs.length = n * 4) (hn : n ≤ 1048576) :
    Calls Try.prog 36 #[v, .int .i64 k] w fun e w' => e = .returned (.int .i64 (k + (n * 4 : Nat))) ∧ RowAt lo hi w' 29 4 v n (iz (marks k (n * 4))) ∧ Only lo hi w w' :=
  (markPunctS_any v lo n zs k w hr.1 hz h0 h1 hn).mono fun _ _ ⟨he, ho, hg⟩ => ⟨he, ⟨ho, hr.2⟩, Only.of_row hr hg⟩
set_option maxHeartbeats 1000000 in
theorem heldPunctS_any (A : Option Addr) (c n : Nat) (k : Int) (w : World) (hA : Rd w A (iz (marks k (n * 4)))) (h0 : 0 ≤ k) (h1 : k ≤ 4611686018427387904) (hn : n ≤ 1048576) :
    Calls Try.prog 37 #[.slice A n c, .int .i64 k] w fun e w' => e = .returned (.int .i64 (k + (n * 4 : Nat))) ∧ w = w' := by
  go_enter Try.func37, Try.ntmps37
  go_wp2
  go_loop [1, 5] (fun q i => ∃ j : Nat, j ≤ n ∧ i = .int .i64 j ∧ q = .int .i64 (k + j * 4)) (fun _ i => n - (intOf i).toNat)
  case atStart => exact ⟨0, Nat.zero_le _, rfl, by simp⟩
  case round =>
    obtain ⟨j, hj, rfl, rfl⟩ := hrel
    by_cases hlt : j < n
    · obtain ⟨b, off, rfl, _, hc⟩ := hA.cells (marks_length k (n * 4)) hlt
      have c0 : w.cell? ⟨b, off + j * 4, none⟩ = some (.int .i64 (k + j * 4)) := by
        have := hc 0 (by omega)
        rw [show iat (marks k (n * 4)) (j * 4 + 0) = k + j * 4 by unfold iat; rw [marks_at (by omega)]; omega] at this
        exact this
      have c1 : w.cell? ⟨b, off + j * 4 + 1, none⟩ = some (.int .i64 (k + j * 4 + 1)) := by
        have := hc 1 (by omega)
        rw [show iat (marks k (n * 4)) (j * 4 + 1) = k + j * 4 + 1 by unfold iat; rw [marks_at (by omega)]; omega] at this
        exact this
      have c2 : w.cell? ⟨b, off + j * 4 + 2, none⟩ = some (.int .i64 (k + j * 4 + 1 + 1)) := by
        have := hc 2 (by omega)
        rw [show iat (marks k (n * 4)) (j * 4 + 2) = k + j * 4 + 1 + 1 by unfold iat; rw [marks_at (by omega)]; omega] at this
        exact this
      have c3 : w.cell? ⟨b, off + j * 4 + 3, none⟩ = some (.int .i64 (k + j * 4 + 1 + 1 + 1)) := by
        have := hc 3 (by omega)
        rw [show iat (marks k (n * 4)) (j * 4 + 3) = k + j * 4 + 1 + 1 + 1 by unfold iat; rw [marks_at (by omega)]; omega] at this
        exact this
      clear hc
      have n0 : ((k + j * 4 : Int) != k + j * 4) = false := by simp
      have n1 : ((k + j * 4 + 1 : Int) != k + j * 4 + 1) = false := by simp
      have n2 : ((k + j * 4 + 1 + 1 : Int) != k + j * 4 + 1 + 1) = false := by simp
      have n3 : ((k + j * 4 + 1 + 1 + 1 : Int) != k + j * 4 + 1 + 1 + 1) = false := by simp
      go_wp2
      go_round
      case rel => exact ⟨j + 1, by omega, by go_num, by first | rfl | (congr 1; omega)⟩
      case measure => simp [intOf]; omega
    · go_wp2
      go_ret
      exact ⟨ret_int (by omega), rfl⟩
end Go.Proofs.Ytipcjofmplpffaa

/-
  l04Without: what it returns.
-/
namespace Go.Proofs.Ytipcjofmplpffaa
open Go.RowKit

theorem l04One_is {a b c d a' b' c' d' : Int} {B : Bool} (h : decide (sameP (a, b, c, d) (a', b', c', d')) = B) (w : World) :
    Calls Try.prog 77 #[pv a b c d, pv a' b' c' d'] w fun e w' => e = .returned (.bool B) ∧ Below w.heap.size w w' := as_bool h (l04One_any a b c d a' b' c' d' w)

/-- the one new entry of an append, as cells -/
theorem quad_new {W : World} {x0 x1 x2 x3 : Int} : ∀ j u, [Value.int .i64 x0, .int .i64 x1, .int .i64 x2, .int .i64 x3][j]? = some u →
    (W.alloc (.cells #[.int .i64 x0, .int .i64 x1, .int .i64 x2, .int .i64 x3] 29)).cell? ((⟨W.heap.size, 0, none⟩ : Addr).add j) = some u := by
  intro j u hj
  rw [add_plain, (Own.new W 29 [Value.int .i64 x0, .int .i64 x1, .int .i64 x2, .int .i64 x3]).cell]
  exact hj
set_option maxRecDepth 100000 in
set_option maxHeartbeats 1000000 in
theorem l04Without_any (B : Option Addr) (cb : Nat) (ps : List Pn) (a b c d : Int) (w : World) (hB : Rd w B (iz (qz ps))) (hm : ps.length ≤ 1048588) :
    Calls Try.prog 43 #[.slice B ps.length cb, pv a b c d] w fun e w' => ∃ v, e = .returned v ∧ v ≠ .slice none 0 0 ∧ w'.ownsRow w.heap.size 29 4 v (without ps (a, b, c, d)).length (iz (qz (without ps (a, b, c, d)))) ∧ Below w.heap.size w w' := by
  have HB := Lib.hid hB
  clear hB
  obtain ⟨i0, hi, hz0, hz1', hz2⟩ := info_parts info_Punct
  have HI := Lib.hid hi
  have HZ0 := Lib.hid hz0
  have HZ1 := Lib.hid hz1'
  have HZ2 := Lib.hid hz2
  clear hi hz0 hz1' hz2
  go_enter Try.func43, Try.ntmps43
  go_wp2
  go_loopw [5, 6] (fun v i wr => ∃ k : Nat, k ≤ ps.length ∧ i = .int .i64 k ∧ v ≠ .slice none 0 0 ∧ wr.ownsRow (w.heap.size + 1) 29 4 v (without (ps.take k) (a, b, c, d)).length (iz (qz (without (ps.take k) (a, b, c, d)))) ∧
    Own wr w.heap.size 29 [.int .i64 a, .int .i64 b, .int .i64 c, .int .i64 d] ∧ w.heap.size + 1 ≤ wr.heap.size ∧ Below w.heap.size w wr) (fun _ i _ => ps.length - (intOf i).toNat)
  case atStart =>
    refine ⟨0, Nat.zero_le _, rfl, by simp, ?_, (Own.new w 29 [.int .i64 a, .int .i64 b, .int .i64 c, .int .i64 d]).alloc _, by simp, below_trans (below_alloc _ _) (below_alloc _ _)⟩
    have := World.ownsRow_lit (base := w.heap.size + 1) (e := 29) (size := 4) (w.alloc (.cells #[.int .i64 a, .int .i64 b, .int .i64 c, .int .i64 d] 29)) #[] 0 (by simp) (by simp) (by simp)
    simpa [without, qz, iz] using this
  case round =>
    obtain ⟨k, hk, rfl, hnn, hrow, hown, hsz, hbel⟩ := hrel
    by_cases hlt : k < ps.length
    · obtain ⟨g, off, rfl, c0, c1, c2, c3⟩ := quad_cells HB.out hbel hlt
      have p0 : ∀ u : Bel wr, u.w.cell? ⟨w.heap.size, 0, none⟩ = some (.int .i64 a) := fun u => (hown.grow u.ok).cell 0
      have p1 : ∀ u : Bel wr, u.w.cell? ⟨w.heap.size, 1, none⟩ = some (.int .i64 b) := fun u => (hown.grow u.ok).cell 1
      have p2 : ∀ u : Bel wr, u.w.cell? ⟨w.heap.size, 2, none⟩ = some (.int .i64 c) := fun u => (hown.grow u.ok).cell 2
      have p3 : ∀ u : Bel wr, u.w.cell? ⟨w.heap.size, 3, none⟩ = some (.int .i64 d) := fun u => (hown.grow u.ok).cell 3
      have HS := Lib.hid (without_snoc (p := (a, b, c, d)) hlt)
      have hwl := without_length (ps.take k) (a, b, c, d)
      rw [List.length_take] at hwl
      generalize qat ps k = q at *
      obtain ⟨q0, q1, q2, q3⟩ := q
      by_cases hs : sameP (q0, q1, q2, q3) (a, b, c, d)
      · have HD := Lib.hid (decide_eq_true hs)
        have HR := Lib.hid (show without (ps.take (k + 1)) (a, b, c, d) = without (ps.take k) (a, b, c, d) by rw [HS.out, if_pos hs, List.append_nil])
        clear hs HS
        go_wp2
        refine wp_region_bel (by kernel_rfl) (by kernel_rfl) ?_
        repeat (go_big_quiet_step ((go_at_call 77; exact bel_of _ (l04One_is HD.out _))))
        refine wpQuiet_nil ?_
        rintro _ ⟨u, rfl⟩
        go_wp2
        go_roundw
        case rel => exact ⟨k + 1, by omega, by go_num, hnn, by rw [HR.out]; exact owns_grow hrow u.ok, hown.grow u.ok, by have := u.ok.size; omega, below_trans hbel u.ok⟩
        case measure => simp [intOf]; omega
      · have HD := Lib.hid (decide_eq_false hs)
        have HR := Lib.hid (show without (ps.take (k + 1)) (a, b, c, d) = without (ps.take k) (a, b, c, d) ++ [(q0, q1, q2, q3)] by rw [HS.out, if_neg hs])
        clear hs HS
        go_wp2
        refine wp_region_bel (by kernel_rfl) (by kernel_rfl) ?_
        repeat (go_big_quiet_step ((go_at_call 77; exact bel_of _ (l04One_is HD.out _))))
        refine wpQuiet_nil ?_
        rintro _ ⟨u, rfl⟩
        have d0 := c0 u
        have d1 := c1 u
        have d2 := c2 u
        have d3 := c3 u
        have hrow1 := owns_grow hrow u.ok
        have hown1 := hown.grow u.ok
        have hbel1 := below_trans hbel u.ok
        have hsz1 : w.heap.size + 1 ≤ u.w.heap.size := by have := u.ok.size; omega
        clear c0 c1 c2 c3 p0 p1 p2 p3 hrow hown hbel hsz
        generalize u.w = w3 at *
        generalize hW : without (ps.take k) (a, b, c, d) = ws at *
        go_wp2_with (at_builtin; refine wpList_append_own _ rfl _ _ 27 rfl (w.heap.size + 1) 29 i0 (.agg #[.int .i64 0, .int .i64 0, .int .i64 0, .int .i64 0]) 4 32 Try.underlying27 HI.out HZ0.out HZ1.out HZ2.out rfl (by decide) _ _ _ rfl (hrow1.alloc _) ⟨w3.heap.size, 0, none⟩ 1 1 [.int .i64 q0, .int .i64 q1, .int .i64 q2, .int .i64 q3] rfl rfl quad_new (by intro u hu'; simp at hu'; rcases hu' with rfl | rfl | rfl | rfl <;> rfl) (by unfold maxLen; omega) (by omega) (by simp; omega) ?_; intro v' w4 hrow' hgrow hnil)
        have hR2 : w4.ownsRow (w.heap.size + 1) 29 4 v' (without (ps.take (k + 1)) (a, b, c, d)).length (iz (qz (without (ps.take (k + 1)) (a, b, c, d)))) := by
          rw [HR.out, qz_append, iz_append]; simpa [iz, qz, qf] using hrow'
        have hO2 := append_box hrow1 hown1 (by omega) hgrow
        have hB2 := append_below hbel1 (by omega) hrow1 (by omega) hgrow
        have hS2 : w.heap.size + 1 ≤ w4.heap.size := by have := hgrow.size; simp at this; omega
        have hnn2 : v' ≠ .slice none 0 0 := by simpa using hnil
        clear hnil hrow' hgrow hrow1 hown1 hbel1 hsz1 d0 d1 d2 d3
        go_wp2
        go_roundw
        case rel => exact ⟨k + 1, by omega, by go_num, hnn2, hR2, hO2, hS2, hB2⟩
        case measure => simp [intOf]; omega
    · go_wp2
      go_ret
      refine ⟨_, rfl, hnn, ?_, hbel⟩
      have hkn : k = ps.length := by omega
      subst hkn
      rw [List.take_length] at hrow
      exact owns_base hrow (by omega)
end Go.Proofs.Ytipcjofmplpffaa

/-
  sortedPolicy: what it returns.
-/
namespace Go.Proofs.Ytipcjofmplpffaa
open Go.RowKit Go.WideMaps Go.Maps

/-- The entries met so far in a range over D. -/
structure Coll (D : DataW Unit) (left : Lit → Bool) (ss : List Pn) : Prop where
  sound : ∀ p ∈ ss, wfPl (plc p) ∧ left (kp (plc p)) = false ∧ ∀ z, D.atKey (kp (plc p)) z = .lit (.int .i64 p.2.2.2)
  full : ∀ k, Maps.has D k = true → left k = false → ∃ p ∈ ss, kp (plc p) = k
  one : ss.Pairwise (fun a b => ¬ sameP a b)

theorem Coll.start (D : DataW Unit) : Coll D (Maps.has D) [] := ⟨fun p hp => by simp at hp, fun k h1 h2 => absurd (h1.symm.trans h2) (by simp), List.Pairwise.nil⟩
theorem Coll.step {D : DataW Unit} {left : Lit → Bool} {ss : List Pn} (h : Coll D left ss) {x : Pl} {c : Int} (hw : wfPl x) (hl : left (kp x) = true) (hat : ∀ z, D.atKey (kp x) z = .lit (.int .i64 c)) :
    Coll D (fun z => left z && !z.sameKey (kp x)) (ss ++ [(x.1, x.2.1, x.2.2, c)]) := by
  refine ⟨fun p hp => ?_, fun k h1 h2 => ?_, ?_⟩
  · rcases List.mem_append.1 hp with hp | hp
    · obtain ⟨a, b, c⟩ := h.sound p hp
      exact ⟨a, by simp [b], c⟩
    · obtain rfl := List.mem_singleton.1 hp
      refine ⟨hw, ?_, hat⟩
      show (left (kp x) && !(kp x).sameKey (kp x)) = false
      rw [WideAt.sameKey_self (kp_key x)]
      simp
  · cases hk : left k with
    | false =>
      obtain ⟨p, hp, e⟩ := h.full k h1 hk
      exact ⟨p, List.mem_append.2 (.inl hp), e⟩
    | true =>
      rw [hk, Bool.true_and] at h2
      have := WideAt.sameKey_eq (by simpa using h2)
      subst this
      exact ⟨_, List.mem_append.2 (.inr (List.mem_singleton.2 rfl)), rfl⟩
  · refine List.pairwise_append.2 ⟨h.one, List.pairwise_singleton _ _, fun a ha b hb => ?_⟩
    obtain rfl := List.mem_singleton.1 hb
    intro hs
    obtain ⟨_, h2, _⟩ := h.sound a ha
    have : kp (plc a) = kp x := by unfold plc; rw [hs.1, hs.2.1, hs.2.2]
    rw [this, hl] at h2
    cases h2
theorem Coll.same {D : DataW Unit} {left : Lit → Bool} {ss qs : List Pn} (h : Coll D left ss) (ht : Tie D qs) (hl : ∀ k, left k = false) (q : Pn) : q ∈ ss ↔ q ∈ qs := by
  have eqs : ∀ p r : Pn, wfPl (plc p) → wfPl (plc r) → kp (plc p) = kp (plc r) → (∀ z, D.atKey (kp (plc p)) z = .lit (.int .i64 p.2.2.2)) → (∀ z, D.atKey (kp (plc r)) z = .lit (.int .i64 r.2.2.2)) → p = r := by
    intro p r wp wr e hp hr
    have h1 := kp_inj wp wr e
    have h2 : (DataW.lit (.int .i64 p.2.2.2) : DataW Unit) = .lit (.int .i64 r.2.2.2) := by rw [← hp (.lit (.int .i64 0)), ← hr (.lit (.int .i64 0)), e]
    simp only [plc, Prod.mk.injEq] at h1
    simp only [DataW.lit.injEq, Lit.int.injEq, true_and] at h2
    obtain ⟨a, b, c, d⟩ := p
    obtain ⟨a', b', c', d'⟩ := r
    simp_all
  constructor
  · intro hq
    obtain ⟨hw, _, hat⟩ := h.sound q hq
    obtain ⟨r, hr, e⟩ := (ht.keys _).1 (has_true_of_atKey hat)
    rw [eqs q r hw (ht.wf r hr) e.symm hat (ht.vals r hr)]
    exact hr
  · intro hq
    obtain ⟨p, hp, e⟩ := h.full _ ((ht.keys _).2 ⟨q, hq, rfl⟩) (hl _)
    obtain ⟨hw, _, hat⟩ := h.sound p hp
    rw [← eqs p q hw (ht.wf q hq) e hat (ht.vals q hq)]
    exact hp
theorem sorted_perm_less {ss ts : List Pn} (hp : ts.Perm ss) (h1 : ss.Pairwise (fun a b => ¬ sameP a b)) (h2 : ts.Pairwise (fun a b => ¬ lessP b a)) : ts.Pairwise lessP := by
  have h3 : ts.Pairwise (fun a b => ¬ sameP a b) := (hp.symm.pairwise_iff (fun {a b} h e => h (same_symm e))).1 h1
  exact (h2.and h3).imp fun {a b} h => less_of_not h.1 (fun e => h.2 (same_symm e))

set_option maxRecDepth 100000 in
set_option maxHeartbeats 2000000 in
theorem sortedPolicy_any (g n : Nat) (D : DataW Unit) (qs : List Pn) (w : World) (hown : ownsP w g n D) (htie : Tie D qs) (hn : n ≤ 1048588) :
    Calls Try.prog 47 #[.map (some g)] w fun e w' => ∃ v rs, e = .returned v ∧ rs.Pairwise lessP ∧ (∀ q, q ∈ rs ↔ q ∈ qs) ∧ w'.ownsRow w.heap.size 29 4 v rs.length (iz (qz rs)) ∧ Below w.heap.size w w' := by
  obtain ⟨i0, hi, hz0, hz1, hz2⟩ := info_parts info_Punct
  have hsl := hown.size_le
  have hgl := hown.lt
  go_enter Try.func47, Try.ntmps47
  go_wp2_with (first
    | (at_len; refine wpList_len_own _ rfl _ 67 rfl 70 3 Try.underlying67 _ g n D rfl hown ?_)
    | (at_make; refine wpList_make_own _ rfl _ _ 27 rfl w.heap.size 29 i0 (.agg #[.int .i64 0, .int .i64 0, .int .i64 0, .int .i64 0]) 4 Try.underlying27 hi hz0 hz1 _ _ _ (Maps.size D) rfl rfl rfl (by rw [hz2]; omega) (by unfold maxLen; omega) (Nat.le_refl _) ?_; intro w1 hrow1 hg1)
    | (at_range; refine wpList_range_own _ rfl _ 67 rfl 70 3 placeLaw Try.underlying67 _ g n D rfl (hown.kept hg1 (by simp)) ?_; intro w2 hrg0 hg0 hs0))
  go_frame
  go_loopw [3] (fun v wr => ∃ left cnt ss, wr.ranges Try.prog 70 (plainElem Try.prog 3) g w1.heap.size n D left cnt ∧ ss.length + cnt ≤ Maps.size D ∧
      wr.ownsRow w.heap.size 29 4 v ss.length (iz (qz ss)) ∧ v ≠ .slice none 0 0 ∧ Coll D left ss ∧ Below w.heap.size w wr)
    (fun _ wr => wr.rangeLeft g w1.heap.size)
  case atStart =>
    exact ⟨_, _, [], hrg0, by simp, hrow1.kept hg0 (Or.inr (by simp [Value.ownBlock])), by simp, Coll.start D,
      ((Below.refl _ _).grown hg1 (Nat.le_refl _) (fun j hj => by cases hj)).grown hg0 hg1.size (fun j hj => by cases hj)⟩
  case round =>
    obtain ⟨left, cnt, ss, hrg, hcs, hrow, hnn, hC, hnx⟩ := hrel
    have hg1s := hg1.size
    clear hrow1 hrg0 hg0 hs0
    go_wp2_with (first
      | (at_next; refine wpList_next_ranges _ rfl _ rfl 70 placeLaw (plainElem Try.prog 3) plV (Value.int .i64) (fun key kl hk => by obtain ⟨x, hx, _⟩ := keyOf_place_inv hk; exact ⟨x, hx⟩) (fun v y hv => by obtain ⟨c, rfl, _⟩ := plainElem_int_inv Try.underlying3 hv; exact ⟨c, rfl⟩) g w1.heap.size n _ _ _ rfl hrg ?_ ?_)
      | go_in)
    · intro hc0 hl0
      have HS := Lib.hid (sortPuncts_any _ w.heap.size ss wr hrow hnn (by omega))
      go_wp2_with (go_at_call 78; refine HS.out.mono ?_; rintro e w' ⟨rfl, ts, hp, hs, hrow', hg'⟩)
      go_ret
      refine ⟨_, ts, rfl, sorted_perm_less hp hC.one hs, fun q => ?_, by rw [hp.length_eq]; exact hrow', hnx.grown hg' hnx.size (fun j hj => (hrow.lt j hj).1)⟩
      rw [hp.mem_iff]
      exact hC.same htie hl0 q
    · intro a b d c kl yd yp w2 cnt2 hkey hlk hv hat hrg2 hlt hg2 hs2 hen
      obtain ⟨x', ex, hwx, rfl⟩ := keyOf_place_inv hkey
      obtain rfl : (a, b, d) = x' := by obtain ⟨a', b', c'⟩ := x'; simpa using ex
      obtain ⟨c', ec, ey, hwc⟩ := plainElem_int_inv Try.underlying3 hv
      obtain rfl : c = c' := by simpa using ec
      have HC := Lib.hid (hC.step hwx hlk (c := c) (fun z => by rw [hat z]; exact congrArg Prod.fst ey))
      have hrow2 := hrow.kept hg2 (Or.inr (row_ne_iter hrow hrg).symm)
      have hnx2 := hnx.grown hg2 hnx.size (fun j hj => by cases hj; exact hg1.size)
      have hws2 := hnx2.size
      clear hs2 hat hv ec ex hkey hlk ey hwx hwc hC
      go_wp2_with (first
        | (at_builtin; refine wpList_append_own _ rfl _ _ 27 rfl w.heap.size 29 i0 (.agg #[.int .i64 0, .int .i64 0, .int .i64 0, .int .i64 0]) 4 32 Try.underlying27 hi hz0 hz1 hz2 rfl (by decide) _ _ _ rfl ((hrow2.alloc _).alloc _) ⟨w2.heap.size + 1, 0, none⟩ 1 1 [.int .i64 a, .int .i64 b, .int .i64 d, .int .i64 c] rfl rfl ?c1 ?c2 ?c3 ?c4 ?c5 ?_)
        | go_in)
      case c2 => exact ⟨rfl, rfl, rfl, rfl⟩
      case c3 => unfold maxLen; omega
      case c4 => omega
      case c5 => omega
      intro v' w3 hown' hg3 hnil3
      have hrg3 := ((hrg2.alloc _).alloc _).kept hg3 (row_ne_low hrow2 hgl) (row_ne_iter hrow2 hrg2)
      have hnx3 := ((hnx2.alloc hws2 _).alloc (by simp; omega) _).grown hg3 (by simp; omega) (fun j hj => (hrow2.lt j hj).1)
      have hrow3 : w3.ownsRow w.heap.size 29 4 v' (ss ++ [(a, b, d, c)]).length (iz (qz (ss ++ [(a, b, d, c)]))) := by
        rw [qz_append, iz_append]; simpa [iz, qz, qf] using hown'
      have hnn3 : v' ≠ .slice none 0 0 := hnil3
      clear hg3 hown' hnil3 hen
      go_wp2
      go_roundw
      case rel => exact ⟨_, cnt2, _, hrg3, by simp; omega, hrow3, hnn3, HC.out, hnx3⟩
      case measure => rw [hrg3.left_eq, hrg.left_eq]; exact hlt
end Go.Proofs.Ytipcjofmplpffaa

/-
  PolicySet and PolicyDrop, the program's: what they return.
-/
namespace Go.Proofs.Ytipcjofmplpffaa
open Go.RowKit Go.WideMaps Go.Maps

/-- a list of one's own, and a word -/
def PolRes (w : World) (rs : List Pn) (ok : Bool) (e : Ending) (w' : World) : Prop := ∃ v, e = .returned (.tuple #[v, .bool ok]) ∧ w'.ownsRow w.heap.size 29 4 v rs.length (iz (qz rs)) ∧ Below w.heap.size w w'

def setOk (N : Int) (xs : List Nat) (ps : List Pn) (p : Pn) : Prop := okL N xs ps ∧ goodP N p ∧ (without ps p).length ≠ 12
noncomputable def setV (N : Int) (xs : List Nat) (ps : List Pn) (p : Pn) : List Pn := if tf (setOk N xs ps p) = true then setP ps p else []
theorem setV_no {N : Int} {xs : List Nat} {ps : List Pn} {p : Pn} (h : ¬ setOk N xs ps p) : setV N xs ps p = [] := by unfold setV; rw [← tf_no h]; rfl
theorem setV_yes {N : Int} {xs : List Nat} {ps : List Pn} {p : Pn} (h : setOk N xs ps p) : setV N xs ps p = setP ps p := by unfold setV; rw [← tf_yes h]; rfl
def dropOk (N : Int) (xs : List Nat) (ps : List Pn) (p : Pn) : Prop := okL N xs ps ∧ (without ps p).length ≠ ps.length
noncomputable def dropV (N : Int) (xs : List Nat) (ps : List Pn) (p : Pn) : List Pn := if tf (dropOk N xs ps p) = true then without ps p else []
theorem dropV_no {N : Int} {xs : List Nat} {ps : List Pn} {p : Pn} (h : ¬ dropOk N xs ps p) : dropV N xs ps p = [] := by unfold dropV; rw [← tf_no h]; rfl
theorem dropV_yes {N : Int} {xs : List Nat} {ps : List Pn} {p : Pn} (h : dropOk N xs ps p) : dropV N xs ps p = without ps p := by unfold dropV; rw [← tf_yes h]; rfl
theorem without_same_length {ps : List Pn} {p : Pn} : (without ps p).length = ps.length ↔ ∀ q ∈ ps, ¬ sameP q p := by
  unfold without
  rw [List.length_filter_eq_length_iff]
  simp

theorem zero_intD (w : World) : (zeroValue 3).run Try.prog w = .ok (.int .i64 0) w := by kernel_rfl
theorem res_no {w w' : World} {rs : List Pn} {ok : Bool} (hr : rs = []) (ho : ok = false) (hb : Below w.heap.size w w') : PolRes w rs ok (.returned (.tuple #[.slice none 0 0, .bool false])) w' := by
  subst hr ho
  exact ⟨_, rfl, World.ownsRow_nil _ _ _ _, hb⟩
theorem ownsP_size {w : World} {g n : Nat} {D : DataW Unit} {qs : List Pn} (h : ownsP w g n D) (ht : Tie D qs) : Maps.size D = qs.length := by
  refine ht.size (h.tidy placeLaw) fun es e p hp => ?_
  obtain ⟨es', e', _, hk⟩ := h.entries placeLaw
  rw [e] at e'
  cases e'
  exact hk p hp

set_option maxRecDepth 100000 in
set_option maxHeartbeats 2000000 in
theorem implPolicySet_any (N : Int) (A : Option Addr) (ca : Nat) (xs : List Nat) (B : Option Addr) (cb : Nat) (ps : List Pn) (a b c d : Int) (w : World) (hA : Rd w A (us xs)) (hu : U64 xs) (hn : xs.length ≤ 1048576) (hB : Rd w B (iz (qz ps))) (hm : ps.length ≤ 1048588) :
    Calls Try.prog 14 #[.agg #[.int .i64 N, .slice A xs.length ca], .slice B ps.length cb, pv a b c d] w (PolRes w (setV N xs ps (a, b, c, d)) (tf (setOk N xs ps (a, b, c, d)))) := by
  have HA := Lib.hid (fun W (h : Below w.heap.size w W) => hA.below h)
  have HB := Lib.hid (fun W (h : Below w.heap.size w W) => hB.below h)
  clear hA hB
  go_enter Try.func14, Try.ntmps14
  go_wp2_with fail
  by_cases hL : okL N xs ps
  · refine (as_bool (tf_yes hL).symm (implPolicyOk_any N A ca xs B cb ps _ (HA.out _ (below_trans (below_alloc _ _) (below_alloc _ _))) hu hn (HB.out _ (below_trans (below_alloc _ _) (below_alloc _ _))) hm)).mono ?_
    have HL := Lib.hid hL
    clear hL
    rintro e w1 ⟨rfl, hb1⟩
    obtain ⟨ho, hp, hb⟩ := box_two hb1
    clear hb1
    obtain ⟨c0, c1⟩ := ho.two
    obtain ⟨d0, d1, d2, d3⟩ := hp.four
    go_wp2_with fail
    clear c0 c1 d0 d1 d2 d3
    by_cases hg : goodP N (a, b, c, d)
    · refine (as_bool (tf_yes ⟨HL.out.1, hg⟩).symm (implPunctOk_any N A ca xs a b c d _ (HA.out _ hb) hu hn)).mono ?_
      rintro e w2 ⟨rfl, hb2⟩
      replace hp := hp.grow hb2
      replace hb := below_trans hb hb2
      clear hb2 ho
      have hN := HL.out.1.len
      have hwf := good_wf (by omega) hg
      have HG := Lib.hid hg
      go_wp2_with fail
      refine (labelsByPlace_any B cb ps _ (HB.out _ hb) hm (fun p hp => good_wf (by omega) (HL.out.2.2.1 p hp)) (ok_one HL.out.2)).mono ?_
      rintro e w3 ⟨g, n, D, rfl, hgw, hnn, hown, htie, hb3⟩
      replace hp := hp.grow hb3
      have hgB : w.heap.size ≤ g := Nat.le_trans hb.size hgw
      have hbw := below_trans hb hb3
      have hb := hbw
      have hps := HL.out.2.1
      have HT := Lib.hid (htie.put hown.isMap hwf.1)
      have HK := Lib.hid (keyOf_place hwf.1)
      have HV := Lib.hid (plainElem_int (H := Unit) Try.underlying3 hwf.2)
      have HN := Lib.hid hown
      clear hown htie hb3 hgw hbw hwf hN hg
      have p0 : ∀ u : Bel w3, u.w.cell? ⟨w.heap.size + 1, 0, none⟩ = some (.int .i64 a) := fun u => (hp.grow u.ok).cell 0
      have p1 : ∀ u : Bel w3, u.w.cell? ⟨w.heap.size + 1, 1, none⟩ = some (.int .i64 b) := fun u => (hp.grow u.ok).cell 1
      have p2 : ∀ u : Bel w3, u.w.cell? ⟨w.heap.size + 1, 2, none⟩ = some (.int .i64 c) := fun u => (hp.grow u.ok).cell 2
      have p3 : ∀ u : Bel w3, u.w.cell? ⟨w.heap.size + 1, 3, none⟩ = some (.int .i64 d) := fun u => (hp.grow u.ok).cell 3
      go_wp2
      refine wp_region_belt 5 (by kernel_rfl) (by kernel_rfl) ?_
      simp only [List.take_succ_cons, List.take_zero, List.drop_succ_cons, List.drop_zero]
      repeat (go_big_quiet_step ((go_at_call 46; exact bel_of _ (placeOf_any a b c d _))))
      refine wpQuiet_nil ?_
      rintro _ ⟨u, rfl⟩
      clear p0 p1 p2 p3
      have hown := HN.out.kept (grownBy_of u.ok none) (by simp)
      have hb4 := below_trans hb u.ok
      have hwl := without_length ps (a, b, c, d)
      go_wp2_with (first
        | (at_mapUpdate; refine wpList_mapUpdate_own _ rfl _ _ _ 67 rfl 70 3 placeLaw Try.underlying67 _ g n _ rfl hown (by unfold maxLen; omega) _ _ _ rfl rfl HK.out _ [] HV.out ?_; intro w5 hown5 hgrow5)
        | (at_len; refine wpList_len_own _ rfl _ 67 rfl 70 3 Try.underlying67 _ g (n + 1) _ rfl hown5 ?_)
        | (go_at_call 47; refine (sortedPolicy_any g (n + 1) _ _ _ hown5 HT.out (by omega)).mono ?_; rintro e w6 ⟨v, rs, rfl, hs, hmem, hrow, hb6⟩))
      · rename_i hc
        have hb5 := hb4.grown hgrow5 hb4.size (fun j hj => by cases hj; exact hgB)
        have hsz := ownsP_size hown5 HT.out
        rw [List.length_append, List.length_singleton] at hsz
        have HS := Lib.hid (show ¬ setOk N xs ps (a, b, c, d) from fun h => by
          have h12 := h.2.2
          have hc' : (12 : Int) < ((Maps.size (D.put (kp (plc (a, b, c, d))) (.lit (.int .i64 (a, b, c, d).2.2.2))) : Nat) : Int) := hc
          rw [hsz] at hc'
          omega)
        go_ret2
        exact res_no (setV_no HS.out) (tf_no HS.out).symm hb5
      · rename_i hc
        have hb5 := hb4.grown hgrow5 hb4.size (fun j hj => by cases hj; exact hgB)
        have hsz := ownsP_size hown5 HT.out
        rw [List.length_append, List.length_singleton] at hsz
        have HS := Lib.hid (show setOk N xs ps (a, b, c, d) from ⟨HL.out, HG.out, by
          have hc' : ((Maps.size (D.put (kp (plc (a, b, c, d))) (.lit (.int .i64 (a, b, c, d).2.2.2))) : Nat) : Int) ≤ 12 := hc
          rw [hsz] at hc'
          omega⟩)
        go_ret2
        have hrs : rs = setP ps (a, b, c, d) := sorted_ext hs (set_sorted _ HL.out.2.2.2) fun q => by
          rw [hmem, mem_set, List.mem_append, mem_without, List.mem_singleton, or_comm]
        refine ⟨v, by rw [← tf_yes HS.out]; rfl, ?_, below_trans hb5 hb6⟩
        rw [setV_yes HS.out, ← hrs]
        exact owns_base hrow hb5.size
    · refine (as_bool (tf_no (fun h => hg h.2)).symm (implPunctOk_any N A ca xs a b c d _ (HA.out _ hb) hu hn)).mono ?_
      rintro e w2 ⟨rfl, hb2⟩
      have HS := Lib.hid (show ¬ setOk N xs ps (a, b, c, d) from fun h => hg h.2.1)
      clear hg
      go_wp2
      go_ret2
      exact res_no (setV_no HS.out) (tf_no HS.out).symm (below_trans hb hb2)
  · refine (as_bool (tf_no hL).symm (implPolicyOk_any N A ca xs B cb ps _ (HA.out _ (below_trans (below_alloc _ _) (below_alloc _ _))) hu hn (HB.out _ (below_trans (below_alloc _ _) (below_alloc _ _))) hm)).mono ?_
    have HS := Lib.hid (show ¬ setOk N xs ps (a, b, c, d) from fun h => hL h.1)
    clear hL
    rintro e w1 ⟨rfl, hb1⟩
    go_wp2
    go_ret2
    exact res_no (setV_no HS.out) (tf_no HS.out).symm (box_two hb1).2.2

set_option maxRecDepth 100000 in
set_option maxHeartbeats 2000000 in
theorem implPolicyDrop_any (N : Int) (A : Option Addr) (ca : Nat) (xs : List Nat) (B : Option Addr) (cb : Nat) (ps : List Pn) (a b c d : Int) (w : World) (hA : Rd w A (us xs)) (hu : U64 xs) (hn : xs.length ≤ 1048576) (hB : Rd w B (iz (qz ps))) (hm : ps.length ≤ 1048588) (hw : wfPl (a, b, c)) :
    Calls Try.prog 19 #[.agg #[.int .i64 N, .slice A xs.length ca], .slice B ps.length cb, pv a b c d] w (PolRes w (dropV N xs ps (a, b, c, d)) (tf (dropOk N xs ps (a, b, c, d)))) := by
  have HA := Lib.hid (fun W (h : Below w.heap.size w W) => hA.below h)
  have HB := Lib.hid (fun W (h : Below w.heap.size w W) => hB.below h)
  have HW := Lib.hid hw
  clear hA hB hw
  go_enter Try.func19, Try.ntmps19
  go_wp2_with fail
  by_cases hL : okL N xs ps
  · refine (as_bool (tf_yes hL).symm (implPolicyOk_any N A ca xs B cb ps _ (HA.out _ (below_trans (below_alloc _ _) (below_alloc _ _))) hu hn (HB.out _ (below_trans (below_alloc _ _) (below_alloc _ _))) hm)).mono ?_
    have HL := Lib.hid hL
    clear hL
    rintro e w1 ⟨rfl, hb1⟩
    obtain ⟨ho, hp, hb⟩ := box_two hb1
    clear hb1 ho
    have hN := HL.out.1.len
    have hps := HL.out.2.1
    go_wp2_with fail
    refine (labelsByPlace_any B cb ps _ (HB.out _ hb) hm (fun p hp => good_wf (by omega) (HL.out.2.2.1 p hp)) (ok_one HL.out.2)).mono ?_
    rintro e w3 ⟨g, n, D, rfl, hgw, hnn, hown, htie, hb3⟩
    replace hp := hp.grow hb3
    have hgB : w.heap.size ≤ g := Nat.le_trans hb.size hgw
    replace hb := below_trans hb hb3
    have HT := Lib.hid htie
    have HK := Lib.hid (keyOf_place HW.out)
    clear htie hb3 hgw hN
    obtain ⟨d0, d1, d2, d3⟩ := hp.four
    go_wp2_with fail
    clear d0 d1 d2 d3
    refine (placeOf_any a b c d _).mono ?_
    rintro e w4 ⟨rfl, hb4⟩
    replace hp := hp.grow hb4
    replace hown := hown.kept (grownBy_of hb4 none) (by simp)
    replace hb := below_trans hb hb4
    clear hb4
    rcases HT.out.look HW.out with ⟨hh, q, hq, hqe, hv⟩ | ⟨hh, hne⟩
    · have HS := Lib.hid (show dropOk N xs ps (a, b, c, d) from ⟨HL.out, fun h => by
        simp only [plc, Prod.mk.injEq] at hqe
        exact without_same_length.1 h q hq ⟨hqe.1, hqe.2.1, hqe.2.2⟩⟩)
      clear hv hq hqe
      obtain ⟨d0, d1, d2, d3⟩ := hp.four
      go_wp2_with (first | (at_lookup; refine wpList_lookup_own_ok_int _ rfl _ _ 67 rfl 70 3 .i64 placeLaw Try.underlying67 Try.underlying3 (zero_intD _) g n D rfl hown _ _ rfl HK.out ?_; intro l hat hwl) | fail)
      clear d0 d1 d2 d3
      refine (placeOf_any a b c d _).mono ?_
      rintro e w5 ⟨rfl, hb5⟩
      replace hown := hown.kept (grownBy_of hb5 none) (by simp)
      replace hb := below_trans hb hb5
      clear hb5 hat hwl
      have HD := Lib.hid (HT.out.del (p := (a, b, c, d)) HW.out)
      go_wp2_with (first
        | (at_delete; refine wpList_delete_own _ rfl _ _ 67 70 rfl 3 placeLaw Try.underlying67 _ g n D rfl hown _ _ rfl HK.out ?_; intro w6 hown6 hturn6)
        | (go_at_call 47; refine (sortedPolicy_any g n _ _ _ hown6 HD.out (by omega)).mono ?_; rintro e w7 ⟨v, rs, rfl, hs, hmem, hrow, hb7⟩))
      go_ret2
      have hb6 := hb.grown hturn6.grown hb.size (fun j hj => by cases hj; exact hgB)
      have hrs : rs = without ps (a, b, c, d) := sorted_ext hs (without_sorted _ HL.out.2.2.2) hmem
      refine ⟨v, by rw [← tf_yes HS.out]; rfl, ?_, below_trans hb6 hb7⟩
      rw [dropV_yes HS.out, ← hrs]
      exact owns_base hrow hb6.size
    · have HS := Lib.hid (show ¬ dropOk N xs ps (a, b, c, d) from fun h => h.2 (without_same_length.2 fun q hq hs => hne q hq (by unfold plc; rw [hs.1, hs.2.1, hs.2.2])))
      clear hne
      go_wp2_with (at_lookup; refine wpList_lookup_own_ok_int _ rfl _ _ 67 rfl 70 3 .i64 placeLaw Try.underlying67 Try.underlying3 (zero_intD _) g n D rfl hown _ _ rfl HK.out ?_; intro l hat hwl)
      go_ret2
      exact res_no (dropV_no HS.out) (tf_no HS.out).symm hb
  · refine (as_bool (tf_no hL).symm (implPolicyOk_any N A ca xs B cb ps _ (HA.out _ (below_trans (below_alloc _ _) (below_alloc _ _))) hu hn (HB.out _ (below_trans (below_alloc _ _) (below_alloc _ _))) hm)).mono ?_
    have HS := Lib.hid (show ¬ dropOk N xs ps (a, b, c, d) from fun h => hL h.1)
    clear hL
    rintro e w1 ⟨rfl, hb1⟩
    go_wp2
    go_ret2
    exact res_no (dropV_no HS.out) (tf_no HS.out).symm (box_two hb1).2.2
end Go.Proofs.Ytipcjofmplpffaa

/-
  PolicySet and PolicyDrop, the model's: what they return.
-/
namespace Go.Proofs.Ytipcjofmplpffaa
open Go.RowKit

set_option maxRecDepth 100000 in
set_option maxHeartbeats 2000000 in
theorem specPolicyDrop_any (N : Int) (A : Option Addr) (ca : Nat) (xs : List Nat) (B : Option Addr) (cb : Nat) (ps : List Pn) (a b c d : Int) (w : World) (hA : Rd w A (us xs)) (hu : U64 xs) (hn : xs.length ≤ 1048576) (hB : Rd w B (iz (qz ps))) (hm : ps.length ≤ 1048588) :
    Calls Try.prog 38 #[.agg #[.int .i64 N, .slice A xs.length ca], .slice B ps.length cb, pv a b c d] w (PolRes w (dropV N xs ps (a, b, c, d)) (tf (dropOk N xs ps (a, b, c, d)))) := by
  have HA := Lib.hid (fun W (h : Below w.heap.size w W) => hA.below h)
  have HB := Lib.hid (fun W (h : Below w.heap.size w W) => hB.below h)
  clear hA hB
  go_enter Try.func38, Try.ntmps38
  go_wp2_with fail
  refine (l04Without_any B cb ps a b c d _ (HB.out _ (below_trans (below_alloc _ _) (below_alloc _ _))) hm).mono ?_
  rintro e w1 ⟨v, rfl, hnn, hrow, hb1⟩
  obtain ⟨ho, hp, hb⟩ := box_two hb1
  replace hrow := owns_base hrow (base' := w.heap.size) (by simp; omega)
  clear hb1 hp
  obtain ⟨A1, c1, rfl, hrd⟩ := owns_rd hrow
  obtain ⟨k0, k1⟩ := ho.two
  go_wp2_with fail
  clear k0 k1 ho hrd
  by_cases hL : okL N xs ps
  · refine (as_bool (tf_yes hL).symm (specPolicyOk_any N A ca xs B cb ps _ (HA.out _ hb) hu hn (HB.out _ hb) hm)).mono ?_
    rintro e w2 ⟨rfl, hb2⟩
    replace hrow := owns_grow hrow hb2
    replace hb := below_trans hb hb2
    clear hb2
    by_cases hl : (without ps (a, b, c, d)).length = ps.length
    · have HS := Lib.hid (show ¬ dropOk N xs ps (a, b, c, d) from fun h => h.2 hl)
      have t : (((without ps (a, b, c, d)).length : Int) == (ps.length : Int)) = true := by rw [beq_iff_eq]; omega
      clear hL hl
      generalize (without ps (a, b, c, d)).length = m at *
      go_wp2
      go_ret2
      exact res_no (dropV_no HS.out) (tf_no HS.out).symm hb
    · have HS := Lib.hid (show dropOk N xs ps (a, b, c, d) from ⟨hL, hl⟩)
      have t : (((without ps (a, b, c, d)).length : Int) == (ps.length : Int)) = false := by rw [beq_eq_false_iff_ne]; omega
      clear hL hl
      have HR := Lib.hid hrow
      clear hrow
      generalize hmm : (without ps (a, b, c, d)).length = m at *
      go_wp2
      go_ret2
      refine ⟨_, by rw [← tf_yes HS.out]; rfl, ?_, hb⟩
      rw [dropV_yes HS.out, hmm]
      exact HR.out
  · refine (as_bool (tf_no hL).symm (specPolicyOk_any N A ca xs B cb ps _ (HA.out _ hb) hu hn (HB.out _ hb) hm)).mono ?_
    have HS := Lib.hid (show ¬ dropOk N xs ps (a, b, c, d) from fun h => hL h.1)
    clear hL
    rintro e w2 ⟨rfl, hb2⟩
    go_wp2
    go_ret2
    exact res_no (dropV_no HS.out) (tf_no HS.out).symm (below_trans hb hb2)
end Go.Proofs.Ytipcjofmplpffaa

/-
  append onto a row of the call's own, as a step of a region that draws its order.
-/
namespace Go.Proofs.Ytipcjofmplpffaa
open Go.RowKit

theorem plain_add' (g off k : Nat) : (⟨g, off, none⟩ : Addr).add k = ⟨g, off + k, none⟩ := by
  unfold Addr.add
  split
  · simp_all
  · simp
theorem step_append_own {P : Program} {w : World} {ops : Array Oper} {o : Oper} {a : Act} {K : Act → World → Prop} {Q : Exit → Act → World → Prop} {E : Prop} (hgd : o.guard = none) (s x : Operand) (t : TypeId)
    (ho : o.op = .call { callee := .builtin .append, args := #[s, x], argTypes := #[t, t] })
    (base : Nat) (e : TypeId) (i : TypeInfo) (z : Value) (size bytes : Nat) (ht : P.underlying t = some (.slice e)) (hi : P.info? e = some i) (hz : i.zero = some z)
    (hsize : i.size = size) (hby : i.bytes = bytes) (hzs : z.cells.size = size) (hsz : 0 < size)
    (v : Value) (n : Nat) (xs : List Value) (hs : a.eval s = v) (hown : w.ownsRow base e size v n xs)
    (ad : Addr) (m c : Nat) (news : List Value) (hx : a.eval x = .slice (some ad) m c) (hl : news.length = m * size) (hnews : ∀ j u, news[j]? = some u → w.cell? (ad.add j) = some u) (h1 : ∀ u ∈ news, u.oneCell' = true)
    (h63 : n + m ≤ maxLen) (hbytes : (n + m) * bytes ≤ 140737488355328) (hbase : base ≤ w.heap.size)
    (h : ∀ v' w', w'.ownsRow base e size v' (n + m) (xs ++ news) → w.grownBy w' v.ownBlock → (v' = .slice none 0 0 ↔ v = .slice none 0 0 ∧ m = 0) → K (a.put o.dst v') w') :
    if Region.wanted o (yielded ops a.tmps) = true then Oper.wp P o a w K Q else E := by
  have hw : Region.wanted o (yielded ops a.tmps) = true := by simp [Region.wanted, hgd]
  rw [if_pos hw]
  obtain ⟨v', w', hr, h2, h3, h4⟩ := run_append_own (P := P) w base t o.type e i z size bytes ht hi hz hsize hby hzs hsz v n xs hown ad m c news hl hnews h1 h63 hbytes hbase
  unfold Oper.wp execOp
  simp only [ho, resolve, invoke, builtin, Sem.run_bind, Sem.run_pure, Result.andThen_ok, List.map_toArray, List.map_cons, List.map_nil, hs, hx, hr]
  exact h v' w' h2 h3 h4

/-- what was there when the region began stands -/
theorem app_below {v0 w w' : World} {e : TypeId} {size n : Nat} {v : Value} {xs : List Value} (hb : Below v0.heap.size v0 w) (hown : w.ownsRow v0.heap.size e size v n xs) (hg : w.grownBy w' v.ownBlock) : Below v0.heap.size v0 w' :=
  hb.grown hg hb.size (fun j hj => (hown.lt j hj).1)

theorem new_second (v0 : World) (o : Obj) (e : TypeId) (cs : List Value) : Own ((v0.alloc o).alloc (.cells cs.toArray e)) (v0.heap.size + 1) e cs := by
  have h := Own.new (v0.alloc o) e cs
  rwa [show (v0.alloc o).heap.size = v0.heap.size + 1 by simp] at h
/-- an empty row that was made -/
theorem owns_empty {w : World} {base g size : Nat} {e : TypeId} (h : Own w g e []) (hb : base ≤ g) : w.ownsRow base e size (.slice (some ⟨g, 0, none⟩) 0 0) 0 [] :=
  ⟨by simp, .inr ⟨g, 0, #[], rfl, hb, h, Nat.le_refl _, Nat.zero_le _, by simp, by simp⟩⟩
/-- the cells of a block that is known whole, in a world in which only another block has turned -/
theorem news_kept {w w' : World} {g : Nat} {e : TypeId} {cs : List Value} {row : Option Nat} (h : Own w g e cs) (hg : w.grownBy w' row) (hne : some g ≠ row) : ∀ j u, cs[j]? = some u → w'.cell? ((⟨g, 0, none⟩ : Addr).add j) = some u := by
  intro j u hj
  have ho : Own w' g e cs := (hg.block g h.lt hne).trans h
  rw [add_plain, ho.cell]
  exact hj
theorem news_own {w : World} {g : Nat} {e : TypeId} {cs : List Value} (h : Own w g e cs) : ∀ j u, cs[j]? = some u → w.cell? ((⟨g, 0, none⟩ : Addr).add j) = some u := by
  intro j u hj
  rw [add_plain, h.cell]
  exact hj
theorem iz_one (zs : List Int) : ∀ u ∈ iz zs, u.oneCell' = true := by
  intro u hu
  simp only [iz, List.mem_map] at hu
  obtain ⟨z, _, rfl⟩ := hu
  rfl
/-- the first and the last elements of a row of structs of M integers -/
theorem rd_head {w : World} {A : Addr} {zs : List Int} (h : Rd w (some A) (iz zs)) (k : Nat) : ∀ j u, (iz (zs.take k))[j]? = some u → w.cell? (A.add j) = some u := by
  intro j u hj
  have hjl : j < (iz (zs.take k)).length := (List.getElem?_eq_some_iff.1 hj).1
  have : (iz zs)[j]? = some u := by
    simp only [iz, List.length_map, List.length_take] at hjl
    rw [← hj]
    simp only [iz, List.getElem?_map]
    rw [List.getElem?_take_of_lt (by omega)]
  obtain ⟨ad, e, _, hc⟩ := h j u this
  cases e
  exact hc
theorem rd_tail {w : World} {g off : Nat} {zs : List Int} (h : Rd w (some ⟨g, off, none⟩) (iz zs)) (k : Nat) : ∀ j u, (iz (zs.drop k))[j]? = some u → w.cell? ((⟨g, off + k, none⟩ : Addr).add j) = some u := by
  intro j u hj
  have : (iz zs)[k + j]? = some u := by
    rw [← hj]
    simp only [iz, List.getElem?_map, List.getElem?_drop]
  obtain ⟨ad, e, _, hc⟩ := h (k + j) u this
  cases e
  rw [plain_add'] at hc ⊢
  rw [Nat.add_assoc]
  exact hc
end Go.Proofs.Ytipcjofmplpffaa
