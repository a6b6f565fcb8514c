/-
  What the laws' own helpers on tokens return: equality, copies.
-/
import Derived.Test.YtlmlckgnmkjkdaaPairs
namespace Go.Proofs.Ytlmlckgnmkjkdaa
open Go.RowKit

set_option maxHeartbeats 400000 in
theorem eqTok_any (a b c d : Int) (w : World) :
    Calls Try.prog 100 #[.agg #[.int .i64 a, .int .i64 b], .agg #[.int .i64 c, .int .i64 d]] w fun e w' => e = .returned (.bool (decide (a = c) && decide (b = d))) ∧ Below w.heap.size w w' := by
  by_cases h1 : a = c
  · have t1 : (a != c) = false := by simp [h1]
    by_cases h2 : b = d
    · have t2 : (b != d) = false := by simp [h2]
      have H1 := Lib.hid h1
      have H2 := Lib.hid h2
      clear h1 h2
      go_enter Try.func100, Try.ntmps100
      go_wp2
      go_ret
      exact ⟨ret_bool (by simp [H1.out, H2.out]), below_trans (below_alloc _ _) (below_alloc _ _)⟩
    · have t2 : (b != d) = true := by rw [bne_iff_ne]; exact h2
      have H1 := Lib.hid h1
      clear h1
      go_enter Try.func100, Try.ntmps100
      go_wp2
      go_ret
      exact ⟨ret_bool (by simp [h2]), below_trans (below_alloc _ _) (below_alloc _ _)⟩
  · have t1 : (a != c) = true := by rw [bne_iff_ne]; exact h1
    go_enter Try.func100, Try.ntmps100
    go_wp2
    go_ret
    exact ⟨ret_bool (by simp [h1]), below_trans (below_alloc _ _) (below_alloc _ _)⟩

set_option maxHeartbeats 400000 in
/-- rows of edges that hold the same -/
theorem eqTokS_same (A B : Option Addr) (n ca cb : Nat) (es : List (Int × Int)) (w : World) (hA : Rd w A (ez es)) (hB : Rd w B (ez es)) (hl : es.length = n) (hn : n ≤ 1048576) :
    Calls Try.prog 63 #[.slice A n ca, .slice B n cb] w fun e w' => e = .returned (.bool true) ∧ Below w.heap.size w w' := by
  subst hl
  have hne : ((es.length : Int) != (es.length : Int)) = false := by simp
  go_enter Try.func63, Try.ntmps63
  go_wp2
  go_loopw [5] (fun i wr => ∃ k : Nat, k ≤ es.length ∧ i = .int .i64 k ∧ Below w.heap.size w wr) (fun i _ => es.length - (intOf i).toNat)
  case atStart => exact ⟨0, Nat.zero_le _, rfl, Below.refl _ _⟩
  case round =>
    obtain ⟨k, hk, rfl, hbel⟩ := hrel
    by_cases hlt : k < es.length
    · obtain ⟨ab, ao, rfl, h1⟩ := hA.edge hlt
      obtain ⟨bb, bo, rfl, h2⟩ := hB.edge hlt
      have a1 : ∀ u : Bel wr, u.w.cell? ⟨ab, ao + k * 2, none⟩ = some (.int .i64 (elo es k)) := fun u => (h1 _ (below_trans hbel u.ok)).1
      have a2 : ∀ u : Bel wr, u.w.cell? ⟨ab, ao + k * 2 + 1, none⟩ = some (.int .i64 (ehi es k)) := fun u => (h1 _ (below_trans hbel u.ok)).2
      have b1 : ∀ u : Bel wr, u.w.cell? ⟨bb, bo + k * 2, none⟩ = some (.int .i64 (elo es k)) := fun u => (h2 _ (below_trans hbel u.ok)).1
      have b2 : ∀ u : Bel wr, u.w.cell? ⟨bb, bo + k * 2 + 1, none⟩ = some (.int .i64 (ehi es k)) := fun u => (h2 _ (below_trans hbel u.ok)).2
      clear h1 h2
      go_wp2
      refine wp_region_bel (by kernel_rfl) (by kernel_rfl) ?_
      repeat (go_big_quiet_step ((go_at_call 100; exact bel_of _ (as_bool (show (decide (elo es k = elo es k) && decide (ehi es k = ehi es k)) = true by simp) (eqTok_any (elo es k) (ehi es k) (elo es k) (ehi es k) _)))))
      refine wpQuiet_nil ?_
      rintro _ ⟨u, rfl⟩
      go_wp2
      go_roundw
      case rel => exact ⟨k + 1, by omega, by go_num, below_trans hbel u.ok⟩
      case measure => simp [intOf]; omega
    · go_wp2
      go_ret
      exact ⟨rfl, hbel⟩
theorem info_tok : (Try.prog.info? 125).map (fun i => (i.zero, i.size, i.bytes)) = some (some (.agg #[.int .i64 0, .int .i64 0]), 2, 16) := by kernel_rfl
theorem made_zeros_tok (n : Nat) : madeCells (Value.agg #[.int .i64 0, .int .i64 0]).cells (n * 2) = (iz (List.replicate (n * 2) 0)).toArray := by
  apply Array.ext
  · simp [madeCells, iz]
  · intro i h1 h2
    have h : i % 2 = 0 ∨ i % 2 = 1 := by omega
    simp [madeCells, iz, Value.cells]
    rcases h with h | h <;> simp [h]
theorem make_tok (n : Nat) (hn : n ≤ 1048576) (W : World) : (Instr.makeSlice 39 (.int .i64 (n : Int)) (.int .i64 (n : Int))).run Try.prog W = .ok (.slice (some ⟨W.heap.size, 0, none⟩) n n) (W.alloc (.cells (iz (List.replicate (n * 2) 0)).toArray 125)) := by
  obtain ⟨i0, hi, hz0, hz1, hz2⟩ := info_parts info_tok
  have h := run_make (P := Try.prog) W 39 125 i0 (.agg #[.int .i64 0, .int .i64 0]) Try.underlying39 hi hz0 .i64 .i64 n n (by omega) (by omega) (by rw [hz2]; omega) (by omega)
  rw [hz1, Int.toNat_natCast, made_zeros_tok] at h
  exact h

set_option maxHeartbeats 400000 in
theorem toTok_any (a b : Int) (w : World) :
    Calls Try.prog 97 #[.agg #[.int .i64 a, .int .i64 b]] w fun e w' => e = .returned (.agg #[.int .i64 a, .int .i64 b]) ∧ Below w.heap.size w w' := by
  go_enter Try.func97, Try.ntmps97
  go_wp2
  refine bodyPost_ret (v := .agg #[.int .i64 a, .int .i64 b]) (by simp [results, Try.results97, go_sem]) rfl ⟨rfl, ?_⟩
  exact below_trans (below_trans (below_alloc _ _) (below_alloc _ _)) (below_alloc _ _)

def copyE (zs : List Int) (k : Nat) : List Int := zs.take k ++ List.replicate (zs.length - k) 0
theorem copyE_is (zs : List Int) (k : Nat) : copyE zs k = copyToI zs k := rfl

set_option maxHeartbeats 400000 in
theorem toTokS_any (A : Option Addr) (ca : Nat) (es : List (Int × Int)) (w : World) (hA : Rd w A (ez es)) (hn : es.length ≤ 1048576) :
    Calls Try.prog 58 #[.slice A es.length ca] w fun e w' => ∃ g, e = .returned (.slice (some ⟨g, 0, none⟩) es.length es.length) ∧ w.heap.size ≤ g ∧ Own w' g 125 (ez es) ∧ Below w.heap.size w w' := by
  have hmk := make_tok es.length hn
  rw [ez_flat] at hA ⊢
  have hz := flat_length es
  generalize flat es = zs at *
  generalize es.length = n at *
  have HZ := Lib.hid hz
  clear hz
  go_enter Try.func58, Try.ntmps58
  go_wp2
  clear hmk
  go_loopw [4] (fun i wr => ∃ k : Nat, k ≤ n ∧ i = .int .i64 k ∧ Own wr w.heap.size 125 (iz (copyToI zs (k * 2))) ∧ w.heap.size < wr.heap.size ∧ Below w.heap.size w wr) (fun i _ => n - (intOf i).toNat)
  case atStart => exact ⟨0, Nat.zero_le _, rfl, by rw [Nat.zero_mul, copyToI_zero, HZ.out]; exact Own.new _ _ _, by simp, below_alloc _ _⟩
  case round =>
    obtain ⟨k, hk, rfl, hown, hsz, hbel⟩ := hrel
    by_cases hlt : k < n
    · obtain ⟨b, off, rfl, hb, c0, c1⟩ := hA.pair HZ.out hlt
      have d0 : wr.cell? ⟨b, off + k * 2, none⟩ = some (.int .i64 (iat zs (k * 2))) := (hbel.cell (p := ⟨b, off + k * 2, none⟩) hb).trans c0
      have d1 : wr.cell? ⟨b, off + k * 2 + 1, none⟩ = some (.int .i64 (iat zs (k * 2 + 1))) := (hbel.cell (p := ⟨b, off + k * 2 + 1, none⟩) hb).trans c1
      clear c0 c1
      have hl0 : k * 2 < zs.length := by rw [HZ.out]; omega
      have hl1 : k * 2 + 1 < zs.length := by rw [HZ.out]; omega
      go_wp2_with fail
      refine (toTok_any (iat zs (k * 2)) (iat zs (k * 2 + 1)) _).mono ?_
      rintro e w1 ⟨rfl, hb1⟩
      have ho1 := hown.grow hb1
      have hbel1 := below_trans hbel hb1
      have hsz1 : w.heap.size < w1.heap.size := by have := hb1.size; omega
      clear hown hbel hb1 hsz d0 d1
      have f0 := ho1.free (k * 2)
      have f1 := ho1.free (k * 2 + 1)
      have e0 : w1.cell? ⟨w.heap.size, k * 2, none⟩ = some (.int .i64 (iat (copyToI zs (k * 2)) (k * 2))) := by
        rw [ho1.cell, iz_iat (by rw [copyToI_length (by omega)]; exact hl0)]
      have e1 : w1.cell? ⟨w.heap.size, k * 2 + 1, none⟩ = some (.int .i64 (iat (copyToI zs (k * 2)) (k * 2 + 1))) := by
        rw [ho1.cell, iz_iat (by rw [copyToI_length (by omega)]; exact hl1)]
      have s2 := (ho1.set (k * 2) (.int .i64 (iat zs (k * 2)))).set (k * 2 + 1) (.int .i64 (iat zs (k * 2 + 1)))
      rw [iz_set, copyToI_set hl0, iz_set, copyToI_set hl1, show k * 2 + 1 + 1 = (k + 1) * 2 by omega] at s2
      have HS := Lib.hid s2
      clear s2
      go_wp2
      go_roundw
      case rel => exact ⟨k + 1, by omega, by go_num, HS.out, by simpa using hsz1, (hbel1.setCell (Nat.le_refl _) _).setCell (Nat.le_refl _) _⟩
      case measure => simp [intOf]; omega
    · go_wp2
      go_ret
      refine ⟨w.heap.size, rfl, Nat.le_refl _, ?_, hbel⟩
      have hkn : k * 2 = zs.length := by rw [HZ.out]; omega
      rw [← copyToI_all zs, ← hkn]
      rw [show copyToI zs (k * 2) = copyToI (copyToI zs zs.length) (k * 2) by rw [copyToI_all]] at hown
      rw [copyToI_all] at hown
      exact hown


/-- what is left of a measure: -1 where nothing is -/
def lessT (left : Int) (n : Nat) : Int := if left - (n : Int) < 0 then -1 else left - (n : Int)
set_option maxHeartbeats 400000 in
theorem szTokS_any (A : Option Addr) (n ca : Nat) (left : Int) (w : World) (h0 : 0 ≤ left) (h1 : left ≤ 1048576) (hn : n ≤ 9223372036854775807) :
    Calls Try.prog 54 #[.slice A n ca, .int .i64 left] w fun e w' => e = .returned (.int .i64 (lessT left n)) ∧ w = w' := by
  by_cases h : left - (n : Int) < 0
  · go_enter Try.func54, Try.ntmps54
    go_wp2
    go_ret
    exact ⟨ret_int (by simp [lessT, h]), rfl⟩
  · go_enter Try.func54, Try.ntmps54
    go_wp2
    go_ret
    exact ⟨ret_int (by simp [lessT]; omega), rfl⟩
end Go.Proofs.Ytlmlckgnmkjkdaa
