/-
  Edges: marks, copies.
-/
import Derived.Test.YtandibofnpndlaaEdgeKit
namespace Go.Proofs.Ytandibofnpndlaa
open Go.RowKit

def flat (es : List (Int × Int)) : List Int := es.flatMap fun e => [e.1, e.2]
theorem ez_flat (es : List (Int × Int)) : ez es = iz (flat es) := by
  induction es with
  | nil => rfl
  | cons e es ih => rw [ez_cons, ih]; simp [flat, iz]
theorem flat_length (es : List (Int × Int)) : (flat es).length = es.length * 2 := by
  rw [← iz_length, ← ez_flat, ez_length]

set_option maxHeartbeats 1000000 in
theorem markEdgeS_any (v : Value) (base n : Nat) (zs : List Int) (k : Int) (w : World) (hown : w.ownsRow base 70 2 v n (iz zs)) (hz : zs.length = n * 2) (h0 : 0 ≤ k) (h1 : k ≤ 4611686018427387904) (hn : n ≤ 1048576) :
    Calls Try.prog 40 #[v, .int .i64 k] w fun e w' => e = .returned (.int .i64 (k + (n * 2 : Nat))) ∧ w'.ownsRow base 70 2 v n (iz (marks k (n * 2))) ∧ w.grownBy w' v.ownBlock := by
  obtain ⟨A, c, rfl, _⟩ := owns_rd hown
  have HZ := Lib.hid hz
  clear hz
  go_enter Try.func40, Try.ntmps40
  go_wp2
  go_loopw [1, 5] (fun q i wr => ∃ j : Nat, j ≤ n ∧ i = .int .i64 j ∧ q = .int .i64 (k + j * 2) ∧ wr.ownsRow base 70 2 (.slice A n c) n (iz (markTo zs k (j * 2))) ∧ w.grownBy wr (Value.slice A n c).ownBlock) (fun _ i _ => n - (intOf i).toNat)
  case atStart => exact ⟨0, Nat.zero_le _, rfl, by simp, by rw [Nat.zero_mul, markTo_zero]; exact hown, World.grownBy.refl _ _⟩
  case round =>
    obtain ⟨j, hj, rfl, rfl, ho, hg⟩ := hrel
    by_cases hlt : j < n
    · obtain ⟨g, rfl⟩ : ∃ g, A = some ⟨g, 0, none⟩ := by
        rcases ho.2 with ⟨h, h'⟩ | ⟨g, cap, cur, h, _⟩
        · omega
        · injection h with h; exact ⟨g, h⟩
      have hl0 : j * 2 < zs.length := by rw [HZ.out]; omega
      have hl1 : j * 2 + 1 < zs.length := by rw [HZ.out]; omega
      have c0 : wr.cell? ⟨g, j * 2, none⟩ = some (.int .i64 (iat (markTo zs k (j * 2)) (j * 2))) := by
        rw [ho.cellAt (j * 2) (by omega), iz_iat (by rw [markTo_length (by omega)]; exact hl0)]
      have c1 : wr.cell? ⟨g, j * 2 + 1, none⟩ = some (.int .i64 (iat (markTo zs k (j * 2)) (j * 2 + 1))) := by
        rw [ho.cellAt (j * 2 + 1) (by omega), iz_iat (by rw [markTo_length (by omega)]; exact hl1)]
      have f0 := ho.frozenAt (j * 2)
      have f1 := ho.frozenAt (j * 2 + 1)
      have s1 := ho.stored (j * 2) (.int .i64 (k + j * 2))
      have s2 := s1.1.stored (j * 2 + 1) (.int .i64 (k + j * 2 + 1))
      have e1 : (iz (markTo zs k (j * 2))).set (j * 2) (.int .i64 (k + j * 2)) = iz (markTo zs k (j * 2 + 1)) := by
        rw [show (k + j * 2 : Int) = k + (j * 2 : Nat) by omega, iz_set, markTo_set hl0]
      have e2 : (iz (markTo zs k (j * 2 + 1))).set (j * 2 + 1) (.int .i64 (k + j * 2 + 1)) = iz (markTo zs k ((j + 1) * 2)) := by
        rw [show (k + j * 2 + 1 : Int) = k + (j * 2 + 1 : Nat) by omega, iz_set, markTo_set hl1, show (j + 1) * 2 = j * 2 + 1 + 1 by omega]
      rw [e1, e2] at s2
      have HO := Lib.hid s2.1
      have HG := Lib.hid (grownBy_trans hg (grownBy_trans s1.2 s2.2))
      clear s1 s2 e1 e2
      go_wp2
      go_roundw
      case rel =>
        exact ⟨j + 1, by omega, by go_num, by first | rfl | (congr 1; omega), HO.out, HG.out⟩
      case measure => simp [intOf]; omega
    · go_wp2
      go_ret
      have hjn : j = n := by omega
      subst hjn
      refine ⟨ret_int (by omega), ?_, hg⟩
      have := ho
      rw [← HZ.out, markTo_all, HZ.out] at this
      exact this

theorem Rd.pair {w : World} {A : Option Addr} {zs : List Int} {n : Nat} (h : Rd w A (iz zs)) (hz : zs.length = n * 2) {k : Nat} (hk : k < n) :
    ∃ b off, A = some ⟨b, off, none⟩ ∧ b < w.heap.size ∧ w.cell? ⟨b, off + k * 2, none⟩ = some (.int .i64 (iat zs (k * 2))) ∧ w.cell? ⟨b, off + k * 2 + 1, none⟩ = some (.int .i64 (iat zs (k * 2 + 1))) := by
  obtain ⟨ad, rfl, hb, h1⟩ := h _ _ (iz_iat (k := k * 2) (by omega))
  obtain ⟨ad', e', _, h2⟩ := h _ _ (iz_iat (k := k * 2 + 1) (by omega))
  obtain rfl : ad = ad' := by injection e'
  obtain ⟨ad0, e0, _, h0⟩ := h _ _ (iz_iat (k := 0) (by omega))
  obtain rfl : ad = ad0 := by injection e0
  obtain ⟨b, off, rfl⟩ := plain_of h0
  rw [plain_add] at h1 h2
  rw [← Nat.add_assoc] at h2
  exact ⟨b, off, rfl, hb, h1, h2⟩

set_option maxHeartbeats 400000 in
theorem heldEdgeS_any (A : Option Addr) (c n : Nat) (k : Int) (w : World) (hA : Rd w A (iz (marks k (n * 2)))) (h0 : 0 ≤ k) (h1 : k ≤ 4611686018427387904) (hn : n ≤ 1048576) :
    Calls Try.prog 53 #[.slice A n c, .int .i64 k] w fun e w' => e = .returned (.int .i64 (k + (n * 2 : Nat))) ∧ w = w' := by
  go_enter Try.func53, Try.ntmps53
  go_wp2
  go_loop [1, 5] (fun q i => ∃ j : Nat, j ≤ n ∧ i = .int .i64 j ∧ q = .int .i64 (k + j * 2)) (fun _ i => n - (intOf i).toNat)
  case atStart => exact ⟨0, Nat.zero_le _, rfl, by simp⟩
  case round =>
    obtain ⟨j, hj, rfl, rfl⟩ := hrel
    by_cases hlt : j < n
    · obtain ⟨b, off, rfl, _, c0, c1⟩ := hA.pair (marks_length k (n * 2)) hlt
      rw [show iat (marks k (n * 2)) (j * 2) = k + j * 2 by unfold iat; rw [marks_at (by omega)]; omega] at c0
      rw [show iat (marks k (n * 2)) (j * 2 + 1) = k + j * 2 + 1 by unfold iat; rw [marks_at (by omega)]; omega] at c1
      have n0 : ((k + j * 2 : Int) != k + j * 2) = false := by simp
      have n1 : ((k + j * 2 + 1 : Int) != k + j * 2 + 1) = false := by simp
      go_wp2
      go_round
      case rel => exact ⟨j + 1, by omega, by go_num, by first | rfl | (congr 1; omega)⟩
      case measure => simp [intOf]; omega
    · go_wp2
      go_ret
      exact ⟨ret_int (by omega), rfl⟩

theorem markEdgeS_at (v : Value) (lo hi n : Nat) (es : List (Int × Int)) (k : Int) (w : World) (hr : RowAt lo hi w 70 2 v n (ez es)) (h0 : 0 ≤ k) (h1 : k ≤ 4611686018427387904) (hl : es.length = n) (hn : n ≤ 1048576) :
    Calls Try.prog 40 #[v, .int .i64 k] w fun e w' => e = .returned (.int .i64 (k + (n * 2 : Nat))) ∧ RowAt lo hi w' 70 2 v n (iz (marks k (n * 2))) ∧ Only lo hi w w' := by
  have hr' := hr
  rw [ez_flat] at hr'
  exact (markEdgeS_any v lo n (flat es) k w hr'.1 (by rw [flat_length, hl]) h0 h1 hn).mono fun _ _ ⟨he, ho, hg⟩ => ⟨he, ⟨ho, hr.2⟩, Only.of_row hr hg⟩

theorem info_edge : (Try.prog.info? 70).map (fun i => (i.zero, i.size, i.bytes)) = some (some (.agg #[.int .i64 0, .int .i64 0]), 2, 16) := by kernel_rfl
theorem made_zeros_edge (n : Nat) : madeCells (Value.agg #[.int .i64 0, .int .i64 0]).cells (n * 2) = (iz (List.replicate (n * 2) 0)).toArray := by
  apply Array.ext
  · simp [madeCells, iz]
  · intro i h1 h2
    have h : i % 2 = 0 ∨ i % 2 = 1 := by omega
    simp [madeCells, iz, Value.cells]
    rcases h with h | h <;> simp [h]
theorem make_edge (n : Nat) (hn : n ≤ 1048576) (W : World) : (Instr.makeSlice 28 (.int .i64 (n : Int)) (.int .i64 (n : Int))).run Try.prog W = .ok (.slice (some ⟨W.heap.size, 0, none⟩) n n) (W.alloc (.cells (iz (List.replicate (n * 2) 0)).toArray 70)) := by
  obtain ⟨i0, hi, hz0, hz1, hz2⟩ := info_parts info_edge
  have h := run_make (P := Try.prog) W 28 70 i0 (.agg #[.int .i64 0, .int .i64 0]) Try.underlying28 hi hz0 .i64 .i64 n n (by omega) (by omega) (by rw [hz2]; omega) (by omega)
  rw [hz1, Int.toNat_natCast, made_zeros_edge] at h
  exact h

set_option maxHeartbeats 400000 in
theorem toEdge_any (a b : Int) (w : World) :
    Calls Try.prog 71 #[.agg #[.int .i64 a, .int .i64 b]] w fun e w' => e = .returned (.agg #[.int .i64 a, .int .i64 b]) ∧ Below w.heap.size w w' := by
  go_enter Try.func71, Try.ntmps71
  go_wp2
  refine bodyPost_ret (v := .agg #[.int .i64 a, .int .i64 b]) (by simp [results, Try.results71, go_sem]) rfl ⟨rfl, ?_⟩
  exact below_trans (below_trans (below_alloc _ _) (below_alloc _ _)) (below_alloc _ _)

def copyE (zs : List Int) (k : Nat) : List Int := zs.take k ++ List.replicate (zs.length - k) 0
theorem copyE_is (zs : List Int) (k : Nat) : copyE zs k = copyToI zs k := rfl

set_option maxHeartbeats 400000 in
theorem toEdgeS_any (A : Option Addr) (ca : Nat) (es : List (Int × Int)) (w : World) (hA : Rd w A (ez es)) (hn : es.length ≤ 1048576) :
    Calls Try.prog 37 #[.slice A es.length ca] w fun e w' => ∃ g, e = .returned (.slice (some ⟨g, 0, none⟩) es.length es.length) ∧ w.heap.size ≤ g ∧ Own w' g 70 (ez es) ∧ Below w.heap.size w w' := by
  have hmk := make_edge es.length hn
  rw [ez_flat] at hA ⊢
  have hz := flat_length es
  generalize flat es = zs at *
  generalize es.length = n at *
  have HZ := Lib.hid hz
  clear hz
  go_enter Try.func37, Try.ntmps37
  go_wp2
  clear hmk
  go_loopw [4] (fun i wr => ∃ k : Nat, k ≤ n ∧ i = .int .i64 k ∧ Own wr w.heap.size 70 (iz (copyToI zs (k * 2))) ∧ w.heap.size < wr.heap.size ∧ Below w.heap.size w wr) (fun i _ => n - (intOf i).toNat)
  case atStart => exact ⟨0, Nat.zero_le _, rfl, by rw [Nat.zero_mul, copyToI_zero, HZ.out]; exact Own.new _ _ _, by simp, below_alloc _ _⟩
  case round =>
    obtain ⟨k, hk, rfl, hown, hsz, hbel⟩ := hrel
    by_cases hlt : k < n
    · obtain ⟨b, off, rfl, hb, c0, c1⟩ := hA.pair HZ.out hlt
      have d0 : wr.cell? ⟨b, off + k * 2, none⟩ = some (.int .i64 (iat zs (k * 2))) := (hbel.cell (p := ⟨b, off + k * 2, none⟩) hb).trans c0
      have d1 : wr.cell? ⟨b, off + k * 2 + 1, none⟩ = some (.int .i64 (iat zs (k * 2 + 1))) := (hbel.cell (p := ⟨b, off + k * 2 + 1, none⟩) hb).trans c1
      clear c0 c1
      have hl0 : k * 2 < zs.length := by rw [HZ.out]; omega
      have hl1 : k * 2 + 1 < zs.length := by rw [HZ.out]; omega
      go_wp2_with fail
      refine (toEdge_any (iat zs (k * 2)) (iat zs (k * 2 + 1)) _).mono ?_
      rintro e w1 ⟨rfl, hb1⟩
      have ho1 := hown.grow hb1
      have hbel1 := below_trans hbel hb1
      have hsz1 : w.heap.size < w1.heap.size := by have := hb1.size; omega
      clear hown hbel hb1 hsz d0 d1
      have f0 := ho1.free (k * 2)
      have f1 := ho1.free (k * 2 + 1)
      have e0 : w1.cell? ⟨w.heap.size, k * 2, none⟩ = some (.int .i64 (iat (copyToI zs (k * 2)) (k * 2))) := by
        rw [ho1.cell, iz_iat (by rw [copyToI_length (by omega)]; exact hl0)]
      have e1 : w1.cell? ⟨w.heap.size, k * 2 + 1, none⟩ = some (.int .i64 (iat (copyToI zs (k * 2)) (k * 2 + 1))) := by
        rw [ho1.cell, iz_iat (by rw [copyToI_length (by omega)]; exact hl1)]
      have s2 := (ho1.set (k * 2) (.int .i64 (iat zs (k * 2)))).set (k * 2 + 1) (.int .i64 (iat zs (k * 2 + 1)))
      rw [iz_set, copyToI_set hl0, iz_set, copyToI_set hl1, show k * 2 + 1 + 1 = (k + 1) * 2 by omega] at s2
      have HS := Lib.hid s2
      clear s2
      go_wp2
      go_roundw
      case rel => exact ⟨k + 1, by omega, by go_num, HS.out, by simpa using hsz1, (hbel1.setCell (Nat.le_refl _) _).setCell (Nat.le_refl _) _⟩
      case measure => simp [intOf]; omega
    · go_wp2
      go_ret
      refine ⟨w.heap.size, rfl, Nat.le_refl _, ?_, hbel⟩
      have hkn : k * 2 = zs.length := by rw [HZ.out]; omega
      rw [← copyToI_all zs, ← hkn]
      rw [show copyToI zs (k * 2) = copyToI (copyToI zs zs.length) (k * 2) by rw [copyToI_all]] at hown
      rw [copyToI_all] at hown
      exact hown

theorem toEdgeS_at (A : Option Addr) (ca : Nat) (es : List (Int × Int)) (w : World) (hA : Rd w A (ez es)) (hn : es.length ≤ 1048576) :
    Calls Try.prog 37 #[.slice A es.length ca] w fun e w' => ∃ g, e = .returned (.slice (some ⟨g, 0, none⟩) es.length es.length) ∧
      RowAt w.heap.size w'.heap.size w' 70 2 (.slice (some ⟨g, 0, none⟩) es.length es.length) es.length (ez es) ∧ Below w.heap.size w w' :=
  (toEdgeS_any A ca es w hA hn).mono fun _ w' ⟨g, he, hg, hown, hb⟩ => ⟨g, he, RowAt.of ⟨ez_length es, .inr ⟨g, es.length, (ez es).toArray, rfl, hg, hown, Nat.le_refl _, by unfold maxLen; omega, by simp [ez_length], by simp [← ez_length]⟩⟩, hb⟩

end Go.Proofs.Ytandibofnpndlaa
