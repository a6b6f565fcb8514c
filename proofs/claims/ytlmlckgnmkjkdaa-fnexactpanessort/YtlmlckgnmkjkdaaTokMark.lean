/-
  Tokens: marks.
-/
import Derived.Test.YtlmlckgnmkjkdaaTokKit
namespace Go.Proofs.Ytlmlckgnmkjkdaa
open Go.RowKit

set_option maxHeartbeats 1000000 in
theorem markTokS_any (v : Value) (base n : Nat) (zs : List Int) (k : Int) (w : World) (hown : w.ownsRow base 125 2 v n (iz zs)) (hz : zs.length = n * 2) (h0 : 0 ≤ k) (h1 : k ≤ 4611686018427387904) (hn : n ≤ 1048576) :
    Calls Try.prog 83 #[v, .int .i64 k] w fun e w' => e = .returned (.int .i64 (k + (n * 2 : Nat))) ∧ w'.ownsRow base 125 2 v n (iz (marks k (n * 2))) ∧ w.grownBy w' v.ownBlock := by
  obtain ⟨A, c, rfl, _⟩ := owns_rd hown
  have HZ := Lib.hid hz
  clear hz
  go_enter Try.func83, Try.ntmps83
  go_wp2
  go_loopw [1, 5] (fun q i wr => ∃ j : Nat, j ≤ n ∧ i = .int .i64 j ∧ q = .int .i64 (k + j * 2) ∧ wr.ownsRow base 125 2 (.slice A n c) n (iz (markTo zs k (j * 2))) ∧ w.grownBy wr (Value.slice A n c).ownBlock) (fun _ i _ => n - (intOf i).toNat)
  case atStart => exact ⟨0, Nat.zero_le _, rfl, by simp, by rw [Nat.zero_mul, markTo_zero]; exact hown, World.grownBy.refl _ _⟩
  case round =>
    obtain ⟨j, hj, rfl, rfl, ho, hg⟩ := hrel
    by_cases hlt : j < n
    · obtain ⟨g, rfl⟩ : ∃ g, A = some ⟨g, 0, none⟩ := by
        rcases ho.2 with ⟨h, h'⟩ | ⟨g, cap, cur, h, _⟩
        · omega
        · injection h with h; exact ⟨g, h⟩
      have hl0 : j * 2 < zs.length := by rw [HZ.out]; omega
      have hl1 : j * 2 + 1 < zs.length := by rw [HZ.out]; omega
      have c0 : wr.cell? ⟨g, j * 2, none⟩ = some (.int .i64 (iat (markTo zs k (j * 2)) (j * 2))) := by
        rw [ho.cellAt (j * 2) (by omega), iz_iat (by rw [markTo_length (by omega)]; exact hl0)]
      have c1 : wr.cell? ⟨g, j * 2 + 1, none⟩ = some (.int .i64 (iat (markTo zs k (j * 2)) (j * 2 + 1))) := by
        rw [ho.cellAt (j * 2 + 1) (by omega), iz_iat (by rw [markTo_length (by omega)]; exact hl1)]
      have f0 := ho.frozenAt (j * 2)
      have f1 := ho.frozenAt (j * 2 + 1)
      have s1 := ho.stored (j * 2) (.int .i64 (k + j * 2))
      have s2 := s1.1.stored (j * 2 + 1) (.int .i64 (k + j * 2 + 1))
      have e1 : (iz (markTo zs k (j * 2))).set (j * 2) (.int .i64 (k + j * 2)) = iz (markTo zs k (j * 2 + 1)) := by
        rw [show (k + j * 2 : Int) = k + (j * 2 : Nat) by omega, iz_set, markTo_set hl0]
      have e2 : (iz (markTo zs k (j * 2 + 1))).set (j * 2 + 1) (.int .i64 (k + j * 2 + 1)) = iz (markTo zs k ((j + 1) * 2)) := by
        rw [show (k + j * 2 + 1 : Int) = k + (j * 2 + 1 : Nat) by omega, iz_set, markTo_set hl1, show (j + 1) * 2 = j * 2 + 1 + 1 by omega]
      rw [e1, e2] at s2
      have HO := Lib.hid s2.1
      have HG := Lib.hid (grownBy_trans hg (grownBy_trans s1.2 s2.2))
      clear s1 s2 e1 e2
      go_wp2
      go_roundw
      case rel =>
        exact ⟨j + 1, by omega, by go_num, by first | rfl | (congr 1; omega), HO.out, HG.out⟩
      case measure => simp [intOf]; omega
    · go_wp2
      go_ret
      have hjn : j = n := by omega
      subst hjn
      refine ⟨ret_int (by omega), ?_, hg⟩
      have := ho
      rw [← HZ.out, markTo_all, HZ.out] at this
      exact this

theorem markTokS_at (v : Value) (lo hi n : Nat) (es : List (Int × Int)) (k : Int) (w : World) (hr : RowAt lo hi w 125 2 v n (ez es)) (h0 : 0 ≤ k) (h1 : k ≤ 4611686018427387904) (hl : es.length = n) (hn : n ≤ 1048576) :
    Calls Try.prog 83 #[v, .int .i64 k] w fun e w' => e = .returned (.int .i64 (k + (n * 2 : Nat))) ∧ RowAt lo hi w' 125 2 v n (iz (marks k (n * 2))) ∧ Only lo hi w w' := by
  have hr' := hr
  rw [ez_flat] at hr'
  exact (markTokS_any v lo n (flat es) k w hr'.1 (by rw [flat_length, hl]) h0 h1 hn).mono fun _ _ ⟨he, ho, hg⟩ => ⟨he, ⟨ho, hr.2⟩, Only.of_row hr hg⟩

end Go.Proofs.Ytlmlckgnmkjkdaa
