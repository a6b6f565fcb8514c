/-
  What the laws' own helpers on rows of numbers return: equality, marks, and whether the marks are held.
-/
import Derived.Test.YtipcjofmplpffaaLawKit
import Derived.Test.YtipcjofmplpffaaIntAt
import Derived.Test.YtipcjofmplpffaaMarks
namespace Go.Proofs.Ytipcjofmplpffaa
open Go.RowKit

theorem uz_set (xs : List Int) (k : Nat) (v : Int) : (uz xs).set k (.int .u64 v) = uz (xs.set k v) := by
  simp [uz, List.map_set]

set_option maxHeartbeats 400000 in
theorem markUint64S_any (v : Value) (base : Nat) (zs : List Int) (k : Int) (w : World) (hown : w.ownsRow base 81 1 v zs.length (uz zs)) (h0 : 0 ≤ k) (h1 : k ≤ 4611686018427387904) (hn : zs.length ≤ 1048576) :
    Calls Try.prog 74 #[v, .int .i64 k] w fun e w' => e = .returned (.int .i64 (k + zs.length)) ∧ w'.ownsRow base 81 1 v zs.length (uz (marks k zs.length)) ∧ w.grownBy w' v.ownBlock := by
  obtain ⟨A, c, rfl, _⟩ := owns_rd hown
  go_enter Try.func74, Try.ntmps74
  go_wp2
  go_loopw [1, 5] (fun q i wr => ∃ j : Nat, j ≤ zs.length ∧ i = .int .i64 j ∧ q = .int .i64 (k + j) ∧ wr.ownsRow base 81 1 (.slice A zs.length c) zs.length (uz (markTo zs k j)) ∧ w.grownBy wr (Value.slice A zs.length c).ownBlock) (fun _ i _ => zs.length - (intOf i).toNat)
  case atStart => exact ⟨0, Nat.zero_le _, rfl, by simp, by rw [markTo_zero]; exact hown, World.grownBy.refl _ _⟩
  case round =>
    obtain ⟨j, hj, rfl, rfl, ho, hg⟩ := hrel
    by_cases hlt : j < zs.length
    · obtain ⟨g, rfl⟩ : ∃ g, A = some ⟨g, 0, none⟩ := by
        rcases ho.2 with ⟨h, h'⟩ | ⟨g, cap, cur, h, _⟩
        · omega
        · injection h with h; exact ⟨g, h⟩
      have hcf : wr.cell? ⟨g, j, none⟩ = some (.int .u64 ((markTo zs k j).getD j 0)) := by
        rw [ho.cellAt j (by omega), uz_at (by rw [markTo_length hj]; exact hlt)]
      have hff := ho.frozenAt j
      have HO := Lib.hid (ho.stored j (.int .u64 (k + j)))
      go_wp2
      go_roundw
      case rel =>
        have := HO.out
        rw [uz_set, markTo_set hlt] at this
        exact ⟨j + 1, by omega, by go_num, by go_num, this.1, grownBy_trans hg this.2⟩
      case measure => simp [intOf]; omega
    · go_wp2
      go_ret
      have hjn : j = zs.length := by omega
      subst hjn
      exact ⟨rfl, by rw [← markTo_all]; exact ho, hg⟩

set_option maxHeartbeats 400000 in
theorem markLat_any (N : Int) (g base : Nat) (xs : List Nat) (k : Int) (w : World) (hown : w.ownsRow base 81 1 (.slice (some ⟨g, 0, none⟩) xs.length xs.length) xs.length (us xs)) (h0 : 0 ≤ k) (h1 : k ≤ 4611686018427387904) (hn : xs.length ≤ 1048576) :
    Calls Try.prog 35 #[.agg #[.int .i64 N, .slice (some ⟨g, 0, none⟩) xs.length xs.length], .int .i64 k] w fun e w' => e = .returned (.int .i64 (k + xs.length)) ∧
      w'.ownsRow base 81 1 (.slice (some ⟨g, 0, none⟩) xs.length xs.length) xs.length (uz (marks k xs.length)) ∧ w.grownBy w' (some g) := by
  rw [us_uz] at hown
  have hl : (xs.map fun n : Nat => (n : Int)).length = xs.length := by simp
  have c := fun W (h : W.ownsRow base 81 1 (.slice (some ⟨g, 0, none⟩) xs.length xs.length) xs.length (uz (xs.map fun n : Nat => (n : Int)))) => markUint64S_any (.slice (some ⟨g, 0, none⟩) xs.length xs.length) base (xs.map fun n : Nat => (n : Int)) k W (by rw [hl]; exact h) h0 h1 (by rw [hl]; exact hn)
  rw [hl] at c
  have C := Lib.hid c
  clear c hl
  go_enter Try.func35, Try.ntmps35
  go_wp2_with fail
  refine (C.out _ (owns_grow hown (below_alloc _ _))).mono ?_
  rintro e w1 ⟨rfl, ho, hg⟩
  go_wp2
  go_ret
  exact ⟨rfl, ho, grownBy_trans (grownBy_of (below_alloc _ _) _) hg⟩

end Go.Proofs.Ytipcjofmplpffaa
