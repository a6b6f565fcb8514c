/-
  Rows of structs of M ints, as flat lists of integers: the cells of entry k.
-/
import Derived.Test.YtlmlckgnmkjkdaaPairs
namespace Go.Proofs.Ytlmlckgnmkjkdaa
open Go.RowKit

theorem Rd.cells {w : World} {A : Option Addr} {zs : List Int} {n M : Nat} (h : Rd w A (iz zs)) (hz : zs.length = n * M) {k : Nat} (hk : k < n) (hM : 0 < M := by decide) :
    ∃ b off, A = some ⟨b, off, none⟩ ∧ b < w.heap.size ∧ ∀ j, j < M → w.cell? ⟨b, off + k * M + j, none⟩ = some (.int .i64 (iat zs (k * M + j))) := by
  have h0 : 0 < zs.length := by rw [hz]; exact Nat.mul_pos (by omega) hM
  obtain ⟨ad0, rfl, hb, c0⟩ := h _ _ (iz_iat (k := 0) h0)
  obtain ⟨b, off, rfl⟩ := plain_of c0
  refine ⟨b, off, rfl, hb, fun j hj => ?_⟩
  have hkj : k * M + j < zs.length := by
    rw [hz]
    have : (k + 1) * M ≤ n * M := Nat.mul_le_mul_right M hk
    rw [Nat.add_mul] at this
    omega
  obtain ⟨ad, e, _, h1⟩ := h _ _ (iz_iat (k := k * M + j) hkj)
  injection e with e
  subst e
  rw [plain_add, ← Nat.add_assoc] at h1
  exact h1

/-- what is left of a measure: -1 where nothing is -/
def lessF (left : Int) (n : Nat) : Int := if left - (n : Int) < 0 then -1 else left - (n : Int)
end Go.Proofs.Ytlmlckgnmkjkdaa
