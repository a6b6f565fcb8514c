/-
  A slice of bytes that came in.
-/
import Derived.Test.YtkaghdkehkjdoaaLawRowA
import Derived.Test.YtkaghdkehkjdoaaCur
namespace Go.Proofs.Ytkaghdkehkjdoaa
open Go.ChangeShapes Go.WideShapes Go.ChangeAt Go.RowKit

set_option maxRecDepth 100000 in
theorem bytes_in {H : Type} {enc : TypeId × Value → H} {W : World} {b0 : Nat} {v : Value} {d : DataW H} {p : List MemPlace} (hv : Value.okWide Try.prog W .any b0 22 v)
    (h : DataW.Trod enc Try.prog W 0 (fun _ => true) true 22 v d p) :
    ∃ (A : Option Addr) (ca n : Nat), v = .slice A n ca ∧ Byt W A n W.heap.size ∧ n ≤ 9223372036854775807 ∧ n ≤ ca := by
  obtain ⟨a0, l0, c0, rfl⟩ := okWide_slice Try.underlying22 hv
  obtain ⟨fuel, hf⟩ := h
  rcases open_ints Try.underlying22 Try.underlying5 (by kernel_rfl) hf with ⟨hcs, _⟩ | ⟨a, len, cap, zs, hcs, _, hl, hm, hz, hy, hcell, hwz⟩
  · simp [Value.cells] at hcs
    obtain ⟨rfl, rfl, rfl⟩ := hcs
    exact ⟨none, 0, 0, rfl, (fun k hk => by omega), by simp, Nat.le_refl _⟩
  · simp [Value.cells] at hcs
    obtain ⟨rfl, rfl, rfl⟩ := hcs
    rw [if_pos rfl] at hz
    unfold maxLen at hm
    refine ⟨some a, c0, l0, rfl, fun k hk => ?_, by omega, hl⟩
    have hc := hcell k (by omega)
    have hb := World.block_lt_of_cell? W _ hc
    rw [add_block] at hb
    have hkz : k < zs.length := by omega
    have hmem : zs.getD k 0 ∈ zs := by simp [hkz]
    have hw := hwz _ hmem
    generalize zs.getD k 0 = z at hw hc
    simp [Lit.wf, IntKind.min, IntKind.max, IntKind.signed, IntKind.bits] at hw
    obtain ⟨b, rfl⟩ := Int.eq_ofNat_of_zero_le (show 0 ≤ z by omega)
    exact ⟨a, b, rfl, hb, by omega, hc⟩

end Go.Proofs.Ytkaghdkehkjdoaa
