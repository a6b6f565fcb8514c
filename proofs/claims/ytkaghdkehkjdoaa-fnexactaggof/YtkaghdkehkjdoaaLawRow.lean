/-
  From a law's walk to its row: the arguments opened, and shut again in a world that has only grown.
-/
import Derived.Test.YtkaghdkehkjdoaaLawRowA
namespace Go.Proofs.Ytkaghdkehkjdoaa
open Go.ChangeShapes Go.WideShapes Go.ChangeAt Go.RowKit Go.Joins

set_option maxRecDepth 100000 in
/-- A slice of integers that came in. -/
theorem ints_in {H : Type} {enc : TypeId × Value → H} {W : World} {b0 : Nat} {v : Value} {d : DataW H} {p : List MemPlace} (hv : Value.okWide Try.prog W .any b0 24 v)
    (h : DataW.Trod enc Try.prog W 0 (fun _ => true) true 24 v d p) :
    ∃ (A : Option Addr) (ca : Nat) (zs : List Int), v = .slice A zs.length ca ∧ Rd W A (iz zs) ∧ zs.length ≤ 9223372036854775807 ∧ ∀ z ∈ zs, (Lit.int .i64 z).wf = true := by
  obtain ⟨a0, l0, c0, rfl⟩ := okWide_slice Try.underlying24 hv
  obtain ⟨fuel, hf⟩ := h
  rcases open_ints Try.underlying24 Try.underlying3 (by kernel_rfl) hf with ⟨hcs, _⟩ | ⟨a, len, cap, zs, hcs, _, hl, hm, hz, hy, hcell, hwz⟩
  · simp [Value.cells] at hcs
    obtain ⟨rfl, rfl, rfl⟩ := hcs
    exact ⟨none, 0, [], rfl, (fun k u hu => by simp [iz] at hu), by simp, fun z hz => by cases hz⟩
  · simp [Value.cells] at hcs
    obtain ⟨rfl, rfl, rfl⟩ := hcs
    rw [if_pos rfl] at hz
    unfold maxLen at hm
    refine ⟨some a, c0, zs.take l0, by simp; omega, fun k u hu => ?_, by simp; omega, fun z hz' => hwz z (List.mem_of_mem_take hz')⟩
    have hk : k < l0 := by
      have := (List.getElem?_eq_some_iff.1 hu).1
      simp [iz] at this; omega
    have hc := hcell k (by omega)
    have hb := World.block_lt_of_cell? W _ hc
    rw [add_block] at hb
    refine ⟨a, rfl, hb, ?_⟩
    rw [hc]
    have hkz : k < zs.length := by omega
    simp [iz, hk, hkz] at hu ⊢
    exact hu

end Go.Proofs.Ytkaghdkehkjdoaa
