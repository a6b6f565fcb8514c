/-
  From a law's walk to its row: the arguments opened, and shut again in a world that has only grown.
-/
import Derived.Test.YtipcjofmplpffaaLawRowA
namespace Go.Proofs.Ytipcjofmplpffaa
open Go.ChangeShapes Go.WideShapes Go.ChangeAt Go.RowKit Go.Joins

/-- A slice of unsigned numbers that came in. -/
theorem rows_in {H : Type} {enc : TypeId × Value → H} {W : World} {fuel : Nat} {v : Value} {y : DataW H × List MemPlace}
    (h : DataW.trod enc Try.prog W 0 (fun _ => true) true fuel 24 [v] = some y) :
    ∃ (A : Option Addr) (ca : Nat) (xs : List Nat), v = .slice A xs.length ca ∧ Rd W A (us xs) ∧ U64 xs ∧ xs.length ≤ 9223372036854775807 := by
  have hlt := DataW.trod_lt fuel _ _ _ h
  rcases open_ints Try.underlying24 Try.underlying81 (by kernel_rfl) h with ⟨hcs, _⟩ | ⟨a, len, cap, zs, hcs, _, hl, hm, hz, hy, hcell, hwz⟩
  · obtain rfl : v = .slice none 0 0 := by simpa using hcs
    exact ⟨none, 0, [], rfl, (fun k u hu => by simp [us] at hu), (fun a ha => by simp at ha), by simp⟩
  · obtain rfl : v = .slice (some a) len cap := by simpa using hcs
    rw [if_pos rfl] at hz
    unfold maxLen at hm
    have hbd : ∀ k, k < len → 0 ≤ zs.getD k 0 ∧ zs.getD k 0 < 18446744073709551616 := fun k hk => by
      have hkz : k < zs.length := by omega
      have hmem : zs.getD k 0 ∈ zs := by simp [hkz]
      have := hwz _ hmem
      generalize zs.getD k 0 = z at this ⊢
      simp [Lit.wf, IntKind.min, IntKind.max, IntKind.signed, IntKind.bits] at this
      omega
    have hblk : ∀ k, k < len → a.block < W.heap.size := fun k hk => by
      have hc := hcell k (by omega)
      have := World.block_lt_of_cell? W _ hc
      rwa [add_block] at this
    refine ⟨some a, cap, (List.range len).map (fun k => (zs.getD k 0).toNat), by simp, fun k u hu => ?_, fun k hk => ?_, by simp; omega⟩
    · have hk : k < len := by
        have := (List.getElem?_eq_some_iff.1 hu).1
        simpa [us] using this
      refine ⟨a, rfl, hblk k hk, ?_⟩
      rw [hcell k (by omega)]
      simp only [us, List.getElem?_map, List.getElem?_range hk, Option.map_some, Option.some.injEq] at hu
      rw [← hu, Int.toNat_of_nonneg (hbd k hk).1]
    · have hk' : k < len := by simpa using hk
      have := hbd k hk'
      simp [row, hk'] at this ⊢
      omega

set_option maxRecDepth 100000 in
/-- A slice of integers that came in. -/
theorem ints_in {H : Type} {enc : TypeId × Value → H} {W : World} {b0 : Nat} {v : Value} {d : DataW H} {p : List MemPlace} (hv : Value.okWide Try.prog W .any b0 91 v)
    (h : DataW.Trod enc Try.prog W 0 (fun _ => true) true 91 v d p) :
    ∃ (A : Option Addr) (ca : Nat) (zs : List Int), v = .slice A zs.length ca ∧ Rd W A (iz zs) ∧ zs.length ≤ 9223372036854775807 ∧ ∀ z ∈ zs, (Lit.int .i64 z).wf = true := by
  obtain ⟨a0, l0, c0, rfl⟩ := okWide_slice Try.underlying91 hv
  obtain ⟨fuel, hf⟩ := h
  rcases open_ints Try.underlying91 Try.underlying3 (by kernel_rfl) hf with ⟨hcs, _⟩ | ⟨a, len, cap, zs, hcs, _, hl, hm, hz, hy, hcell, hwz⟩
  · simp [Value.cells] at hcs
    obtain ⟨rfl, rfl, rfl⟩ := hcs
    exact ⟨none, 0, [], rfl, (fun k u hu => by simp [iz] at hu), by simp, fun z hz => by cases hz⟩
  · simp [Value.cells] at hcs
    obtain ⟨rfl, rfl, rfl⟩ := hcs
    rw [if_pos rfl] at hz
    unfold maxLen at hm
    refine ⟨some a, c0, zs.take l0, by simp; omega, fun k u hu => ?_, by simp; omega, fun z hz' => hwz z (List.mem_of_mem_take hz')⟩
    have hk : k < l0 := by
      have := (List.getElem?_eq_some_iff.1 hu).1
      simp [iz] at this; omega
    have hc := hcell k (by omega)
    have hb := World.block_lt_of_cell? W _ hc
    rw [add_block] at hb
    refine ⟨a, rfl, hb, ?_⟩
    rw [hc]
    have hkz : k < zs.length := by omega
    simp [iz, hk, hkz] at hu ⊢
    exact hu

set_option maxRecDepth 100000 in
/-- A lattice of the laws' own that came in. -/
theorem lat_in {H : Type} {enc : TypeId × Value → H} {W : World} {b0 : Nat} {v : Value} {d : DataW H} {p : List MemPlace} (hv : Value.okWide Try.prog W .any b0 43 v)
    (h : DataW.Trod enc Try.prog W 0 (fun _ => true) true 43 v d p) :
    ∃ (N : Int) (A : Option Addr) (ca : Nat) (xs : List Nat), v = .agg #[.int .i64 N, .slice A xs.length ca] ∧ Rd W A (us xs) ∧ U64 xs ∧ xs.length ≤ 9223372036854775807 ∧ (Lit.int .i64 N).wf = true := by
  obtain ⟨v0, v1, y0, y1, n, rfl, rfl, rfl, h0, h1⟩ := open_agg2 Try.underlying43 (by kernel_rfl) (by kernel_rfl) hv h
  obtain ⟨N, e0, _, wN⟩ := DataW.trod_int Try.underlying3 h0
  simp at e0
  subst e0
  obtain ⟨A, ca, xs, rfl, hR, hu, hn⟩ := rows_in h1
  exact ⟨N, A, ca, xs, rfl, hR, hu, hn, wN⟩

end Go.Proofs.Ytipcjofmplpffaa
