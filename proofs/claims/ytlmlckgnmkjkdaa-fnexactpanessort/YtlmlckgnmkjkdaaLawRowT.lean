/-
  Arguments of laws, opened: tokens.
-/
import Derived.Test.YtlmlckgnmkjkdaaLawRowA
import Derived.Test.YtlmlckgnmkjkdaaPairs
import Derived.Deep.SlicePairs
namespace Go.Proofs.Ytlmlckgnmkjkdaa
open Go.ChangeShapes Go.WideShapes Go.ChangeAt Go.RowKit Go.Joins Go.Deep

theorem int_range {n : Int} (h : (Lit.int .i64 n).wf = true) : In64 n := by
  simp [Lit.wf, IntKind.min, IntKind.max, IntKind.signed, IntKind.bits] at h
  unfold In64; omega

set_option maxRecDepth 100000 in
/-- A slice of the laws' own tokens that came in. -/
theorem toks_in {H : Type} {enc : TypeId × Value → H} {W : World} {b0 : Nat} {v : Value} {d : DataW H} {p : List MemPlace} (hv : Value.okWide Try.prog W .any b0 32 v)
    (h : DataW.Trod enc Try.prog W 0 (fun _ => true) true 32 v d p) :
    ∃ (A : Option Addr) (ca : Nat) (es : List (Int × Int)), v = .slice A es.length ca ∧ Rd W A (ez es) ∧ es.length ≤ 9223372036854775807 ∧ ∀ k, k < es.length → (In64 (elo es k) ∧ In64 (ehi es k)) := by
  obtain ⟨a0, l0, c0, rfl⟩ := okWide_slice Try.underlying32 hv
  obtain ⟨fuel, hf⟩ := h
  rcases open_slice_pairs Try.underlying32 Try.underlying127 (by kernel_rfl) (by kernel_rfl) (by kernel_rfl) (by kernel_rfl) (by kernel_rfl) hf with ⟨hcs, _⟩ | ⟨a, len, cap, m, n, V0, V1, D0, D1, P0, P1, hcs, _, hl, hm, hmm, _, hcell⟩
  · simp [Value.cells] at hcs
    obtain ⟨rfl, rfl, rfl⟩ := hcs
    exact ⟨none, 0, [], rfl, (fun k u hu => by simp [ez] at hu), by simp, fun k hk => by simp at hk⟩
  · simp [Value.cells] at hcs
    obtain ⟨rfl, rfl, rfl⟩ := hcs
    rw [if_pos rfl] at hmm
    unfold maxLen at hm
    have each : ∀ i, i < l0 → ∃ q : Int × Int, (V0 i = .int .i64 q.1 ∧ V1 i = .int .i64 q.2) ∧ In64 q.1 ∧ In64 q.2 := fun i hi => by
      obtain ⟨_, _, t0, t1⟩ := hcell i (by omega)
      obtain ⟨x, e0, _, w0⟩ := DataW.trod_int Try.underlying3 t0
      obtain ⟨y, e1, _, w1⟩ := DataW.trod_int Try.underlying3 t1
      exact ⟨(x, y), ⟨by simpa using e0, by simpa using e1⟩, int_range w0, int_range w1⟩
    obtain ⟨f, hfq⟩ := choose_lt (α := Int × Int) (p := fun i q => (V0 i = .int .i64 q.1 ∧ V1 i = .int .i64 q.2) ∧ In64 q.1 ∧ In64 q.2) each
    refine ⟨some a, c0, (List.range l0).map f, by simp, fun k u hu => ?_, by simp; omega, fun k hk => ?_⟩
    rotate_left
    · have hk' : k < l0 := by simpa using hk
      have := (hfq k hk').2
      simpa [elo, ehi, hk'] using this
    have hk : k < l0 * 2 := by
      have := (List.getElem?_eq_some_iff.1 hu).1
      rw [ez_length] at this
      simpa using this
    obtain ⟨i, hi2⟩ : ∃ i, i < l0 ∧ (k = i * 2 ∨ k = i * 2 + 1) := ⟨k / 2, by omega, by omega⟩
    obtain ⟨hi, hk2⟩ := hi2
    obtain ⟨h0, h1, _, _⟩ := hcell i (by omega)
    obtain ⟨⟨q0, q1⟩, _⟩ := hfq i hi
    have hb := World.block_lt_of_cell? W _ h0
    rw [add_block] at hb
    refine ⟨a, rfl, hb, ?_⟩
    have hil : i < ((List.range l0).map f).length := by simpa using hi
    rcases hk2 with rfl | rfl
    · rw [ez_lo hil] at hu
      rw [h0, q0, ← hu]
      simp [elo, hi]
    · rw [ez_hi hil] at hu
      rw [h1, q1, ← hu]
      simp [ehi, hi]

end Go.Proofs.Ytlmlckgnmkjkdaa
