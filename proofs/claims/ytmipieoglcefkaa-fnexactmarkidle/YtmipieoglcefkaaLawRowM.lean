/-
  Arguments of laws, opened: marks.
-/
import Derived.Test.YtmipieoglcefkaaLawRowA
import Derived.Test.YtmipieoglcefkaaMarkMath
import Derived.Deep.SlicePairs
namespace Go.Proofs.Ytmipieoglcefkaa
open Go.ChangeShapes Go.WideShapes Go.ChangeAt Go.RowKit Go.Joins Go.Deep

theorem int_in64 {n : Int} (h : (Lit.int .i64 n).wf = true) : In64 n := by
  simp [Lit.wf, IntKind.min, IntKind.max, IntKind.signed, IntKind.bits] at h
  unfold In64; omega

set_option maxRecDepth 100000 in
/-- A slice of the laws' own marks that came in. -/
theorem markS_in {H : Type} {enc : TypeId × Value → H} {W : World} {fuel : Nat} {v : Value} {y : DataW H × List MemPlace}
    (h : DataW.trod enc Try.prog W 0 (fun _ => true) true fuel 42 [v] = some y) :
    ∃ (A : Option Addr) (ca : Nat) (ms : List Mk), v = .slice A ms.length ca ∧ Rd W A (mz ms) ∧ ms.length ≤ 9223372036854775807 ∧ ∀ k, k < ms.length → In64 (mat ms k).1 := by
  rcases open_slice_pairs Try.underlying42 Try.underlying76 (by kernel_rfl) (by kernel_rfl) (by kernel_rfl) (by kernel_rfl) (by kernel_rfl) h with ⟨hcs, _⟩ | ⟨a, len, cap, m, n, V0, V1, D0, D1, P0, P1, hcs, _, hl, hm, hmm, _, hcell⟩
  · obtain rfl : v = .slice none 0 0 := by simpa using hcs
    exact ⟨none, 0, [], rfl, (fun k u hu => by simp [mz] at hu), by simp, fun k hk => by simp at hk⟩
  · obtain rfl : v = .slice (some a) len cap := by simpa using hcs
    rw [if_pos rfl] at hmm
    unfold maxLen at hm
    have each : ∀ i, i < len → ∃ q : Mk, (V0 i = .int .i64 q.1 ∧ V1 i = .bool q.2) ∧ In64 q.1 := fun i hi => by
      obtain ⟨_, _, t0, t1⟩ := hcell i (by omega)
      obtain ⟨x, e0, _, w0⟩ := DataW.trod_int Try.underlying3 t0
      obtain ⟨y, e1, _⟩ := DataW.trod_bool Try.underlying4 t1
      exact ⟨(x, y), ⟨by simpa using e0, by simpa using e1⟩, int_in64 w0⟩
    obtain ⟨f, hfq⟩ := choose_lt (α := Mk) (p := fun i q => (V0 i = .int .i64 q.1 ∧ V1 i = .bool q.2) ∧ In64 q.1) each
    refine ⟨some a, cap, (List.range len).map f, by simp, fun k u hu => ?_, by simp; omega, fun k hk => ?_⟩
    rotate_left
    · have hk' : k < len := by simpa using hk
      have := (hfq k hk').2
      simpa [mat, hk'] using this
    have hk : k < len * 2 := by
      have := (List.getElem?_eq_some_iff.1 hu).1
      rw [mz_length] at this
      simpa using this
    obtain ⟨i, hi2⟩ : ∃ i, i < len ∧ (k = i * 2 ∨ k = i * 2 + 1) := ⟨k / 2, by omega, by omega⟩
    obtain ⟨hi, hk2⟩ := hi2
    obtain ⟨h0, h1, _, _⟩ := hcell i (by omega)
    obtain ⟨⟨q0, q1⟩, _⟩ := hfq i hi
    have hb := World.block_lt_of_cell? W _ h0
    rw [add_block] at hb
    refine ⟨a, rfl, hb, ?_⟩
    have hil : i < ((List.range len).map f).length := by simpa using hi
    rcases hk2 with rfl | rfl
    · rw [mz_lo hil] at hu
      rw [h0, q0, ← hu]
      simp [mat, hi]
    · rw [mz_hi hil] at hu
      rw [h1, q1, ← hu]
      simp [mat, hi]
set_option maxRecDepth 100000 in
/-- Marks of the laws' own that came in. -/
theorem marks_in {H : Type} {enc : TypeId × Value → H} {W : World} {b0 : Nat} {v : Value} {d : DataW H} {p : List MemPlace} (hv : Value.okWide Try.prog W .any b0 44 v)
    (h : DataW.Trod enc Try.prog W 0 (fun _ => true) true 44 v d p) :
    ∃ (G : Int) (A : Option Addr) (ca : Nat) (ms : List Mk), v = .agg #[.int .i64 G, .slice A ms.length ca] ∧ Rd W A (mz ms) ∧ ms.length ≤ 9223372036854775807 ∧ In64 G ∧ ∀ k, k < ms.length → In64 (mat ms k).1 := by
  obtain ⟨v0, v1, y0, y1, n, rfl, rfl, rfl, h0, h1⟩ := open_agg2 Try.underlying44 (by kernel_rfl) (by kernel_rfl) hv h
  obtain ⟨N, e0, _, wN⟩ := DataW.trod_int Try.underlying3 h0
  simp at e0
  subst e0
  obtain ⟨A, ca, ms, rfl, hR, hn, hm⟩ := markS_in h1
  exact ⟨N, A, ca, ms, rfl, hR, hn, int_in64 wN, hm⟩
end Go.Proofs.Ytmipieoglcefkaa
