/-
  A 128-bit integer of the laws' own that came in; an int.
-/
import Derived.Test.YtkaghdkehkjdoaaLawRowA
import Derived.Test.YtkaghdkehkjdoaaWideA
namespace Go.Proofs.Ytkaghdkehkjdoaa
open Go.ChangeShapes Go.WideShapes Go.ChangeAt Go.RowKit Go.Joins

theorem i64_of {n : Int} (h : (Lit.int .i64 n).wf = true) : I64 n := by
  simp [Lit.wf, IntKind.min, IntKind.max, IntKind.signed, IntKind.bits] at h
  unfold I64; omega
theorem u64_of {n : Int} (h : (Lit.int .u64 n).wf = true) : U64w n := by
  simp [Lit.wf, IntKind.min, IntKind.max, IntKind.signed, IntKind.bits] at h
  unfold U64w; omega

theorem wide_row {H : Type} {enc : TypeId × Value → H} {W : World} {b0 : Nat} {v : Value} {d : DataW H} {p : List MemPlace} (hv : Value.okWide Try.prog W .any b0 44 v)
    (h : DataW.Trod enc Try.prog W 0 (fun _ => true) true 44 v d p) :
    ∃ (a b : Int), v = .agg #[.int .i64 a, .int .u64 b] ∧ I64 a ∧ U64w b := by
  obtain ⟨v0, v1, y0, y1, n, rfl, rfl, rfl, h0, h1⟩ := open_agg2 Try.underlying44 (by kernel_rfl) (by kernel_rfl) hv h
  obtain ⟨N, e0, _, wN⟩ := DataW.trod_int Try.underlying3 h0
  obtain ⟨M, e1, _, wM⟩ := DataW.trod_int Try.underlying27 h1
  simp at e0 e1
  subst e0
  subst e1
  exact ⟨N, M, rfl, i64_of wN, u64_of wM⟩

end Go.Proofs.Ytkaghdkehkjdoaa
