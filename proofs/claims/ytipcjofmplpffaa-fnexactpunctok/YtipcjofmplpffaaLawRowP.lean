/-
  Arguments of laws, opened: puncts.
-/
import Derived.Test.YtipcjofmplpffaaLawRowF
import Derived.Test.YtipcjofmplpffaaQuads
namespace Go.Proofs.Ytipcjofmplpffaa
open Go.ChangeShapes Go.WideShapes Go.ChangeAt Go.RowKit Go.Joins Go.Deep

theorem four_ints {fs : Array Field} {f0 f1 f2 f3 : Field} {p : Nat → Field → Prop} (h : fs = #[f0, f1, f2, f3]) (h0 : p 0 f0) (h1 : p 1 f1) (h2 : p 2 f2) (h3 : p 3 f3) : ∀ (j : Nat) (f : Field), fs[j]? = some f → p j f := by
  subst h
  intro j f hj
  match j, hj with
  | 0, hj => cases hj; exact h0
  | 1, hj => cases hj; exact h1
  | 2, hj => cases hj; exact h2
  | 3, hj => cases hj; exact h3
  | j + 4, hj => simp at hj
set_option maxRecDepth 100000 in
/-- A punct that came in. -/
theorem punct_in {H : Type} {enc : TypeId × Value → H} {W : World} {b0 : Nat} {v : Value} {d : DataW H} {p : List MemPlace} (hv : Value.okWide Try.prog W .any b0 44 v)
    (h : DataW.Trod enc Try.prog W 0 (fun _ => true) true 44 v d p) :
    ∃ a b c e : Int, v = .agg #[.int .i64 a, .int .i64 b, .int .i64 c, .int .i64 e] ∧ In64 a ∧ In64 b ∧ In64 c ∧ In64 e := by
  obtain ⟨zs, rfl, hl, hz⟩ := aggF_in (s := 4) Try.underlying44 (by kernel_rfl) rfl
    (four_ints rfl ⟨rfl, by kernel_rfl, Try.underlying3⟩ ⟨rfl, by kernel_rfl, Try.underlying3⟩ ⟨rfl, by kernel_rfl, Try.underlying3⟩ ⟨rfl, by kernel_rfl, Try.underlying3⟩) hv h
  match zs, hl with
  | [a, b, c, e], _ => exact ⟨a, b, c, e, rfl, hz 0 (by omega), hz 1 (by omega), hz 2 (by omega), hz 3 (by omega)⟩
set_option maxRecDepth 100000 in
/-- A slice of the laws' own puncts that came in. -/
theorem puncts_in {H : Type} {enc : TypeId × Value → H} {W : World} {b0 : Nat} {v : Value} {d : DataW H} {p : List MemPlace} (hv : Value.okWide Try.prog W .any b0 52 v)
    (h : DataW.Trod enc Try.prog W 0 (fun _ => true) true 52 v d p) :
    ∃ (A : Option Addr) (ca : Nat) (ps : List Pn), v = .slice A ps.length ca ∧ Rd W A (iz (qz ps)) ∧ ps.length ≤ 9223372036854775807 ∧ ∀ k, k < ps.length → In64 (qat ps k).1 ∧ In64 (qat ps k).2.1 ∧ In64 (qat ps k).2.2.1 ∧ In64 (qat ps k).2.2.2 := by
  obtain ⟨A, n, ca, zs, rfl, hR, hl, hn, hz⟩ := flat_in (s := 4) Try.underlying52 Try.underlying44 (by kernel_rfl) rfl
    (four_ints rfl ⟨rfl, by kernel_rfl, Try.underlying3⟩ ⟨rfl, by kernel_rfl, Try.underlying3⟩ ⟨rfl, by kernel_rfl, Try.underlying3⟩ ⟨rfl, by kernel_rfl, Try.underlying3⟩) hv h
  obtain ⟨ps, rfl, rfl⟩ := unflat4 hl
  refine ⟨A, ca, ps, rfl, hR, hn, fun k hk => ?_⟩
  obtain ⟨e0, e1, e2, e3⟩ := qz_at hk
  rw [← e0, ← e1, ← e2, ← e3]
  rw [qz_length] at hz
  exact ⟨hz _ (by omega), hz _ (by omega), hz _ (by omega), hz _ (by omega)⟩
end Go.Proofs.Ytipcjofmplpffaa
