/-
  Arguments of laws, opened: windows and their definitions.
-/
import Derived.Test.YtdphbfapccnhlaaLawRowF
import Derived.Test.YtdphbfapccnhlaaWinMath
namespace Go.Proofs.Ytdphbfapccnhlaa
open Go.ChangeShapes Go.WideShapes Go.ChangeAt Go.RowKit Go.Joins Go.Deep

theorem unflat2 : ∀ {n : Nat} {zs : List Int}, zs.length = n * 2 → ∃ ps : List Wn, zs = flat ps ∧ ps.length = n
  | 0, zs, h => ⟨[], by have : zs = [] := by simpa using h
                        rw [this]; rfl, rfl⟩
  | n + 1, [], h => by simp at h
  | n + 1, [_], h => by simp at h; omega
  | n + 1, a :: b :: r, h => by
    obtain ⟨ps, rfl, hl⟩ := unflat2 (n := n) (zs := r) (by simp at h; omega)
    exact ⟨(a, b) :: ps, by simp [flat], by simp [hl]⟩
theorem two_ints {fs : Array Field} {f0 f1 : Field} {p : Nat → Field → Prop} (h : fs = #[f0, f1]) (h0 : p 0 f0) (h1 : p 1 f1) : ∀ (j : Nat) (f : Field), fs[j]? = some f → p j f := by
  subst h
  intro j f hj
  match j, hj with
  | 0, hj => cases hj; exact h0
  | 1, hj => cases hj; exact h1
  | j + 2, hj => simp at hj
theorem three_ints {fs : Array Field} {f0 f1 f2 : Field} {p : Nat → Field → Prop} (h : fs = #[f0, f1, f2]) (h0 : p 0 f0) (h1 : p 1 f1) (h2 : p 2 f2) : ∀ (j : Nat) (f : Field), fs[j]? = some f → p j f := by
  subst h
  intro j f hj
  match j, hj with
  | 0, hj => cases hj; exact h0
  | 1, hj => cases hj; exact h1
  | 2, hj => cases hj; exact h2
  | j + 3, hj => simp at hj
set_option maxRecDepth 100000 in
/-- A window that came in. -/
theorem win_in {H : Type} {enc : TypeId × Value → H} {W : World} {b0 : Nat} {v : Value} {d : DataW H} {p : List MemPlace} (hv : Value.okWide Try.prog W .any b0 54 v)
    (h : DataW.Trod enc Try.prog W 0 (fun _ => true) true 54 v d p) :
    ∃ a b : Int, v = .agg #[.int .i64 a, .int .i64 b] ∧ In64 a ∧ In64 b := by
  obtain ⟨zs, rfl, hl, hz⟩ := aggF_in (s := 2) Try.underlying54 (by kernel_rfl) rfl
    (two_ints rfl ⟨rfl, by kernel_rfl, Try.underlying3⟩ ⟨rfl, by kernel_rfl, Try.underlying3⟩) hv h
  match zs, hl with
  | [a, b], _ => exact ⟨a, b, rfl, hz 0 (by omega), hz 1 (by omega)⟩
set_option maxRecDepth 100000 in
/-- A definition of windows that came in. -/
theorem windef_in {H : Type} {enc : TypeId × Value → H} {W : World} {b0 : Nat} {v : Value} {d : DataW H} {p : List MemPlace} (hv : Value.okWide Try.prog W .any b0 45 v)
    (h : DataW.Trod enc Try.prog W 0 (fun _ => true) true 45 v d p) :
    ∃ a b c : Int, v = .agg #[.int .i64 a, .int .i64 b, .int .i64 c] ∧ In64 a ∧ In64 b ∧ In64 c := by
  obtain ⟨zs, rfl, hl, hz⟩ := aggF_in (s := 3) Try.underlying45 (by kernel_rfl) rfl
    (three_ints rfl ⟨rfl, by kernel_rfl, Try.underlying3⟩ ⟨rfl, by kernel_rfl, Try.underlying3⟩ ⟨rfl, by kernel_rfl, Try.underlying3⟩) hv h
  match zs, hl with
  | [a, b, c], _ => exact ⟨a, b, c, rfl, hz 0 (by omega), hz 1 (by omega), hz 2 (by omega)⟩
set_option maxRecDepth 100000 in
/-- A slice of the laws' own windows that came in. -/
theorem wins_in {H : Type} {enc : TypeId × Value → H} {W : World} {b0 : Nat} {v : Value} {d : DataW H} {p : List MemPlace} (hv : Value.okWide Try.prog W .any b0 50 v)
    (h : DataW.Trod enc Try.prog W 0 (fun _ => true) true 50 v d p) :
    ∃ (A : Option Addr) (ca : Nat) (ws : List Wn), v = .slice A ws.length ca ∧ Rd W A (ez ws) ∧ ws.length ≤ 9223372036854775807 := by
  obtain ⟨A, n, ca, zs, rfl, hR, hl, hn, hz⟩ := flat_in (s := 2) Try.underlying50 Try.underlying54 (by kernel_rfl) rfl
    (two_ints rfl ⟨rfl, by kernel_rfl, Try.underlying3⟩ ⟨rfl, by kernel_rfl, Try.underlying3⟩) hv h
  obtain ⟨ps, rfl, rfl⟩ := unflat2 hl
  exact ⟨A, ca, ps, rfl, by rw [ez_flat]; exact hR, hn⟩
end Go.Proofs.Ytdphbfapccnhlaa
