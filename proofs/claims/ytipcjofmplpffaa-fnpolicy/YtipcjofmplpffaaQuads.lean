/-
  Rows of quadruples of integers, as cells.
-/
import Derived.Test.YtipcjofmplpffaaPairs
import Derived.Test.YtipcjofmplpffaaPolicyMath
namespace Go.Proofs.Ytipcjofmplpffaa
open Go.RowKit

def qf (p : Pn) : List Int := [p.1, p.2.1, p.2.2.1, p.2.2.2]
/-- puncts as integers, four each -/
def qz (ps : List Pn) : List Int := ps.flatMap qf
theorem qz_cons (p : Pn) (ps : List Pn) : qz (p :: ps) = p.1 :: p.2.1 :: p.2.2.1 :: p.2.2.2 :: qz ps := by simp [qz, qf]
theorem qz_length (ps : List Pn) : (qz ps).length = ps.length * 4 := by
  induction ps with
  | nil => rfl
  | cons p ps ih => rw [qz_cons]; simp [ih]; omega
theorem qz_append (a b : List Pn) : qz (a ++ b) = qz a ++ qz b := by simp [qz]
theorem qz_at {ps : List Pn} {k : Nat} (h : k < ps.length) : iat (qz ps) (k * 4) = (qat ps k).1 ∧ iat (qz ps) (k * 4 + 1) = (qat ps k).2.1 ∧ iat (qz ps) (k * 4 + 2) = (qat ps k).2.2.1 ∧ iat (qz ps) (k * 4 + 3) = (qat ps k).2.2.2 := by
  induction ps generalizing k with
  | nil => simp at h
  | cons p ps ih =>
    rw [qz_cons]
    cases k with
    | zero => simp [iat, qat]
    | succ k =>
      have := ih (k := k) (by simpa using h)
      simp only [iat, show (k + 1) * 4 = k * 4 + 1 + 1 + 1 + 1 by omega, List.getD_cons_succ, show ∀ j, k * 4 + 1 + 1 + 1 + 1 + j = k * 4 + j + 1 + 1 + 1 + 1 by omega] at this ⊢
      simpa [qat] using this
/-- integers in fours are puncts -/
theorem unflat4 : ∀ {n : Nat} {zs : List Int}, zs.length = n * 4 → ∃ ps : List Pn, zs = qz ps ∧ ps.length = n
  | 0, zs, h => ⟨[], by have : zs = [] := by simpa using h
                        rw [this]; rfl, rfl⟩
  | n + 1, [], h => by simp at h
  | n + 1, [_], h => by simp at h; omega
  | n + 1, [_, _], h => by simp at h; omega
  | n + 1, [_, _, _], h => by simp at h; omega
  | n + 1, a :: b :: c :: d :: r, h => by
    obtain ⟨ps, rfl, hl⟩ := unflat4 (n := n) (zs := r) (by simp at h; omega)
    exact ⟨(a, b, c, d) :: ps, by rw [qz_cons], by simp [hl]⟩
theorem qz_inj : ∀ {u v : List Pn}, qz u = qz v → u = v
  | [], [], _ => rfl
  | [], b :: bs, h => by rw [qz_cons] at h; simp [qz] at h
  | a :: us, [], h => by rw [qz_cons] at h; simp [qz] at h
  | a :: us, b :: bs, h => by
    rw [qz_cons, qz_cons] at h
    simp only [List.cons.injEq] at h
    obtain ⟨h1, h2, h3, h4, h5⟩ := h
    have := qz_inj h5
    subst this
    congr 1
    exact Prod.ext h1 (Prod.ext h2 (Prod.ext h3 h4))

theorem Rd.quad {w : World} {A : Option Addr} {zs : List Int} {n : Nat} (h : Rd w A (iz zs)) (hz : zs.length = n * 4) {k : Nat} (hk : k < n) :
    ∃ b off, A = some ⟨b, off, none⟩ ∧ b < w.heap.size ∧ w.cell? ⟨b, off + k * 4, none⟩ = some (.int .i64 (iat zs (k * 4))) ∧ w.cell? ⟨b, off + k * 4 + 1, none⟩ = some (.int .i64 (iat zs (k * 4 + 1))) ∧
      w.cell? ⟨b, off + k * 4 + 2, none⟩ = some (.int .i64 (iat zs (k * 4 + 2))) ∧ w.cell? ⟨b, off + k * 4 + 3, none⟩ = some (.int .i64 (iat zs (k * 4 + 3))) := by
  obtain ⟨ad0, rfl, hb, h0⟩ := h _ _ (iz_iat (k := 0) (by omega))
  obtain ⟨b, off, rfl⟩ := plain_of h0
  have each : ∀ j, j < zs.length → w.cell? ⟨b, off + j, none⟩ = some (.int .i64 (iat zs j)) := fun j hj => by
    obtain ⟨ad, e, _, h1⟩ := h _ _ (iz_iat (k := j) hj)
    injection e with e
    subst e
    rw [plain_add] at h1
    exact h1
  refine ⟨b, off, rfl, hb, each _ (by omega), ?_, ?_, ?_⟩
  · have := each (k * 4 + 1) (by omega); rwa [← Nat.add_assoc] at this
  · have := each (k * 4 + 2) (by omega); rwa [← Nat.add_assoc] at this
  · have := each (k * 4 + 3) (by omega); rwa [← Nat.add_assoc] at this
/-- the four cells of entry k -/
theorem Rd.punct {w : World} {A : Option Addr} {ps : List Pn} (h : Rd w A (iz (qz ps))) {k : Nat} (hk : k < ps.length) :
    ∃ b off, A = some ⟨b, off, none⟩ ∧ ∀ W, Below w.heap.size w W → W.cell? ⟨b, off + k * 4, none⟩ = some (.int .i64 (qat ps k).1) ∧ W.cell? ⟨b, off + k * 4 + 1, none⟩ = some (.int .i64 (qat ps k).2.1) ∧
      W.cell? ⟨b, off + k * 4 + 2, none⟩ = some (.int .i64 (qat ps k).2.2.1) ∧ W.cell? ⟨b, off + k * 4 + 3, none⟩ = some (.int .i64 (qat ps k).2.2.2) := by
  obtain ⟨b, off, rfl, hb, c0, c1, c2, c3⟩ := h.quad (qz_length ps) hk
  obtain ⟨e0, e1, e2, e3⟩ := qz_at hk
  rw [e0] at c0
  rw [e1] at c1
  rw [e2] at c2
  rw [e3] at c3
  exact ⟨b, off, rfl, fun W hW => ⟨(hW.cell (p := ⟨b, off + k * 4, none⟩) hb).trans c0, (hW.cell (p := ⟨b, off + k * 4 + 1, none⟩) hb).trans c1, (hW.cell (p := ⟨b, off + k * 4 + 2, none⟩) hb).trans c2, (hW.cell (p := ⟨b, off + k * 4 + 3, none⟩) hb).trans c3⟩⟩
end Go.Proofs.Ytipcjofmplpffaa
