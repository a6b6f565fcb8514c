/-
  Rows of pairs of integers, as cells; marks and copies as lists.
-/
import Derived.Test.YtlmlckgnmkjkdaaIntAt
import Derived.Test.YtlmlckgnmkjkdaaHold
import Derived.Test.YtlmlckgnmkjkdaaMarks
namespace Go.Proofs.Ytlmlckgnmkjkdaa
open Go.RowKit

/-- within the range of int -/
def In64 (x : Int) : Prop := -9223372036854775808 ≤ x ∧ x ≤ 9223372036854775807
/-- edges as cells, two each -/
def ez (es : List (Int × Int)) : List Value := es.flatMap fun e => [Value.int .i64 e.1, Value.int .i64 e.2]
def elo (es : List (Int × Int)) (k : Nat) : Int := (es.getD k (0, 0)).1
def ehi (es : List (Int × Int)) (k : Nat) : Int := (es.getD k (0, 0)).2
theorem ez_length (es : List (Int × Int)) : (ez es).length = es.length * 2 := by
  induction es with
  | nil => rfl
  | cons e es ih => simp only [ez, List.flatMap_cons] at ih ⊢; simp [ih]; omega
theorem ez_cons (e : Int × Int) (es : List (Int × Int)) : ez (e :: es) = .int .i64 e.1 :: .int .i64 e.2 :: ez es := by simp [ez]
theorem ez_append (a b : List (Int × Int)) : ez (a ++ b) = ez a ++ ez b := by simp [ez]
theorem ez_lo {es : List (Int × Int)} {k : Nat} (h : k < es.length) : (ez es)[k * 2]? = some (.int .i64 (elo es k)) := by
  induction es generalizing k with
  | nil => simp at h
  | cons e es ih =>
    cases k with
    | zero => simp [ez_cons, elo]
    | succ k =>
      rw [ez_cons, show (k + 1) * 2 = k * 2 + 1 + 1 by omega, List.getElem?_cons_succ, List.getElem?_cons_succ, ih (by simpa using h)]
      simp [elo]
theorem ez_hi {es : List (Int × Int)} {k : Nat} (h : k < es.length) : (ez es)[k * 2 + 1]? = some (.int .i64 (ehi es k)) := by
  induction es generalizing k with
  | nil => simp at h
  | cons e es ih =>
    cases k with
    | zero => simp [ez_cons, ehi]
    | succ k =>
      rw [ez_cons, show (k + 1) * 2 + 1 = k * 2 + 1 + 1 + 1 by omega, List.getElem?_cons_succ, List.getElem?_cons_succ, ih (by simpa using h)]
      simp [ehi]

theorem plain_of {w : World} {ad : Addr} {u : Value} (h : w.cell? (ad.add 0) = some u) : ∃ b off, ad = ⟨b, off, none⟩ := by
  obtain ⟨b, off, spot⟩ := ad
  have hs := World.cell?_spot h
  have : spot = none := by simpa [Addr.add] using hs
  exact ⟨b, off, by rw [this]⟩
theorem plain_add (b off k : Nat) : (⟨b, off, none⟩ : Addr).add k = ⟨b, off + k, none⟩ := by
  unfold Addr.add
  split
  · simp_all
  · rfl
/-- the two cells of edge k -/
theorem Rd.edge {w : World} {A : Option Addr} {es : List (Int × Int)} (h : Rd w A (ez es)) {k : Nat} (hk : k < es.length) :
    ∃ b off, A = some ⟨b, off, none⟩ ∧ ∀ W, Below w.heap.size w W → W.cell? ⟨b, off + k * 2, none⟩ = some (.int .i64 (elo es k)) ∧ W.cell? ⟨b, off + k * 2 + 1, none⟩ = some (.int .i64 (ehi es k)) := by
  obtain ⟨ad, rfl, hb, h1⟩ := h _ _ (ez_lo hk)
  obtain ⟨ad', e', _, h2⟩ := h _ _ (ez_hi hk)
  obtain rfl : ad = ad' := by injection e'
  obtain ⟨ad0, e0, _, h0⟩ := h _ _ (ez_lo (k := 0) (by omega))
  obtain rfl : ad = ad0 := by injection e0
  obtain ⟨b, off, rfl⟩ := plain_of h0
  rw [plain_add] at h1 h2
  rw [← Nat.add_assoc] at h2
  exact ⟨b, off, rfl, fun W hW => ⟨(hW.cell (p := ⟨b, off + k * 2, none⟩) hb).trans h1, (hW.cell (p := ⟨b, off + k * 2 + 1, none⟩) hb).trans h2⟩⟩

def copyToI (xs : List Int) (k : Nat) : List Int := xs.take k ++ List.replicate (xs.length - k) 0
theorem copyToI_zero (xs : List Int) : copyToI xs 0 = List.replicate xs.length 0 := by simp [copyToI]
theorem copyToI_all (xs : List Int) : copyToI xs xs.length = xs := by simp [copyToI]
theorem copyToI_length {xs : List Int} {k : Nat} (h : k ≤ xs.length) : (copyToI xs k).length = xs.length := by simp [copyToI]; omega
theorem copyToI_set {xs : List Int} {k : Nat} (h : k < xs.length) : (copyToI xs k).set k (iat xs k) = copyToI xs (k + 1) := by
  have e : xs.length - k = (xs.length - (k + 1)) + 1 := by omega
  unfold copyToI
  rw [e, List.replicate_succ, List.set_append, if_neg (by rw [List.length_take]; omega)]
  rw [show k - (xs.take k).length = 0 by rw [List.length_take]; omega, List.set_cons_zero]
  rw [List.take_succ_eq_append_getElem h, show xs[k] = iat xs k by simp [iat, h]]
  simp

def flat (es : List (Int × Int)) : List Int := es.flatMap fun e => [e.1, e.2]
theorem ez_flat (es : List (Int × Int)) : ez es = iz (flat es) := by
  induction es with
  | nil => rfl
  | cons e es ih => rw [ez_cons, ih]; simp [flat, iz]
theorem flat_length (es : List (Int × Int)) : (flat es).length = es.length * 2 := by
  rw [← iz_length, ← ez_flat, ez_length]

theorem Rd.pair {w : World} {A : Option Addr} {zs : List Int} {n : Nat} (h : Rd w A (iz zs)) (hz : zs.length = n * 2) {k : Nat} (hk : k < n) :
    ∃ b off, A = some ⟨b, off, none⟩ ∧ b < w.heap.size ∧ w.cell? ⟨b, off + k * 2, none⟩ = some (.int .i64 (iat zs (k * 2))) ∧ w.cell? ⟨b, off + k * 2 + 1, none⟩ = some (.int .i64 (iat zs (k * 2 + 1))) := by
  obtain ⟨ad, rfl, hb, h1⟩ := h _ _ (iz_iat (k := k * 2) (by omega))
  obtain ⟨ad', e', _, h2⟩ := h _ _ (iz_iat (k := k * 2 + 1) (by omega))
  obtain rfl : ad = ad' := by injection e'
  obtain ⟨ad0, e0, _, h0⟩ := h _ _ (iz_iat (k := 0) (by omega))
  obtain rfl : ad = ad0 := by injection e0
  obtain ⟨b, off, rfl⟩ := plain_of h0
  rw [plain_add] at h1 h2
  rw [← Nat.add_assoc] at h2
  exact ⟨b, off, rfl, hb, h1, h2⟩

end Go.Proofs.Ytlmlckgnmkjkdaa
