/-
  What FnLatBounds says of joins and meets.
-/
import Derived.Test.YtandibofnpndlaaNamedMath
namespace Go.Proofs.Ytandibofnpndlaa
open Go.RowKit

section
variable {N : Int} {xs : List Nat}
theorem leV_le (h : LatP N xs) {a b : Nat} (ha : a < xs.length) (hb : b < xs.length) : leV N xs a b = le xs a b := (leV_yes h ha hb).symm
/-- the facts of a join j and a meet m of a and b, and of any label c -/
theorem bounds_of (h : LatP N xs) {a b j m : Nat} (ha : a < xs.length) (hb : b < xs.length) (hj : j < xs.length) (hm : m < xs.length) (hJ : isB xs true a b j = true) (hM : isB xs false a b m = true) :
    le xs a j = true ∧ le xs b j = true ∧ (∀ c, c < xs.length → le xs j c = (le xs a c && le xs b c)) ∧ (∀ c, c < xs.length → le xs c m = (le xs c a && le xs c b)) ∧ (le xs a b = true ↔ j = b) ∧ (m = a ↔ j = b) := by
  obtain ⟨⟨j1, j2⟩, j3⟩ := isB_iff.1 hJ
  obtain ⟨⟨m1, m2⟩, m3⟩ := isB_iff.1 hM
  simp only [side, if_true, Bool.false_eq_true, if_false] at j1 j2 j3 m1 m2 m3
  have hab : le xs a b = true ↔ j = b := ⟨fun e => h.anti hj hb (j3 b hb e (h.refl_ hb)) j2, fun e => e ▸ j1⟩
  have hma : le xs a b = true ↔ m = a := ⟨fun e => h.anti hm ha m1 (m3 a ha (h.refl_ ha) e), fun e => e ▸ m2⟩
  refine ⟨j1, j2, fun c hc => ?_, fun c hc => ?_, hab, hma.symm.trans hab⟩
  · rw [Bool.eq_iff_iff, Bool.and_eq_true]
    exact ⟨fun e => ⟨h.trans_ ha hj hc j1 e, h.trans_ hb hj hc j2 e⟩, fun e => j3 c hc e.1 e.2⟩
  · rw [Bool.eq_iff_iff, Bool.and_eq_true]
    exact ⟨fun e => ⟨h.trans_ hc hm ha e m1, h.trans_ hc hm hb e m2⟩, fun e => m3 c hc e.1 e.2⟩
end

end Go.Proofs.Ytandibofnpndlaa
