/-
  What PolicySet and PolicyDrop return, as rows of their own.
-/
import Derived.Test.YtipcjofmplpffaaPolicySetS
import Derived.Test.YtipcjofmplpffaaLawPunctOk
import Derived.Test.YtipcjofmplpffaaLawKitC
namespace Go.Proofs.Ytipcjofmplpffaa
open Go.RowKit

theorem Own.ownsS {w : World} {g base n s : Nat} {t : TypeId} {cs : List Value} (h : Own w g t cs) (hb : base ≤ g) (hn : cs.length = n * s) (hm : n ≤ 1048576) : w.ownsRow base t s (.slice (some ⟨g, 0, none⟩) n n) n cs := by
  refine ⟨hn, .inr ⟨g, n, cs.toArray, rfl, hb, h, Nat.le_refl _, by unfold maxLen; omega, by simp [hn], ?_⟩⟩
  simp [← hn]
theorem toPunctS_at (A : Option Addr) (n ca : Nat) (zs : List Int) (w : World) (hA : Rd w A (iz zs)) (hz : zs.length = n * 4) (hn : n ≤ 1048576) :
    Calls Try.prog 32 #[.slice A n ca] w fun e w' => ∃ g, e = .returned (.slice (some ⟨g, 0, none⟩) n n) ∧ RowAt w.heap.size w'.heap.size w' 29 4 (.slice (some ⟨g, 0, none⟩) n n) n (iz zs) ∧ Below w.heap.size w w' :=
  (toPunctS_any A n ca zs w hA hz hn).mono fun _ _ ⟨g, he, hg, hown, hb⟩ => ⟨g, he, RowAt.of (hown.ownsS hg (by rw [iz_length, hz]) hn), hb⟩
def ResAt (m : Nat) (zs : List Int) (T : Bool) (W : World) (e : Ending) (w' : World) : Prop :=
  ∃ A0 c0, e = .returned (.tuple #[.slice A0 m c0, .bool T]) ∧ RowAt W.heap.size w'.heap.size w' 29 4 (.slice A0 m c0) m (iz zs) ∧ Below W.heap.size W w'
theorem res_at {f : FuncId} {args : Array Value} {W : World} {rs : List Pn} {ok : Bool} (h : Calls Try.prog f args W (PolRes W rs ok)) : Calls Try.prog f args W (ResAt rs.length (qz rs) ok W) :=
  h.mono fun e w' ⟨v, he, hr, hb⟩ => by
    have hr' := RowAt.of hr
    obtain ⟨A0, c0, rfl, _⟩ := hr'.rd
    exact ⟨A0, c0, he, hr', hb⟩
theorem setV_len (N : Int) (xs : List Nat) (ps : List Pn) (p : Pn) : (setV N xs ps p).length ≤ 13 := by
  by_cases h : setOk N xs ps p
  · rw [setV_yes h, set_length]
    have := without_length ps p
    have := h.1.2.1
    omega
  · rw [setV_no h]; simp
theorem dropV_len (N : Int) (xs : List Nat) (ps : List Pn) (p : Pn) : (dropV N xs ps p).length ≤ 13 := by
  by_cases h : dropOk N xs ps p
  · rw [dropV_yes h]
    have := without_length ps p
    have := h.1.2.1
    omega
  · rw [dropV_no h]; simp
end Go.Proofs.Ytipcjofmplpffaa
