/-
  For the law of watermarks: variables of marks, and what a change keeps.
-/
import Derived.Test.YtmipieoglcefkaaMarkSetT
import Derived.Test.YtmipieoglcefkaaMarkSetK
import Derived.Test.YtmipieoglcefkaaMarkOk
import Derived.Test.YtmipieoglcefkaaPickV
namespace Go.Proofs.Ytmipieoglcefkaa
open Go.RowKit

/-- a variable of marks in block X -/
structure BX (w W : World) (X : Nat) (G : Int) (v : Value) (rs : List Mk) : Prop where
  hX : w.heap.size ≤ X
  own : Own W X 26 [.int .i64 G, v]
  row : W.ownsRow w.heap.size 36 2 v rs.length (mz rs)
section
variable {w W W' : World} {X D : Nat} {G : Int} {v : Value} {rs : List Mk}
theorem BX.grow (h : BX w W X G v rs) (hb : Below W.heap.size W W') : BX w W' X G v rs := ⟨h.hX, h.own.grow hb, owns_grow h.row hb⟩
theorem BX.other (h : BX w W X G v rs) {cs : List Value} (hD : Own W D 26 cs) (hne : D ≠ X) {j : Nat} (u : Value) : BX w (W.setCell ⟨D, j, none⟩ u) X G v rs := by
  have hO : W.grownBy (W.setCell ⟨D, j, none⟩ u) (some D) := only_set (World.grownBy.refl _ _)
  exact ⟨h.hX, own_kept h.own hO (by simp; omega), owns_far h.row hO (types_farS hD (by decide) h.row)⟩
theorem BX.other2 (h : BX w W X G v rs) {cs : List Value} (hD : Own W D 26 cs) (hne : D ≠ X) (u0 u1 : Value) : BX w ((W.setCell ⟨D, 0, none⟩ u0).setCell ⟨D, 1, none⟩ u1) X G v rs :=
  (h.other hD hne u0).other (hD.set 0 u0) hne u1
theorem bx_put {cs : List Value} {u0 u1 : Value} (hX : w.heap.size ≤ X) (h : Own W X 26 cs) (hcs : cs = [u0, u1]) (hr : W.ownsRow w.heap.size 36 2 v rs.length (mz rs)) : BX w ((W.setCell ⟨X, 0, none⟩ (.int .i64 G)).setCell ⟨X, 1, none⟩ v) X G v rs := by
  subst hcs
  exact ⟨hX, (h.set 0 _).set 1 _, owns_far hr (only_set (only_set (World.grownBy.refl _ _))) (types_farS h (by decide) hr)⟩
theorem bx_new (hw : w.heap.size ≤ W.heap.size) (hr : W.ownsRow w.heap.size 36 2 v rs.length (mz rs)) : BX w (W.alloc (.cells #[.int .i64 G, v] 26)) W.heap.size G v rs :=
  ⟨hw, Own.new W _ [_, _], owns_grow hr (below_alloc _ _)⟩
end
theorem rd_row {w : World} {base n c s : Nat} {e : TypeId} {A : Option Addr} {cs : List Value} (h : w.ownsRow base e s (.slice A n c) n cs) : Rd w A cs := by
  obtain ⟨A', c', e', h'⟩ := owns_rd h
  cases e'
  exact h'

/-- what a change that went well keeps -/
def Good (G : Int) (ms : List Mk) (S : Nat) (M : Int) (rs : List Mk) : Prop := S < ms.length ∧ rs.length = ms.length ∧ marksOk M rs ∧ G ≤ M ∧ leastOf rs ≤ M ∧ (mat ms S).1 ≤ (mat rs S).1
theorem withM_good {G : Int} {ms : List Mk} {S : Nat} {x : Int} {d : Bool} (h : marksOk G ms) (hS : S < ms.length) (hx : isT x) (hge : (mat ms S).1 ≤ x) : Good G ms S (withM G ms S (x, d)).1 (withM G ms S (x, d)).2 := by
  refine ⟨hS, List.length_set .., withM_ok h hx hge, ?_, ?_, ?_⟩
  · show G ≤ max G _; omega
  · show _ ≤ max G _; exact Int.le_max_right _ _
  · show _ ≤ (mat (ms.set S (x, d)) S).1
    rw [mat_set hS, if_pos rfl]; exact hge
theorem setG_good {G : Int} {ms : List Mk} {S : Nat} {x : Int} (h : (setG G ms S x).2.2 = 0) : Good G ms S (setG G ms S x).1 (setG G ms S x).2.1 := by
  by_cases h1 : hasSrc G ms S ∧ isT x
  · by_cases h2 : x < (mat ms ((S : Int).toNat)).1
    · rw [setG_back h1 h2] at h; cases h
    · rw [setG_fine h1 h2]
      rw [Int.toNat_natCast] at h2 ⊢
      exact withM_good h1.1.1 (by have := h1.1.2.2; omega) h1.2 (by omega)
  · rw [setG_form h1] at h; cases h
theorem idleG_good {G : Int} {ms : List Mk} {S : Nat} {i : Bool} (h : (idleG G ms S i).2.2 = 0) : Good G ms S (idleG G ms S i).1 (idleG G ms S i).2.1 := by
  by_cases h1 : hasSrc G ms S
  · rw [idleG_fine h1, Int.toNat_natCast]
    have h3 := h1.2.2
    exact withM_good h1.1 (by omega) (h1.1.2.2.2.1 S (by omega)) (Int.le_refl _)
  · rw [idleG_form h1] at h; cases h
end Go.Proofs.Ytmipieoglcefkaa
