/-
  A region that draws its order and holds a call whose answer lies somewhere new: the operations up to that call are taken by hand (wpAnyH_take, wpAnyH_ready); what is left is one walk in the order of the text.
-/
import Derived.Test.YtlmlckgnmkjkdaaBase
import Derived.Deep.RegionHeld3
namespace Go.Proofs.Ytlmlckgnmkjkdaa
open Go.RowKit

section
variable {P : Program} {ops : Array Oper} {md : Region.Mode} {C S : World → Prop}
theorem wpAnyH_of_quiet {Q : Act → Prop} {Q' : Exit → Act → World → Prop} (hQ : ∀ a w, C w → Q a → Q' .normal a w) (hS : ∀ w, C w → S w) : ∀ (fuel : Nat) (listed : Array Bool) (a : Act) (w : World), C w →
    wpAnyQ P md ops C Q fuel listed a → wpAnyH P md ops Q' S fuel listed a w
  | 0, _, _, _, hw, h => ⟨h.1, hQ _ _ hw h.2⟩
  | fuel + 1, _, _, _, hw, h => ⟨fun h0 => hQ _ _ hw (h.1 h0), fun i hi => wpOp_of_qOp hw (fun a' w' hw' hq => ⟨hS _ hw', wpAnyH_of_quiet hQ hS fuel _ a' w' hw' hq⟩) (h.2 i hi)⟩

/-- What is left from operation k on, in the order of the text. -/
theorem wpAnyH_rest {Q' : Exit → Act → World → Prop} {l : List Oper} {fuel : Nat} {listed : Array Bool} {a : Act} {w : World} (k : Nat) (hsel : Region.noSelect l.toArray = true) (hf : fuel = (l.drop k).length)
    (hlex : Region.lexFrom md l.toArray (l.drop k).length k listed = true) (hw : C w) (hS : ∀ w, C w → S w) (h : wpQuiet P l.toArray C (fun a' => ∀ w', C w' → Q' .normal a' w') (l.drop k) a) : wpAnyH P md l.toArray Q' S fuel listed a w := by
  subst hf
  exact wpAnyH_of_quiet (fun _ w' hw' h => h w' hw') hS _ _ _ _ hw (wpAnyQ_lex hsel _ k _ _ (fun j => by simp [List.getElem?_drop]) hlex h)
end
end Go.Proofs.Ytlmlckgnmkjkdaa
