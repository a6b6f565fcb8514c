/-
  DERIVED. GIVEN WITH THE SEED: THE CARDS: each row of YtkhboanlccfajaaDoorRows.lean that lists a variable, with what it lists TIED to the program's text (the seventh form; the later family's looks); each row that meets fmt, with fmt's text TOLD by the authors' own Lean function (tested against real Go, not proved from fmt's source: count such statements apart). THE CARD IS WHAT COUNTS. Prove the row's statement (the work); the ties are given (YtkhboanlccfajaaDoorTie.lean); close each card by the builder's one call (the guide's Derived/Test/ToyasCard.lean, 'card_holds'). Laid BY PROGRAM, IN A SANDBOX (cutbox-door.mjs). By AI agents, Wed Nov 11 2026. No macro, syntax, notation, axiom, sorry.
-/
import Derived.Test.YtkhboanlccfajaaDoorRows
import GoSem.ClaimSeven
namespace Go.Proofs.YtkhboanlccfajaaDoor
namespace Rows

/-- THE TIED CARD OF 'laws.FnWide'. -/
def fnWideCard : Claim7 := { stood := { row := fnWideRow, standIns := [], harness := (true, "d238e3033068d4284a96ceeaed8624febdb7a94d3237554a396a9f5d967e5301"), looks := false }, kinds := [], alts := [], laidByText := true, laidKinds := [.data, .pinned], laidTests := true, laidLooks := .later }
def FnWideCardSaid : Prop := Claim7.holds Tryd.pinned (.plain (OpenSpec.ofChange fnWideSpec)) fnWideCard

/-- THE TIED CARD OF 'laws.FnExactWideText'. -/
def fnExactWideTextCard : Claim7 := { stood := { row := fnExactWideTextRow, standIns := [], harness := (true, "d238e3033068d4284a96ceeaed8624febdb7a94d3237554a396a9f5d967e5301"), looks := false }, kinds := [], alts := [], laidByText := true, laidKinds := [.data, .pinned], laidTests := true, laidLooks := .later }
def FnExactWideTextCardSaid : Prop := Claim7.holds Tryd.pinned (.plain (OpenSpec.ofChange fnExactWideTextSpec)) fnExactWideTextCard

/-- THE SECOND FORM's CARD OF 'laws.FnWide'. -/
def fnWideUptoCard : Claim7 := { stood := { row := fnWideUptoRow, standIns := [], harness := (true, "d238e3033068d4284a96ceeaed8624febdb7a94d3237554a396a9f5d967e5301"), looks := false }, kinds := [], alts := [], laidByText := true, laidKinds := [.data, .pinned], laidTests := true, laidLooks := .later }
def FnWideUptoCardSaid : Prop := Claim7.holds Tryd.pinned (.plain (OpenSpec.upto fnWideSpec)) fnWideUptoCard

/-- THE SECOND FORM's CARD OF 'laws.FnExactWideText'. -/
def fnExactWideTextUptoCard : Claim7 := { stood := { row := fnExactWideTextUptoRow, standIns := [], harness := (true, "d238e3033068d4284a96ceeaed8624febdb7a94d3237554a396a9f5d967e5301"), looks := false }, kinds := [], alts := [], laidByText := true, laidKinds := [.data, .pinned], laidTests := true, laidLooks := .later }
def FnExactWideTextUptoCardSaid : Prop := Claim7.holds Tryd.pinned (.plain (OpenSpec.upto fnExactWideTextSpec)) fnExactWideTextUptoCard
end Rows
end Go.Proofs.YtkhboanlccfajaaDoor
