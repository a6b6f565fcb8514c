/-
  DERIVED. GIVEN WITH THE SEED: THE CARDS: each row of YtmkfmohahfaemaaDoorRows.lean that lists a variable, with what it lists TIED to the program's text (the seventh form; the later family's looks); each row that meets fmt, with fmt's text TOLD by the authors' own Lean function (tested against real Go, not proved from fmt's source: count such statements apart). THE CARD IS WHAT COUNTS. Prove the row's statement (the work); the ties are given (YtmkfmohahfaemaaDoorTie.lean); close each card by the builder's one call (the guide's Derived/Test/ToyasCard.lean, 'card_holds'). Laid BY PROGRAM, IN A SANDBOX (cutbox-door.mjs). By AI agents, Wed Nov 11 2026. No macro, syntax, notation, axiom, sorry.
-/
import Derived.Test.YtmkfmohahfaemaaDoorRows
import GoSem.ClaimSeven
namespace Go.Proofs.YtmkfmohahfaemaaDoor
namespace Rows

/-- THE TIED CARD OF 'laws.FnExprTwice'. -/
def fnExprTwiceCard : Claim7 := { stood := { row := fnExprTwiceRow, standIns := [], harness := (true, "d74bc9c798cb25c107acf637c3736920503bd6e57f9f03103be003852fdd4b1c"), looks := true }, kinds := [], alts := [], laidByText := true, laidKinds := [.sentinel, .sentinel], laidTests := true, laidLooks := .later }
def FnExprTwiceCardSaid : Prop := Claim7.holds Tryd.pinned (.plain (OpenSpec.ofChange fnExprTwiceSpec)) fnExprTwiceCard

/-- THE TIED CARD OF 'laws.FnExactExprRun'. -/
def fnExactExprRunCard : Claim7 := { stood := { row := fnExactExprRunRow, standIns := [], harness := (true, "d74bc9c798cb25c107acf637c3736920503bd6e57f9f03103be003852fdd4b1c"), looks := true }, kinds := [], alts := [], laidByText := true, laidKinds := [.sentinel, .sentinel], laidTests := true, laidLooks := .later }
def FnExactExprRunCardSaid : Prop := Claim7.holds Tryd.pinned (.plain (OpenSpec.ofChange fnExactExprRunSpec)) fnExactExprRunCard

/-- THE TIED CARD OF 'laws.FnExactExprText'. -/
def fnExactExprTextCard : Claim7 := { stood := { row := fnExactExprTextRow, standIns := [], harness := (true, "d74bc9c798cb25c107acf637c3736920503bd6e57f9f03103be003852fdd4b1c"), looks := true }, kinds := [], alts := [], laidByText := true, laidKinds := [.data, .data, .data, .data], laidTests := true, laidLooks := .later }
def FnExactExprTextCardSaid : Prop := Claim7.holds Tryd.pinned (.plain (OpenSpec.ofChange fnExactExprTextSpec)) fnExactExprTextCard

/-- THE TIED CARD OF 'laws.FnExactExprRead'. -/
def fnExactExprReadCard : Claim7 := { stood := { row := fnExactExprReadRow, standIns := [], harness := (true, "d74bc9c798cb25c107acf637c3736920503bd6e57f9f03103be003852fdd4b1c"), looks := true }, kinds := [], alts := [], laidByText := true, laidKinds := [.data, .data, .data, .data, .sentinel, .sentinel, .data, .pinned], laidTests := true, laidLooks := .later }
def FnExactExprReadCardSaid : Prop := Claim7.holds Tryd.pinned (.plain (OpenSpec.ofChange fnExactExprReadSpec)) fnExactExprReadCard

/-- THE SECOND FORM's CARD OF 'laws.FnExprTwice'. -/
def fnExprTwiceUptoCard : Claim7 := { stood := { row := fnExprTwiceUptoRow, standIns := [], harness := (true, "d74bc9c798cb25c107acf637c3736920503bd6e57f9f03103be003852fdd4b1c"), looks := true }, kinds := [], alts := [], laidByText := true, laidKinds := [.sentinel, .sentinel], laidTests := true, laidLooks := .later }
def FnExprTwiceUptoCardSaid : Prop := Claim7.holds Tryd.pinned (.plain (OpenSpec.upto fnExprTwiceSpec)) fnExprTwiceUptoCard

/-- THE SECOND FORM's CARD OF 'laws.FnExactExprRun'. -/
def fnExactExprRunUptoCard : Claim7 := { stood := { row := fnExactExprRunUptoRow, standIns := [], harness := (true, "d74bc9c798cb25c107acf637c3736920503bd6e57f9f03103be003852fdd4b1c"), looks := true }, kinds := [], alts := [], laidByText := true, laidKinds := [.sentinel, .sentinel], laidTests := true, laidLooks := .later }
def FnExactExprRunUptoCardSaid : Prop := Claim7.holds Tryd.pinned (.plain (OpenSpec.upto fnExactExprRunSpec)) fnExactExprRunUptoCard

/-- THE SECOND FORM's CARD OF 'laws.FnExactExprText'. -/
def fnExactExprTextUptoCard : Claim7 := { stood := { row := fnExactExprTextUptoRow, standIns := [], harness := (true, "d74bc9c798cb25c107acf637c3736920503bd6e57f9f03103be003852fdd4b1c"), looks := true }, kinds := [], alts := [], laidByText := true, laidKinds := [.data, .data, .data, .data], laidTests := true, laidLooks := .later }
def FnExactExprTextUptoCardSaid : Prop := Claim7.holds Tryd.pinned (.plain (OpenSpec.upto fnExactExprTextSpec)) fnExactExprTextUptoCard

/-- THE SECOND FORM's CARD OF 'laws.FnExactExprRead'. -/
def fnExactExprReadUptoCard : Claim7 := { stood := { row := fnExactExprReadUptoRow, standIns := [], harness := (true, "d74bc9c798cb25c107acf637c3736920503bd6e57f9f03103be003852fdd4b1c"), looks := true }, kinds := [], alts := [], laidByText := true, laidKinds := [.data, .data, .data, .data, .sentinel, .sentinel, .data, .pinned], laidTests := true, laidLooks := .later }
def FnExactExprReadUptoCardSaid : Prop := Claim7.holds Tryd.pinned (.plain (OpenSpec.upto fnExactExprReadSpec)) fnExactExprReadUptoCard
end Rows
end Go.Proofs.YtmkfmohahfaemaaDoor
