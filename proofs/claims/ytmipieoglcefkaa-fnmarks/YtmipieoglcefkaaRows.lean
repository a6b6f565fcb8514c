/-
  No cell of these rows narrows 'for every input' (looked for: loops, veiled, ifaces, maps, wideKeys, modest, calm, conditions, laid).
  DERIVED. THE GIVEN ROWS OF THIS SEAT. 7 by the template 'for every input the law returns true; each argument reads behind the call as it read before'; 0 by the template 'total and deterministic' (their statements: YtmipieoglcefkaaTotals.lean).
  GIVEN WITH THE SEED: the statements are not yours to turn. If you find one false, say at which input.
  Laid BY PROGRAM, IN A SANDBOX (cutbox-rows.mjs): the forced cells as the released guide's own fill.sh prints them over the translation a7eff1ae7a8b4bb5… (all of the seat's roots in one cut). By AI agents, Wed Nov 11 2026. No macro, syntax, notation, axiom, sorry.
-/
import Derived.Test.YtmipieoglcefkaaChecked
import GoSem.Claim
import GoSem.ClaimJoined
import GoSem.ClaimMapViews
import Derived.JoinedTies
import Derived.KernelRfl
namespace Go.Proofs.Ytmipieoglcefkaa
/- THE CELL 'sum', in the pinned program and in every row, IS THE sha256 OF THE DUMP (.gsa) THAT YtmipieoglcefkaaProg.lean LOADS. Nothing in Lean hashes anything: it is a label: what it is worth is what the hold of that sum in a sandbox is worth. -/
noncomputable def Try.pinned : Pinned := { name := "ytmipieoglcefkaa", sum := "a7eff1ae7a8b4bb53547f433429efc0685f28b5ebd1237949de7441b9872f78c", checked := Try.checked }
namespace Rows
def none {H : Type} : Left H := { results := [], args := [] }

/-- 'laws.FnMarks': WHATEVER THE INPUT: true; the input reads as it did. -/
def fnMarksSpec : ChangeSpec := { name := "fnMarks", fn := fun _ => fun
  | [d] => { results := [.lit (.bool true)], args := [d] }
  | _ => none }
def fnMarksRow : OpenClaim := { program := "ytmipieoglcefkaa", sum := "a7eff1ae7a8b4bb53547f433429efc0685f28b5ebd1237949de7441b9872f78c", func := "loop.example/g00699/laws.FnMarks", spec := "fnMarks", unfollowed := true, recurses := true, apart := false }
def FnMarksSaid : Prop := fnMarksRow.holds Try.pinned (OpenSpec.ofChange fnMarksSpec)

/-- ITS FALSE NEIGHBOUR: 'it returns false'. Refute it at one input. -/
def fnMarksWrong : ChangeSpec := { name := "fnMarks", fn := fun _ => fun
  | [d] => { results := [.lit (.bool false)], args := [d] }
  | _ => none }
def FnMarksWrongFalsely : Prop := fnMarksRow.holds Try.pinned (OpenSpec.ofChange fnMarksWrong)

/-- 'laws.FnExactMarksNew': WHATEVER THE INPUT: true; the input reads as it did. -/
def fnExactMarksNewSpec : ChangeSpec := { name := "fnExactMarksNew", fn := fun _ => fun
  | [d] => { results := [.lit (.bool true)], args := [d] }
  | _ => none }
def fnExactMarksNewRow : OpenClaim := { program := "ytmipieoglcefkaa", sum := "a7eff1ae7a8b4bb53547f433429efc0685f28b5ebd1237949de7441b9872f78c", func := "loop.example/g00699/laws.FnExactMarksNew", spec := "fnExactMarksNew", apart := false }
def FnExactMarksNewSaid : Prop := fnExactMarksNewRow.holds Try.pinned (OpenSpec.ofChange fnExactMarksNewSpec)

/-- ITS FALSE NEIGHBOUR: 'it returns false'. Refute it at one input. -/
def fnExactMarksNewWrong : ChangeSpec := { name := "fnExactMarksNew", fn := fun _ => fun
  | [d] => { results := [.lit (.bool false)], args := [d] }
  | _ => none }
def FnExactMarksNewWrongFalsely : Prop := fnExactMarksNewRow.holds Try.pinned (OpenSpec.ofChange fnExactMarksNewWrong)

/-- 'laws.FnExactMarksOk': WHATEVER THE INPUT: true; the input reads as it did. -/
def fnExactMarksOkSpec : ChangeSpec := { name := "fnExactMarksOk", fn := fun _ => fun
  | [d] => { results := [.lit (.bool true)], args := [d] }
  | _ => none }
def fnExactMarksOkRow : OpenClaim := { program := "ytmipieoglcefkaa", sum := "a7eff1ae7a8b4bb53547f433429efc0685f28b5ebd1237949de7441b9872f78c", func := "loop.example/g00699/laws.FnExactMarksOk", spec := "fnExactMarksOk", unfollowed := true, recurses := true, apart := false }
def FnExactMarksOkSaid : Prop := fnExactMarksOkRow.holds Try.pinned (OpenSpec.ofChange fnExactMarksOkSpec)

/-- ITS FALSE NEIGHBOUR: 'it returns false'. Refute it at one input. -/
def fnExactMarksOkWrong : ChangeSpec := { name := "fnExactMarksOk", fn := fun _ => fun
  | [d] => { results := [.lit (.bool false)], args := [d] }
  | _ => none }
def FnExactMarksOkWrongFalsely : Prop := fnExactMarksOkRow.holds Try.pinned (OpenSpec.ofChange fnExactMarksOkWrong)

/-- 'laws.FnExactMarkSet': WHATEVER THE INPUT: true; the input reads as it did. -/
def fnExactMarkSetSpec : ChangeSpec := { name := "fnExactMarkSet", fn := fun _ => fun
  | [d1, d2, d3] => { results := [.lit (.bool true)], args := [d1, d2, d3] }
  | _ => none }
def fnExactMarkSetRow : OpenClaim := { program := "ytmipieoglcefkaa", sum := "a7eff1ae7a8b4bb53547f433429efc0685f28b5ebd1237949de7441b9872f78c", func := "loop.example/g00699/laws.FnExactMarkSet", spec := "fnExactMarkSet", unfollowed := true, recurses := true, apart := false }
def FnExactMarkSetSaid : Prop := fnExactMarkSetRow.holds Try.pinned (OpenSpec.ofChange fnExactMarkSetSpec)

/-- ITS FALSE NEIGHBOUR: 'it returns false'. Refute it at one input. -/
def fnExactMarkSetWrong : ChangeSpec := { name := "fnExactMarkSet", fn := fun _ => fun
  | [d1, d2, d3] => { results := [.lit (.bool false)], args := [d1, d2, d3] }
  | _ => none }
def FnExactMarkSetWrongFalsely : Prop := fnExactMarkSetRow.holds Try.pinned (OpenSpec.ofChange fnExactMarkSetWrong)

/-- 'laws.FnExactMarkIdle': WHATEVER THE INPUT: true; the input reads as it did. -/
def fnExactMarkIdleSpec : ChangeSpec := { name := "fnExactMarkIdle", fn := fun _ => fun
  | [d1, d2, d3] => { results := [.lit (.bool true)], args := [d1, d2, d3] }
  | _ => none }
def fnExactMarkIdleRow : OpenClaim := { program := "ytmipieoglcefkaa", sum := "a7eff1ae7a8b4bb53547f433429efc0685f28b5ebd1237949de7441b9872f78c", func := "loop.example/g00699/laws.FnExactMarkIdle", spec := "fnExactMarkIdle", unfollowed := true, recurses := true, apart := false }
def FnExactMarkIdleSaid : Prop := fnExactMarkIdleRow.holds Try.pinned (OpenSpec.ofChange fnExactMarkIdleSpec)

/-- ITS FALSE NEIGHBOUR: 'it returns false'. Refute it at one input. -/
def fnExactMarkIdleWrong : ChangeSpec := { name := "fnExactMarkIdle", fn := fun _ => fun
  | [d1, d2, d3] => { results := [.lit (.bool false)], args := [d1, d2, d3] }
  | _ => none }
def FnExactMarkIdleWrongFalsely : Prop := fnExactMarkIdleRow.holds Try.pinned (OpenSpec.ofChange fnExactMarkIdleWrong)

/-- 'laws.FnExactMarksLeast': WHATEVER THE INPUT: true; the input reads as it did. -/
def fnExactMarksLeastSpec : ChangeSpec := { name := "fnExactMarksLeast", fn := fun _ => fun
  | [d] => { results := [.lit (.bool true)], args := [d] }
  | _ => none }
def fnExactMarksLeastRow : OpenClaim := { program := "ytmipieoglcefkaa", sum := "a7eff1ae7a8b4bb53547f433429efc0685f28b5ebd1237949de7441b9872f78c", func := "loop.example/g00699/laws.FnExactMarksLeast", spec := "fnExactMarksLeast", unfollowed := true, recurses := true, apart := false }
def FnExactMarksLeastSaid : Prop := fnExactMarksLeastRow.holds Try.pinned (OpenSpec.ofChange fnExactMarksLeastSpec)

/-- ITS FALSE NEIGHBOUR: 'it returns false'. Refute it at one input. -/
def fnExactMarksLeastWrong : ChangeSpec := { name := "fnExactMarksLeast", fn := fun _ => fun
  | [d] => { results := [.lit (.bool false)], args := [d] }
  | _ => none }
def FnExactMarksLeastWrongFalsely : Prop := fnExactMarksLeastRow.holds Try.pinned (OpenSpec.ofChange fnExactMarksLeastWrong)

/-- 'laws.FnExactMarksLate': WHATEVER THE INPUT: true; the input reads as it did. -/
def fnExactMarksLateSpec : ChangeSpec := { name := "fnExactMarksLate", fn := fun _ => fun
  | [d1, d2] => { results := [.lit (.bool true)], args := [d1, d2] }
  | _ => none }
def fnExactMarksLateRow : OpenClaim := { program := "ytmipieoglcefkaa", sum := "a7eff1ae7a8b4bb53547f433429efc0685f28b5ebd1237949de7441b9872f78c", func := "loop.example/g00699/laws.FnExactMarksLate", spec := "fnExactMarksLate", unfollowed := true, recurses := true, apart := false }
def FnExactMarksLateSaid : Prop := fnExactMarksLateRow.holds Try.pinned (OpenSpec.ofChange fnExactMarksLateSpec)

/-- ITS FALSE NEIGHBOUR: 'it returns false'. Refute it at one input. -/
def fnExactMarksLateWrong : ChangeSpec := { name := "fnExactMarksLate", fn := fun _ => fun
  | [d1, d2] => { results := [.lit (.bool false)], args := [d1, d2] }
  | _ => none }
def FnExactMarksLateWrongFalsely : Prop := fnExactMarksLateRow.holds Try.pinned (OpenSpec.ofChange fnExactMarksLateWrong)

/- THE SECOND FORM. 'bulk': how many values and letters a reading holds, each counted each time it is reached (what is shared counts as often as it is met; a slice's spare places count too). A statement '..UptoSaid' is the law's where the arguments, and the package variables that the reading takes, are together of bulk at most 1048576: NARROWER than '..Said'. Prove '..Said' where nothing that the law and all that it calls make is longer than what came in: it says more and counts as full. Else prove '..UptoSaid'. A law counts once. -/
mutual
def uptoBulk {H : Type} : DataW H → Nat
  | .lit (.string bytes) => bytes.length + 1
  | .lit _ => 1
  | .nil => 1
  | .ptr d => uptoBulk d + 1
  | .slice elems spare => uptoBulkAll elems + uptoBulkAll spare + 1
  | .agg parts => uptoBulkAll parts + 1
  | .iface _ d => uptoBulk d + 1
  | .map entries => uptoBulkEntries entries + 1
  | .held _ => 1
def uptoBulkAll {H : Type} : List (DataW H) → Nat
  | [] => 0
  | d :: r => uptoBulk d + uptoBulkAll r
def uptoBulkEntries {H : Type} : List (Lit × DataW H) → Nat
  | [] => 0
  | x :: r => uptoBulkEntry x + uptoBulkEntries r
def uptoBulkEntry {H : Type} : Lit × DataW H → Nat
  | (.string bytes, d) => bytes.length + uptoBulk d + 1
  | (_, d) => uptoBulk d + 1
 end
def uptoSmall : (H : Type) → List (DataW H) → Bool := fun _ ds => decide (uptoBulkAll ds ≤ 1048576)
def OpenSpec.upto (s : _root_.Go.ChangeSpec) : _root_.Go.OpenSpec := { _root_.Go.OpenSpec.ofChange s with cond := some uptoSmall }

/-- 'laws.FnMarks', WHERE WHAT IT READS IS OF BULK AT MOST 1048576: true; the input reads as it did. -/
def fnMarksUptoRow : OpenClaim := { program := "ytmipieoglcefkaa", sum := "a7eff1ae7a8b4bb53547f433429efc0685f28b5ebd1237949de7441b9872f78c", func := "loop.example/g00699/laws.FnMarks", spec := "fnMarks", unfollowed := true, recurses := true, apart := false, narrowed := true }
def FnMarksUptoSaid : Prop := fnMarksUptoRow.holds Try.pinned (OpenSpec.upto fnMarksSpec)

/-- 'laws.FnExactMarksNew', WHERE WHAT IT READS IS OF BULK AT MOST 1048576: true; the input reads as it did. -/
def fnExactMarksNewUptoRow : OpenClaim := { program := "ytmipieoglcefkaa", sum := "a7eff1ae7a8b4bb53547f433429efc0685f28b5ebd1237949de7441b9872f78c", func := "loop.example/g00699/laws.FnExactMarksNew", spec := "fnExactMarksNew", apart := false, narrowed := true }
def FnExactMarksNewUptoSaid : Prop := fnExactMarksNewUptoRow.holds Try.pinned (OpenSpec.upto fnExactMarksNewSpec)

/-- 'laws.FnExactMarksOk', WHERE WHAT IT READS IS OF BULK AT MOST 1048576: true; the input reads as it did. -/
def fnExactMarksOkUptoRow : OpenClaim := { program := "ytmipieoglcefkaa", sum := "a7eff1ae7a8b4bb53547f433429efc0685f28b5ebd1237949de7441b9872f78c", func := "loop.example/g00699/laws.FnExactMarksOk", spec := "fnExactMarksOk", unfollowed := true, recurses := true, apart := false, narrowed := true }
def FnExactMarksOkUptoSaid : Prop := fnExactMarksOkUptoRow.holds Try.pinned (OpenSpec.upto fnExactMarksOkSpec)

/-- 'laws.FnExactMarkSet', WHERE WHAT IT READS IS OF BULK AT MOST 1048576: true; the input reads as it did. -/
def fnExactMarkSetUptoRow : OpenClaim := { program := "ytmipieoglcefkaa", sum := "a7eff1ae7a8b4bb53547f433429efc0685f28b5ebd1237949de7441b9872f78c", func := "loop.example/g00699/laws.FnExactMarkSet", spec := "fnExactMarkSet", unfollowed := true, recurses := true, apart := false, narrowed := true }
def FnExactMarkSetUptoSaid : Prop := fnExactMarkSetUptoRow.holds Try.pinned (OpenSpec.upto fnExactMarkSetSpec)

/-- 'laws.FnExactMarkIdle', WHERE WHAT IT READS IS OF BULK AT MOST 1048576: true; the input reads as it did. -/
def fnExactMarkIdleUptoRow : OpenClaim := { program := "ytmipieoglcefkaa", sum := "a7eff1ae7a8b4bb53547f433429efc0685f28b5ebd1237949de7441b9872f78c", func := "loop.example/g00699/laws.FnExactMarkIdle", spec := "fnExactMarkIdle", unfollowed := true, recurses := true, apart := false, narrowed := true }
def FnExactMarkIdleUptoSaid : Prop := fnExactMarkIdleUptoRow.holds Try.pinned (OpenSpec.upto fnExactMarkIdleSpec)

/-- 'laws.FnExactMarksLeast', WHERE WHAT IT READS IS OF BULK AT MOST 1048576: true; the input reads as it did. -/
def fnExactMarksLeastUptoRow : OpenClaim := { program := "ytmipieoglcefkaa", sum := "a7eff1ae7a8b4bb53547f433429efc0685f28b5ebd1237949de7441b9872f78c", func := "loop.example/g00699/laws.FnExactMarksLeast", spec := "fnExactMarksLeast", unfollowed := true, recurses := true, apart := false, narrowed := true }
def FnExactMarksLeastUptoSaid : Prop := fnExactMarksLeastUptoRow.holds Try.pinned (OpenSpec.upto fnExactMarksLeastSpec)

/-- 'laws.FnExactMarksLate', WHERE WHAT IT READS IS OF BULK AT MOST 1048576: true; the input reads as it did. -/
def fnExactMarksLateUptoRow : OpenClaim := { program := "ytmipieoglcefkaa", sum := "a7eff1ae7a8b4bb53547f433429efc0685f28b5ebd1237949de7441b9872f78c", func := "loop.example/g00699/laws.FnExactMarksLate", spec := "fnExactMarksLate", unfollowed := true, recurses := true, apart := false, narrowed := true }
def FnExactMarksLateUptoSaid : Prop := fnExactMarksLateUptoRow.holds Try.pinned (OpenSpec.upto fnExactMarksLateSpec)

end Rows
end Go.Proofs.Ytmipieoglcefkaa
