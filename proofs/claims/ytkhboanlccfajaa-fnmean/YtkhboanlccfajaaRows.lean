/-
  No cell of these rows narrows 'for every input' (looked for: loops, veiled, ifaces, maps, wideKeys, modest, calm, conditions, laid).
  DERIVED. THE GIVEN ROWS OF THIS SEAT. 9 by the template 'for every input the law returns true; each argument reads behind the call as it read before'; 0 by the template 'total and deterministic' (their statements: YtkhboanlccfajaaTotals.lean).
  GIVEN WITH THE SEED: the statements are not yours to turn. If you find one false, say at which input.
  Laid BY PROGRAM, IN A SANDBOX (cutbox-rows.mjs): the forced cells as the released guide's own fill.sh prints them over the translation 27c4dad50d2e5dfe… (all of the seat's roots in one cut). By AI agents, Wed Nov 11 2026. No macro, syntax, notation, axiom, sorry.
-/
import Derived.Test.YtkhboanlccfajaaChecked
import GoSem.Claim
import GoSem.ClaimJoined
import GoSem.ClaimMapViews
import Derived.JoinedTies
import Derived.KernelRfl
namespace Go.Proofs.Ytkhboanlccfajaa
/- THE CELL 'sum', in the pinned program and in every row, IS THE sha256 OF THE DUMP (.gsa) THAT YtkhboanlccfajaaProg.lean LOADS. Nothing in Lean hashes anything: it is a label: what it is worth is what the hold of that sum in a sandbox is worth. -/
noncomputable def Try.pinned : Pinned := { name := "ytkhboanlccfajaa", sum := "27c4dad50d2e5dfebaa473838d35ab3443641ddb39264ce3b30d0ecce94237ce", checked := Try.checked }
namespace Rows
def none {H : Type} : Left H := { results := [], args := [] }

/-- 'laws.FnLatEdges': WHATEVER THE INPUT: true; the input reads as it did. -/
def fnLatEdgesSpec : ChangeSpec := { name := "fnLatEdges", fn := fun _ => fun
  | [d] => { results := [.lit (.bool true)], args := [d] }
  | _ => none }
def fnLatEdgesRow : OpenClaim := { program := "ytkhboanlccfajaa", sum := "27c4dad50d2e5dfebaa473838d35ab3443641ddb39264ce3b30d0ecce94237ce", func := "loop.example/g00699/laws.FnLatEdges", spec := "fnLatEdges", apart := false }
def FnLatEdgesSaid : Prop := fnLatEdgesRow.holds Try.pinned (OpenSpec.ofChange fnLatEdgesSpec)

/-- ITS FALSE NEIGHBOUR: 'it returns false'. Refute it at one input. -/
def fnLatEdgesWrong : ChangeSpec := { name := "fnLatEdges", fn := fun _ => fun
  | [d] => { results := [.lit (.bool false)], args := [d] }
  | _ => none }
def FnLatEdgesWrongFalsely : Prop := fnLatEdgesRow.holds Try.pinned (OpenSpec.ofChange fnLatEdgesWrong)

/-- 'laws.FnLatBounds': WHATEVER THE INPUT: true; the input reads as it did. -/
def fnLatBoundsSpec : ChangeSpec := { name := "fnLatBounds", fn := fun _ => fun
  | [d] => { results := [.lit (.bool true)], args := [d] }
  | _ => none }
def fnLatBoundsRow : OpenClaim := { program := "ytkhboanlccfajaa", sum := "27c4dad50d2e5dfebaa473838d35ab3443641ddb39264ce3b30d0ecce94237ce", func := "loop.example/g00699/laws.FnLatBounds", spec := "fnLatBounds", apart := false }
def FnLatBoundsSaid : Prop := fnLatBoundsRow.holds Try.pinned (OpenSpec.ofChange fnLatBoundsSpec)

/-- ITS FALSE NEIGHBOUR: 'it returns false'. Refute it at one input. -/
def fnLatBoundsWrong : ChangeSpec := { name := "fnLatBounds", fn := fun _ => fun
  | [d] => { results := [.lit (.bool false)], args := [d] }
  | _ => none }
def FnLatBoundsWrongFalsely : Prop := fnLatBoundsRow.holds Try.pinned (OpenSpec.ofChange fnLatBoundsWrong)

/-- 'laws.FnMean': WHATEVER THE INPUT: true; the input reads as it did. -/
def fnMeanSpec : ChangeSpec := { name := "fnMean", fn := fun _ => fun
  | [d] => { results := [.lit (.bool true)], args := [d] }
  | _ => none }
def fnMeanRow : OpenClaim := { program := "ytkhboanlccfajaa", sum := "27c4dad50d2e5dfebaa473838d35ab3443641ddb39264ce3b30d0ecce94237ce", func := "loop.example/g00699/laws.FnMean", spec := "fnMean", inPlace := ["math/bits.Add64"], named := ["math/bits.divideError", "math/bits.overflowError"], apart := false }
def FnMeanSaid : Prop := fnMeanRow.holds Try.pinned (OpenSpec.ofChange fnMeanSpec)

/-- ITS FALSE NEIGHBOUR: 'it returns false'. Refute it at one input. -/
def fnMeanWrong : ChangeSpec := { name := "fnMean", fn := fun _ => fun
  | [d] => { results := [.lit (.bool false)], args := [d] }
  | _ => none }
def FnMeanWrongFalsely : Prop := fnMeanRow.holds Try.pinned (OpenSpec.ofChange fnMeanWrong)

/-- 'laws.FnExactWideOf': WHATEVER THE INPUT: true; the input reads as it did. -/
def fnExactWideOfSpec : ChangeSpec := { name := "fnExactWideOf", fn := fun _ => fun
  | [d] => { results := [.lit (.bool true)], args := [d] }
  | _ => none }
def fnExactWideOfRow : OpenClaim := { program := "ytkhboanlccfajaa", sum := "27c4dad50d2e5dfebaa473838d35ab3443641ddb39264ce3b30d0ecce94237ce", func := "loop.example/g00699/laws.FnExactWideOf", spec := "fnExactWideOf", apart := false }
def FnExactWideOfSaid : Prop := fnExactWideOfRow.holds Try.pinned (OpenSpec.ofChange fnExactWideOfSpec)

/-- ITS FALSE NEIGHBOUR: 'it returns false'. Refute it at one input. -/
def fnExactWideOfWrong : ChangeSpec := { name := "fnExactWideOf", fn := fun _ => fun
  | [d] => { results := [.lit (.bool false)], args := [d] }
  | _ => none }
def FnExactWideOfWrongFalsely : Prop := fnExactWideOfRow.holds Try.pinned (OpenSpec.ofChange fnExactWideOfWrong)

/-- 'laws.FnExactWideAdd': WHATEVER THE INPUT: true; the input reads as it did. -/
def fnExactWideAddSpec : ChangeSpec := { name := "fnExactWideAdd", fn := fun _ => fun
  | [d1, d2] => { results := [.lit (.bool true)], args := [d1, d2] }
  | _ => none }
def fnExactWideAddRow : OpenClaim := { program := "ytkhboanlccfajaa", sum := "27c4dad50d2e5dfebaa473838d35ab3443641ddb39264ce3b30d0ecce94237ce", func := "loop.example/g00699/laws.FnExactWideAdd", spec := "fnExactWideAdd", inPlace := ["math/bits.Add64"], apart := false }
def FnExactWideAddSaid : Prop := fnExactWideAddRow.holds Try.pinned (OpenSpec.ofChange fnExactWideAddSpec)

/-- ITS FALSE NEIGHBOUR: 'it returns false'. Refute it at one input. -/
def fnExactWideAddWrong : ChangeSpec := { name := "fnExactWideAdd", fn := fun _ => fun
  | [d1, d2] => { results := [.lit (.bool false)], args := [d1, d2] }
  | _ => none }
def FnExactWideAddWrongFalsely : Prop := fnExactWideAddRow.holds Try.pinned (OpenSpec.ofChange fnExactWideAddWrong)

/-- 'laws.FnExactWideNeg': WHATEVER THE INPUT: true; the input reads as it did. -/
def fnExactWideNegSpec : ChangeSpec := { name := "fnExactWideNeg", fn := fun _ => fun
  | [d] => { results := [.lit (.bool true)], args := [d] }
  | _ => none }
def fnExactWideNegRow : OpenClaim := { program := "ytkhboanlccfajaa", sum := "27c4dad50d2e5dfebaa473838d35ab3443641ddb39264ce3b30d0ecce94237ce", func := "loop.example/g00699/laws.FnExactWideNeg", spec := "fnExactWideNeg", inPlace := ["math/bits.Add64"], apart := false }
def FnExactWideNegSaid : Prop := fnExactWideNegRow.holds Try.pinned (OpenSpec.ofChange fnExactWideNegSpec)

/-- ITS FALSE NEIGHBOUR: 'it returns false'. Refute it at one input. -/
def fnExactWideNegWrong : ChangeSpec := { name := "fnExactWideNeg", fn := fun _ => fun
  | [d] => { results := [.lit (.bool false)], args := [d] }
  | _ => none }
def FnExactWideNegWrongFalsely : Prop := fnExactWideNegRow.holds Try.pinned (OpenSpec.ofChange fnExactWideNegWrong)

/-- 'laws.FnExactWideCmp': WHATEVER THE INPUT: true; the input reads as it did. -/
def fnExactWideCmpSpec : ChangeSpec := { name := "fnExactWideCmp", fn := fun _ => fun
  | [d1, d2] => { results := [.lit (.bool true)], args := [d1, d2] }
  | _ => none }
def fnExactWideCmpRow : OpenClaim := { program := "ytkhboanlccfajaa", sum := "27c4dad50d2e5dfebaa473838d35ab3443641ddb39264ce3b30d0ecce94237ce", func := "loop.example/g00699/laws.FnExactWideCmp", spec := "fnExactWideCmp", apart := false }
def FnExactWideCmpSaid : Prop := fnExactWideCmpRow.holds Try.pinned (OpenSpec.ofChange fnExactWideCmpSpec)

/-- ITS FALSE NEIGHBOUR: 'it returns false'. Refute it at one input. -/
def fnExactWideCmpWrong : ChangeSpec := { name := "fnExactWideCmp", fn := fun _ => fun
  | [d1, d2] => { results := [.lit (.bool false)], args := [d1, d2] }
  | _ => none }
def FnExactWideCmpWrongFalsely : Prop := fnExactWideCmpRow.holds Try.pinned (OpenSpec.ofChange fnExactWideCmpWrong)

/-- 'laws.FnExactWideInt': WHATEVER THE INPUT: true; the input reads as it did. -/
def fnExactWideIntSpec : ChangeSpec := { name := "fnExactWideInt", fn := fun _ => fun
  | [d] => { results := [.lit (.bool true)], args := [d] }
  | _ => none }
def fnExactWideIntRow : OpenClaim := { program := "ytkhboanlccfajaa", sum := "27c4dad50d2e5dfebaa473838d35ab3443641ddb39264ce3b30d0ecce94237ce", func := "loop.example/g00699/laws.FnExactWideInt", spec := "fnExactWideInt", apart := false }
def FnExactWideIntSaid : Prop := fnExactWideIntRow.holds Try.pinned (OpenSpec.ofChange fnExactWideIntSpec)

/-- ITS FALSE NEIGHBOUR: 'it returns false'. Refute it at one input. -/
def fnExactWideIntWrong : ChangeSpec := { name := "fnExactWideInt", fn := fun _ => fun
  | [d] => { results := [.lit (.bool false)], args := [d] }
  | _ => none }
def FnExactWideIntWrongFalsely : Prop := fnExactWideIntRow.holds Try.pinned (OpenSpec.ofChange fnExactWideIntWrong)

/-- 'laws.FnExactWideMean': WHATEVER THE INPUT: true; the input reads as it did. -/
def fnExactWideMeanSpec : ChangeSpec := { name := "fnExactWideMean", fn := fun _ => fun
  | [d1, d2] => { results := [.lit (.bool true)], args := [d1, d2] }
  | _ => none }
def fnExactWideMeanRow : OpenClaim := { program := "ytkhboanlccfajaa", sum := "27c4dad50d2e5dfebaa473838d35ab3443641ddb39264ce3b30d0ecce94237ce", func := "loop.example/g00699/laws.FnExactWideMean", spec := "fnExactWideMean", named := ["math/bits.divideError", "math/bits.overflowError"], apart := false }
def FnExactWideMeanSaid : Prop := fnExactWideMeanRow.holds Try.pinned (OpenSpec.ofChange fnExactWideMeanSpec)

/-- ITS FALSE NEIGHBOUR: 'it returns false'. Refute it at one input. -/
def fnExactWideMeanWrong : ChangeSpec := { name := "fnExactWideMean", fn := fun _ => fun
  | [d1, d2] => { results := [.lit (.bool false)], args := [d1, d2] }
  | _ => none }
def FnExactWideMeanWrongFalsely : Prop := fnExactWideMeanRow.holds Try.pinned (OpenSpec.ofChange fnExactWideMeanWrong)

/- THE SECOND FORM. 'bulk': how many values and letters a reading holds, each counted each time it is reached (what is shared counts as often as it is met; a slice's spare places count too). A statement '..UptoSaid' is the law's where the arguments, and the package variables that the reading takes, are together of bulk at most 1048576: NARROWER than '..Said'. Prove '..Said' where nothing that the law and all that it calls make is longer than what came in: it says more and counts as full. Else prove '..UptoSaid'. A law counts once. -/
mutual
def uptoBulk {H : Type} : DataW H → Nat
  | .lit (.string bytes) => bytes.length + 1
  | .lit _ => 1
  | .nil => 1
  | .ptr d => uptoBulk d + 1
  | .slice elems spare => uptoBulkAll elems + uptoBulkAll spare + 1
  | .agg parts => uptoBulkAll parts + 1
  | .iface _ d => uptoBulk d + 1
  | .map entries => uptoBulkEntries entries + 1
  | .held _ => 1
def uptoBulkAll {H : Type} : List (DataW H) → Nat
  | [] => 0
  | d :: r => uptoBulk d + uptoBulkAll r
def uptoBulkEntries {H : Type} : List (Lit × DataW H) → Nat
  | [] => 0
  | x :: r => uptoBulkEntry x + uptoBulkEntries r
def uptoBulkEntry {H : Type} : Lit × DataW H → Nat
  | (.string bytes, d) => bytes.length + uptoBulk d + 1
  | (_, d) => uptoBulk d + 1
 end
def uptoSmall : (H : Type) → List (DataW H) → Bool := fun _ ds => decide (uptoBulkAll ds ≤ 1048576)
def OpenSpec.upto (s : _root_.Go.ChangeSpec) : _root_.Go.OpenSpec := { _root_.Go.OpenSpec.ofChange s with cond := some uptoSmall }

/-- 'laws.FnLatEdges', WHERE WHAT IT READS IS OF BULK AT MOST 1048576: true; the input reads as it did. -/
def fnLatEdgesUptoRow : OpenClaim := { program := "ytkhboanlccfajaa", sum := "27c4dad50d2e5dfebaa473838d35ab3443641ddb39264ce3b30d0ecce94237ce", func := "loop.example/g00699/laws.FnLatEdges", spec := "fnLatEdges", apart := false, narrowed := true }
def FnLatEdgesUptoSaid : Prop := fnLatEdgesUptoRow.holds Try.pinned (OpenSpec.upto fnLatEdgesSpec)

/-- 'laws.FnLatBounds', WHERE WHAT IT READS IS OF BULK AT MOST 1048576: true; the input reads as it did. -/
def fnLatBoundsUptoRow : OpenClaim := { program := "ytkhboanlccfajaa", sum := "27c4dad50d2e5dfebaa473838d35ab3443641ddb39264ce3b30d0ecce94237ce", func := "loop.example/g00699/laws.FnLatBounds", spec := "fnLatBounds", apart := false, narrowed := true }
def FnLatBoundsUptoSaid : Prop := fnLatBoundsUptoRow.holds Try.pinned (OpenSpec.upto fnLatBoundsSpec)

/-- 'laws.FnMean', WHERE WHAT IT READS IS OF BULK AT MOST 1048576: true; the input reads as it did. -/
def fnMeanUptoRow : OpenClaim := { program := "ytkhboanlccfajaa", sum := "27c4dad50d2e5dfebaa473838d35ab3443641ddb39264ce3b30d0ecce94237ce", func := "loop.example/g00699/laws.FnMean", spec := "fnMean", inPlace := ["math/bits.Add64"], named := ["math/bits.divideError", "math/bits.overflowError"], apart := false, narrowed := true }
def FnMeanUptoSaid : Prop := fnMeanUptoRow.holds Try.pinned (OpenSpec.upto fnMeanSpec)

/-- 'laws.FnExactWideOf', WHERE WHAT IT READS IS OF BULK AT MOST 1048576: true; the input reads as it did. -/
def fnExactWideOfUptoRow : OpenClaim := { program := "ytkhboanlccfajaa", sum := "27c4dad50d2e5dfebaa473838d35ab3443641ddb39264ce3b30d0ecce94237ce", func := "loop.example/g00699/laws.FnExactWideOf", spec := "fnExactWideOf", apart := false, narrowed := true }
def FnExactWideOfUptoSaid : Prop := fnExactWideOfUptoRow.holds Try.pinned (OpenSpec.upto fnExactWideOfSpec)

/-- 'laws.FnExactWideAdd', WHERE WHAT IT READS IS OF BULK AT MOST 1048576: true; the input reads as it did. -/
def fnExactWideAddUptoRow : OpenClaim := { program := "ytkhboanlccfajaa", sum := "27c4dad50d2e5dfebaa473838d35ab3443641ddb39264ce3b30d0ecce94237ce", func := "loop.example/g00699/laws.FnExactWideAdd", spec := "fnExactWideAdd", inPlace := ["math/bits.Add64"], apart := false, narrowed := true }
def FnExactWideAddUptoSaid : Prop := fnExactWideAddUptoRow.holds Try.pinned (OpenSpec.upto fnExactWideAddSpec)

/-- 'laws.FnExactWideNeg', WHERE WHAT IT READS IS OF BULK AT MOST 1048576: true; the input reads as it did. -/
def fnExactWideNegUptoRow : OpenClaim := { program := "ytkhboanlccfajaa", sum := "27c4dad50d2e5dfebaa473838d35ab3443641ddb39264ce3b30d0ecce94237ce", func := "loop.example/g00699/laws.FnExactWideNeg", spec := "fnExactWideNeg", inPlace := ["math/bits.Add64"], apart := false, narrowed := true }
def FnExactWideNegUptoSaid : Prop := fnExactWideNegUptoRow.holds Try.pinned (OpenSpec.upto fnExactWideNegSpec)

/-- 'laws.FnExactWideCmp', WHERE WHAT IT READS IS OF BULK AT MOST 1048576: true; the input reads as it did. -/
def fnExactWideCmpUptoRow : OpenClaim := { program := "ytkhboanlccfajaa", sum := "27c4dad50d2e5dfebaa473838d35ab3443641ddb39264ce3b30d0ecce94237ce", func := "loop.example/g00699/laws.FnExactWideCmp", spec := "fnExactWideCmp", apart := false, narrowed := true }
def FnExactWideCmpUptoSaid : Prop := fnExactWideCmpUptoRow.holds Try.pinned (OpenSpec.upto fnExactWideCmpSpec)

/-- 'laws.FnExactWideInt', WHERE WHAT IT READS IS OF BULK AT MOST 1048576: true; the input reads as it did. -/
def fnExactWideIntUptoRow : OpenClaim := { program := "ytkhboanlccfajaa", sum := "27c4dad50d2e5dfebaa473838d35ab3443641ddb39264ce3b30d0ecce94237ce", func := "loop.example/g00699/laws.FnExactWideInt", spec := "fnExactWideInt", apart := false, narrowed := true }
def FnExactWideIntUptoSaid : Prop := fnExactWideIntUptoRow.holds Try.pinned (OpenSpec.upto fnExactWideIntSpec)

/-- 'laws.FnExactWideMean', WHERE WHAT IT READS IS OF BULK AT MOST 1048576: true; the input reads as it did. -/
def fnExactWideMeanUptoRow : OpenClaim := { program := "ytkhboanlccfajaa", sum := "27c4dad50d2e5dfebaa473838d35ab3443641ddb39264ce3b30d0ecce94237ce", func := "loop.example/g00699/laws.FnExactWideMean", spec := "fnExactWideMean", named := ["math/bits.divideError", "math/bits.overflowError"], apart := false, narrowed := true }
def FnExactWideMeanUptoSaid : Prop := fnExactWideMeanUptoRow.holds Try.pinned (OpenSpec.upto fnExactWideMeanSpec)

end Rows
end Go.Proofs.Ytkhboanlccfajaa
