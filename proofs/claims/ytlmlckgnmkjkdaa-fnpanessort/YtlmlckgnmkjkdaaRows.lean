/-
  No cell of these rows narrows 'for every input' (looked for: loops, veiled, ifaces, maps, wideKeys, modest, calm, conditions, laid).
  DERIVED. THE GIVEN ROWS OF THIS SEAT. 7 by the template 'for every input the law returns true; each argument reads behind the call as it read before'; 0 by the template 'total and deterministic' (their statements: YtlmlckgnmkjkdaaTotals.lean).
  GIVEN WITH THE SEED: the statements are not yours to turn. If you find one false, say at which input.
  Laid BY PROGRAM, IN A SANDBOX (cutbox-rows.mjs): the forced cells as the released guide's own fill.sh prints them over the translation 0554ca0df029ac22… (all of the seat's roots in one cut). By AI agents, Wed Nov 11 2026. No macro, syntax, notation, axiom, sorry.
-/
import Derived.Test.YtlmlckgnmkjkdaaChecked
import GoSem.Claim
import GoSem.ClaimJoined
import GoSem.ClaimMapViews
import Derived.JoinedTies
import Derived.KernelRfl
namespace Go.Proofs.Ytlmlckgnmkjkdaa
/- THE CELL 'sum', in the pinned program and in every row, IS THE sha256 OF THE DUMP (.gsa) THAT YtlmlckgnmkjkdaaProg.lean LOADS. Nothing in Lean hashes anything: it is a label: what it is worth is what the hold of that sum in a sandbox is worth. -/
noncomputable def Try.pinned : Pinned := { name := "ytlmlckgnmkjkdaa", sum := "0554ca0df029ac22ac8d754c4e5f906ee60f28f57d2b82bb02e313f0b4bb2efc", checked := Try.checked }
namespace Rows
def none {H : Type} : Left H := { results := [], args := [] }

/-- 'laws.FnPanesSort': WHATEVER THE INPUT: true; the input reads as it did. -/
def fnPanesSortSpec : ChangeSpec := { name := "fnPanesSort", fn := fun _ => fun
  | [d] => { results := [.lit (.bool true)], args := [d] }
  | _ => none }
def fnPanesSortRow : OpenClaim := { program := "ytlmlckgnmkjkdaa", sum := "0554ca0df029ac22ac8d754c4e5f906ee60f28f57d2b82bb02e313f0b4bb2efc", func := "loop.example/g00699/laws.FnPanesSort", spec := "fnPanesSort", unfollowed := true, recurses := true, apart := false }
def FnPanesSortSaid : Prop := fnPanesSortRow.holds Try.pinned (OpenSpec.ofChange fnPanesSortSpec)

/-- ITS FALSE NEIGHBOUR: 'it returns false'. Refute it at one input. -/
def fnPanesSortWrong : ChangeSpec := { name := "fnPanesSort", fn := fun _ => fun
  | [d] => { results := [.lit (.bool false)], args := [d] }
  | _ => none }
def FnPanesSortWrongFalsely : Prop := fnPanesSortRow.holds Try.pinned (OpenSpec.ofChange fnPanesSortWrong)

/-- 'laws.FnExactQueryOk': WHATEVER THE INPUT: true; the input reads as it did. -/
def fnExactQueryOkSpec : ChangeSpec := { name := "fnExactQueryOk", fn := fun _ => fun
  | [d] => { results := [.lit (.bool true)], args := [d] }
  | _ => none }
def fnExactQueryOkRow : OpenClaim := { program := "ytlmlckgnmkjkdaa", sum := "0554ca0df029ac22ac8d754c4e5f906ee60f28f57d2b82bb02e313f0b4bb2efc", func := "loop.example/g00699/laws.FnExactQueryOk", spec := "fnExactQueryOk", apart := false }
def FnExactQueryOkSaid : Prop := fnExactQueryOkRow.holds Try.pinned (OpenSpec.ofChange fnExactQueryOkSpec)

/-- ITS FALSE NEIGHBOUR: 'it returns false'. Refute it at one input. -/
def fnExactQueryOkWrong : ChangeSpec := { name := "fnExactQueryOk", fn := fun _ => fun
  | [d] => { results := [.lit (.bool false)], args := [d] }
  | _ => none }
def FnExactQueryOkWrongFalsely : Prop := fnExactQueryOkRow.holds Try.pinned (OpenSpec.ofChange fnExactQueryOkWrong)

/-- 'laws.FnExactElemOk': WHATEVER THE INPUT: true; the input reads as it did. -/
def fnExactElemOkSpec : ChangeSpec := { name := "fnExactElemOk", fn := fun _ => fun
  | [d] => { results := [.lit (.bool true)], args := [d] }
  | _ => none }
def fnExactElemOkRow : OpenClaim := { program := "ytlmlckgnmkjkdaa", sum := "0554ca0df029ac22ac8d754c4e5f906ee60f28f57d2b82bb02e313f0b4bb2efc", func := "loop.example/g00699/laws.FnExactElemOk", spec := "fnExactElemOk", apart := false }
def FnExactElemOkSaid : Prop := fnExactElemOkRow.holds Try.pinned (OpenSpec.ofChange fnExactElemOkSpec)

/-- ITS FALSE NEIGHBOUR: 'it returns false'. Refute it at one input. -/
def fnExactElemOkWrong : ChangeSpec := { name := "fnExactElemOk", fn := fun _ => fun
  | [d] => { results := [.lit (.bool false)], args := [d] }
  | _ => none }
def FnExactElemOkWrongFalsely : Prop := fnExactElemOkRow.holds Try.pinned (OpenSpec.ofChange fnExactElemOkWrong)

/-- 'laws.FnExactPaneOk': WHATEVER THE INPUT: true; the input reads as it did. -/
def fnExactPaneOkSpec : ChangeSpec := { name := "fnExactPaneOk", fn := fun _ => fun
  | [d] => { results := [.lit (.bool true)], args := [d] }
  | _ => none }
def fnExactPaneOkRow : OpenClaim := { program := "ytlmlckgnmkjkdaa", sum := "0554ca0df029ac22ac8d754c4e5f906ee60f28f57d2b82bb02e313f0b4bb2efc", func := "loop.example/g00699/laws.FnExactPaneOk", spec := "fnExactPaneOk", apart := false }
def FnExactPaneOkSaid : Prop := fnExactPaneOkRow.holds Try.pinned (OpenSpec.ofChange fnExactPaneOkSpec)

/-- ITS FALSE NEIGHBOUR: 'it returns false'. Refute it at one input. -/
def fnExactPaneOkWrong : ChangeSpec := { name := "fnExactPaneOk", fn := fun _ => fun
  | [d] => { results := [.lit (.bool false)], args := [d] }
  | _ => none }
def FnExactPaneOkWrongFalsely : Prop := fnExactPaneOkRow.holds Try.pinned (OpenSpec.ofChange fnExactPaneOkWrong)

/-- 'laws.FnExactPaneLess': WHATEVER THE INPUT: true; the input reads as it did. -/
def fnExactPaneLessSpec : ChangeSpec := { name := "fnExactPaneLess", fn := fun _ => fun
  | [d1, d2] => { results := [.lit (.bool true)], args := [d1, d2] }
  | _ => none }
def fnExactPaneLessRow : OpenClaim := { program := "ytlmlckgnmkjkdaa", sum := "0554ca0df029ac22ac8d754c4e5f906ee60f28f57d2b82bb02e313f0b4bb2efc", func := "loop.example/g00699/laws.FnExactPaneLess", spec := "fnExactPaneLess", apart := false }
def FnExactPaneLessSaid : Prop := fnExactPaneLessRow.holds Try.pinned (OpenSpec.ofChange fnExactPaneLessSpec)

/-- ITS FALSE NEIGHBOUR: 'it returns false'. Refute it at one input. -/
def fnExactPaneLessWrong : ChangeSpec := { name := "fnExactPaneLess", fn := fun _ => fun
  | [d1, d2] => { results := [.lit (.bool false)], args := [d1, d2] }
  | _ => none }
def FnExactPaneLessWrongFalsely : Prop := fnExactPaneLessRow.holds Try.pinned (OpenSpec.ofChange fnExactPaneLessWrong)

/-- 'laws.FnExactPaneOf': WHATEVER THE INPUT: true; the input reads as it did. -/
def fnExactPaneOfSpec : ChangeSpec := { name := "fnExactPaneOf", fn := fun _ => fun
  | [d1, d2, d3, d4, d5, d6] => { results := [.lit (.bool true)], args := [d1, d2, d3, d4, d5, d6] }
  | _ => none }
def fnExactPaneOfRow : OpenClaim := { program := "ytlmlckgnmkjkdaa", sum := "0554ca0df029ac22ac8d754c4e5f906ee60f28f57d2b82bb02e313f0b4bb2efc", func := "loop.example/g00699/laws.FnExactPaneOf", spec := "fnExactPaneOf", inPlace := ["math/bits.Add64"], unfollowed := true, recurses := true, named := ["math/bits.divideError", "math/bits.overflowError"], apart := false }
def FnExactPaneOfSaid : Prop := fnExactPaneOfRow.holds Try.pinned (OpenSpec.ofChange fnExactPaneOfSpec)

/-- ITS FALSE NEIGHBOUR: 'it returns false'. Refute it at one input. -/
def fnExactPaneOfWrong : ChangeSpec := { name := "fnExactPaneOf", fn := fun _ => fun
  | [d1, d2, d3, d4, d5, d6] => { results := [.lit (.bool false)], args := [d1, d2, d3, d4, d5, d6] }
  | _ => none }
def FnExactPaneOfWrongFalsely : Prop := fnExactPaneOfRow.holds Try.pinned (OpenSpec.ofChange fnExactPaneOfWrong)

/-- 'laws.FnExactPanesSort': WHATEVER THE INPUT: true; the input reads as it did. -/
def fnExactPanesSortSpec : ChangeSpec := { name := "fnExactPanesSort", fn := fun _ => fun
  | [d] => { results := [.lit (.bool true)], args := [d] }
  | _ => none }
def fnExactPanesSortRow : OpenClaim := { program := "ytlmlckgnmkjkdaa", sum := "0554ca0df029ac22ac8d754c4e5f906ee60f28f57d2b82bb02e313f0b4bb2efc", func := "loop.example/g00699/laws.FnExactPanesSort", spec := "fnExactPanesSort", unfollowed := true, recurses := true, apart := false }
def FnExactPanesSortSaid : Prop := fnExactPanesSortRow.holds Try.pinned (OpenSpec.ofChange fnExactPanesSortSpec)

/-- ITS FALSE NEIGHBOUR: 'it returns false'. Refute it at one input. -/
def fnExactPanesSortWrong : ChangeSpec := { name := "fnExactPanesSort", fn := fun _ => fun
  | [d] => { results := [.lit (.bool false)], args := [d] }
  | _ => none }
def FnExactPanesSortWrongFalsely : Prop := fnExactPanesSortRow.holds Try.pinned (OpenSpec.ofChange fnExactPanesSortWrong)

/- THE SECOND FORM. 'bulk': how many values and letters a reading holds, each counted each time it is reached (what is shared counts as often as it is met; a slice's spare places count too). A statement '..UptoSaid' is the law's where the arguments, and the package variables that the reading takes, are together of bulk at most 1048576: NARROWER than '..Said'. Prove '..Said' where nothing that the law and all that it calls make is longer than what came in: it says more and counts as full. Else prove '..UptoSaid'. A law counts once. -/
mutual
def uptoBulk {H : Type} : DataW H → Nat
  | .lit (.string bytes) => bytes.length + 1
  | .lit _ => 1
  | .nil => 1
  | .ptr d => uptoBulk d + 1
  | .slice elems spare => uptoBulkAll elems + uptoBulkAll spare + 1
  | .agg parts => uptoBulkAll parts + 1
  | .iface _ d => uptoBulk d + 1
  | .map entries => uptoBulkEntries entries + 1
  | .held _ => 1
def uptoBulkAll {H : Type} : List (DataW H) → Nat
  | [] => 0
  | d :: r => uptoBulk d + uptoBulkAll r
def uptoBulkEntries {H : Type} : List (Lit × DataW H) → Nat
  | [] => 0
  | x :: r => uptoBulkEntry x + uptoBulkEntries r
def uptoBulkEntry {H : Type} : Lit × DataW H → Nat
  | (.string bytes, d) => bytes.length + uptoBulk d + 1
  | (_, d) => uptoBulk d + 1
 end
def uptoSmall : (H : Type) → List (DataW H) → Bool := fun _ ds => decide (uptoBulkAll ds ≤ 1048576)
def OpenSpec.upto (s : _root_.Go.ChangeSpec) : _root_.Go.OpenSpec := { _root_.Go.OpenSpec.ofChange s with cond := some uptoSmall }

/-- 'laws.FnPanesSort', WHERE WHAT IT READS IS OF BULK AT MOST 1048576: true; the input reads as it did. -/
def fnPanesSortUptoRow : OpenClaim := { program := "ytlmlckgnmkjkdaa", sum := "0554ca0df029ac22ac8d754c4e5f906ee60f28f57d2b82bb02e313f0b4bb2efc", func := "loop.example/g00699/laws.FnPanesSort", spec := "fnPanesSort", unfollowed := true, recurses := true, apart := false, narrowed := true }
def FnPanesSortUptoSaid : Prop := fnPanesSortUptoRow.holds Try.pinned (OpenSpec.upto fnPanesSortSpec)

/-- 'laws.FnExactQueryOk', WHERE WHAT IT READS IS OF BULK AT MOST 1048576: true; the input reads as it did. -/
def fnExactQueryOkUptoRow : OpenClaim := { program := "ytlmlckgnmkjkdaa", sum := "0554ca0df029ac22ac8d754c4e5f906ee60f28f57d2b82bb02e313f0b4bb2efc", func := "loop.example/g00699/laws.FnExactQueryOk", spec := "fnExactQueryOk", apart := false, narrowed := true }
def FnExactQueryOkUptoSaid : Prop := fnExactQueryOkUptoRow.holds Try.pinned (OpenSpec.upto fnExactQueryOkSpec)

/-- 'laws.FnExactElemOk', WHERE WHAT IT READS IS OF BULK AT MOST 1048576: true; the input reads as it did. -/
def fnExactElemOkUptoRow : OpenClaim := { program := "ytlmlckgnmkjkdaa", sum := "0554ca0df029ac22ac8d754c4e5f906ee60f28f57d2b82bb02e313f0b4bb2efc", func := "loop.example/g00699/laws.FnExactElemOk", spec := "fnExactElemOk", apart := false, narrowed := true }
def FnExactElemOkUptoSaid : Prop := fnExactElemOkUptoRow.holds Try.pinned (OpenSpec.upto fnExactElemOkSpec)

/-- 'laws.FnExactPaneOk', WHERE WHAT IT READS IS OF BULK AT MOST 1048576: true; the input reads as it did. -/
def fnExactPaneOkUptoRow : OpenClaim := { program := "ytlmlckgnmkjkdaa", sum := "0554ca0df029ac22ac8d754c4e5f906ee60f28f57d2b82bb02e313f0b4bb2efc", func := "loop.example/g00699/laws.FnExactPaneOk", spec := "fnExactPaneOk", apart := false, narrowed := true }
def FnExactPaneOkUptoSaid : Prop := fnExactPaneOkUptoRow.holds Try.pinned (OpenSpec.upto fnExactPaneOkSpec)

/-- 'laws.FnExactPaneLess', WHERE WHAT IT READS IS OF BULK AT MOST 1048576: true; the input reads as it did. -/
def fnExactPaneLessUptoRow : OpenClaim := { program := "ytlmlckgnmkjkdaa", sum := "0554ca0df029ac22ac8d754c4e5f906ee60f28f57d2b82bb02e313f0b4bb2efc", func := "loop.example/g00699/laws.FnExactPaneLess", spec := "fnExactPaneLess", apart := false, narrowed := true }
def FnExactPaneLessUptoSaid : Prop := fnExactPaneLessUptoRow.holds Try.pinned (OpenSpec.upto fnExactPaneLessSpec)

/-- 'laws.FnExactPaneOf', WHERE WHAT IT READS IS OF BULK AT MOST 1048576: true; the input reads as it did. -/
def fnExactPaneOfUptoRow : OpenClaim := { program := "ytlmlckgnmkjkdaa", sum := "0554ca0df029ac22ac8d754c4e5f906ee60f28f57d2b82bb02e313f0b4bb2efc", func := "loop.example/g00699/laws.FnExactPaneOf", spec := "fnExactPaneOf", inPlace := ["math/bits.Add64"], unfollowed := true, recurses := true, named := ["math/bits.divideError", "math/bits.overflowError"], apart := false, narrowed := true }
def FnExactPaneOfUptoSaid : Prop := fnExactPaneOfUptoRow.holds Try.pinned (OpenSpec.upto fnExactPaneOfSpec)

/-- 'laws.FnExactPanesSort', WHERE WHAT IT READS IS OF BULK AT MOST 1048576: true; the input reads as it did. -/
def fnExactPanesSortUptoRow : OpenClaim := { program := "ytlmlckgnmkjkdaa", sum := "0554ca0df029ac22ac8d754c4e5f906ee60f28f57d2b82bb02e313f0b4bb2efc", func := "loop.example/g00699/laws.FnExactPanesSort", spec := "fnExactPanesSort", unfollowed := true, recurses := true, apart := false, narrowed := true }
def FnExactPanesSortUptoSaid : Prop := fnExactPanesSortUptoRow.holds Try.pinned (OpenSpec.upto fnExactPanesSortSpec)

end Rows
end Go.Proofs.Ytlmlckgnmkjkdaa
