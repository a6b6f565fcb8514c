/-
  No cell of these rows narrows 'for every input' (looked for: loops, veiled, ifaces, maps, wideKeys, modest, calm, conditions, laid).
  DERIVED. THE GIVEN ROWS OF THIS SEAT. 8 by the template 'for every input the law returns true; each argument reads behind the call as it read before'; 0 by the template 'total and deterministic' (their statements: YtkaghdkehkjdoaaTotals.lean).
  GIVEN WITH THE SEED: the statements are not yours to turn. If you find one false, say at which input.
  Laid BY PROGRAM, IN A SANDBOX (cutbox-rows.mjs): the forced cells as the released guide's own fill.sh prints them over the translation 0807ff2b513efebe… (all of the seat's roots in one cut). By AI agents, Wed Nov 11 2026. No macro, syntax, notation, axiom, sorry.
-/
import Derived.Test.YtkaghdkehkjdoaaChecked
import GoSem.Claim
import GoSem.ClaimJoined
import GoSem.ClaimMapViews
import Derived.JoinedTies
import Derived.KernelRfl
namespace Go.Proofs.Ytkaghdkehkjdoaa
/- THE CELL 'sum', in the pinned program and in every row, IS THE sha256 OF THE DUMP (.gsa) THAT YtkaghdkehkjdoaaProg.lean LOADS. Nothing in Lean hashes anything: it is a label: what it is worth is what the hold of that sum in a sandbox is worth. -/
noncomputable def Try.pinned : Pinned := { name := "ytkaghdkehkjdoaa", sum := "0807ff2b513efebe912cfd709c6a9a18d043289b79f6cc63aae9ce8959e00ddf", checked := Try.checked }
namespace Rows
def none {H : Type} : Left H := { results := [], args := [] }

/-- 'laws.FnAggJoin': WHATEVER THE INPUT: true; the input reads as it did. -/
def fnAggJoinSpec : ChangeSpec := { name := "fnAggJoin", fn := fun _ => fun
  | [d] => { results := [.lit (.bool true)], args := [d] }
  | _ => none }
def fnAggJoinRow : OpenClaim := { program := "ytkaghdkehkjdoaa", sum := "0807ff2b513efebe912cfd709c6a9a18d043289b79f6cc63aae9ce8959e00ddf", func := "loop.example/g00699/laws.FnAggJoin", spec := "fnAggJoin", inPlace := ["math/bits.Add64"], unfollowed := true, recurses := true, apart := false }
def FnAggJoinSaid : Prop := fnAggJoinRow.holds Try.pinned (OpenSpec.ofChange fnAggJoinSpec)

/-- ITS FALSE NEIGHBOUR: 'it returns false'. Refute it at one input. -/
def fnAggJoinWrong : ChangeSpec := { name := "fnAggJoin", fn := fun _ => fun
  | [d] => { results := [.lit (.bool false)], args := [d] }
  | _ => none }
def FnAggJoinWrongFalsely : Prop := fnAggJoinRow.holds Try.pinned (OpenSpec.ofChange fnAggJoinWrong)

/-- 'laws.FnAggDone': WHATEVER THE INPUT: true; the input reads as it did. -/
def fnAggDoneSpec : ChangeSpec := { name := "fnAggDone", fn := fun _ => fun
  | [d] => { results := [.lit (.bool true)], args := [d] }
  | _ => none }
def fnAggDoneRow : OpenClaim := { program := "ytkaghdkehkjdoaa", sum := "0807ff2b513efebe912cfd709c6a9a18d043289b79f6cc63aae9ce8959e00ddf", func := "loop.example/g00699/laws.FnAggDone", spec := "fnAggDone", inPlace := ["math/bits.Add64"], unfollowed := true, recurses := true, named := ["math/bits.divideError", "math/bits.overflowError"], apart := false }
def FnAggDoneSaid : Prop := fnAggDoneRow.holds Try.pinned (OpenSpec.ofChange fnAggDoneSpec)

/-- ITS FALSE NEIGHBOUR: 'it returns false'. Refute it at one input. -/
def fnAggDoneWrong : ChangeSpec := { name := "fnAggDone", fn := fun _ => fun
  | [d] => { results := [.lit (.bool false)], args := [d] }
  | _ => none }
def FnAggDoneWrongFalsely : Prop := fnAggDoneRow.holds Try.pinned (OpenSpec.ofChange fnAggDoneWrong)

/-- 'laws.FnExactAggOf': WHATEVER THE INPUT: true; the input reads as it did. -/
def fnExactAggOfSpec : ChangeSpec := { name := "fnExactAggOf", fn := fun _ => fun
  | [d] => { results := [.lit (.bool true)], args := [d] }
  | _ => none }
def fnExactAggOfRow : OpenClaim := { program := "ytkaghdkehkjdoaa", sum := "0807ff2b513efebe912cfd709c6a9a18d043289b79f6cc63aae9ce8959e00ddf", func := "loop.example/g00699/laws.FnExactAggOf", spec := "fnExactAggOf", inPlace := ["math/bits.Add64"], apart := false }
def FnExactAggOfSaid : Prop := fnExactAggOfRow.holds Try.pinned (OpenSpec.ofChange fnExactAggOfSpec)

/-- ITS FALSE NEIGHBOUR: 'it returns false'. Refute it at one input. -/
def fnExactAggOfWrong : ChangeSpec := { name := "fnExactAggOf", fn := fun _ => fun
  | [d] => { results := [.lit (.bool false)], args := [d] }
  | _ => none }
def FnExactAggOfWrongFalsely : Prop := fnExactAggOfRow.holds Try.pinned (OpenSpec.ofChange fnExactAggOfWrong)

/-- 'laws.FnExactAggOk': WHATEVER THE INPUT: true; the input reads as it did. -/
def fnExactAggOkSpec : ChangeSpec := { name := "fnExactAggOk", fn := fun _ => fun
  | [d] => { results := [.lit (.bool true)], args := [d] }
  | _ => none }
def fnExactAggOkRow : OpenClaim := { program := "ytkaghdkehkjdoaa", sum := "0807ff2b513efebe912cfd709c6a9a18d043289b79f6cc63aae9ce8959e00ddf", func := "loop.example/g00699/laws.FnExactAggOk", spec := "fnExactAggOk", inPlace := ["math/bits.Add64"], unfollowed := true, recurses := true, apart := false }
def FnExactAggOkSaid : Prop := fnExactAggOkRow.holds Try.pinned (OpenSpec.ofChange fnExactAggOkSpec)

/-- ITS FALSE NEIGHBOUR: 'it returns false'. Refute it at one input. -/
def fnExactAggOkWrong : ChangeSpec := { name := "fnExactAggOk", fn := fun _ => fun
  | [d] => { results := [.lit (.bool false)], args := [d] }
  | _ => none }
def FnExactAggOkWrongFalsely : Prop := fnExactAggOkRow.holds Try.pinned (OpenSpec.ofChange fnExactAggOkWrong)

/-- 'laws.FnExactAggJoin': WHATEVER THE INPUT: true; the input reads as it did. -/
def fnExactAggJoinSpec : ChangeSpec := { name := "fnExactAggJoin", fn := fun _ => fun
  | [d1, d2] => { results := [.lit (.bool true)], args := [d1, d2] }
  | _ => none }
def fnExactAggJoinRow : OpenClaim := { program := "ytkaghdkehkjdoaa", sum := "0807ff2b513efebe912cfd709c6a9a18d043289b79f6cc63aae9ce8959e00ddf", func := "loop.example/g00699/laws.FnExactAggJoin", spec := "fnExactAggJoin", inPlace := ["math/bits.Add64"], unfollowed := true, recurses := true, apart := false }
def FnExactAggJoinSaid : Prop := fnExactAggJoinRow.holds Try.pinned (OpenSpec.ofChange fnExactAggJoinSpec)

/-- ITS FALSE NEIGHBOUR: 'it returns false'. Refute it at one input. -/
def fnExactAggJoinWrong : ChangeSpec := { name := "fnExactAggJoin", fn := fun _ => fun
  | [d1, d2] => { results := [.lit (.bool false)], args := [d1, d2] }
  | _ => none }
def FnExactAggJoinWrongFalsely : Prop := fnExactAggJoinRow.holds Try.pinned (OpenSpec.ofChange fnExactAggJoinWrong)

/-- 'laws.FnExactAggDone': WHATEVER THE INPUT: true; the input reads as it did. -/
def fnExactAggDoneSpec : ChangeSpec := { name := "fnExactAggDone", fn := fun _ => fun
  | [d1, d2, d3] => { results := [.lit (.bool true)], args := [d1, d2, d3] }
  | _ => none }
def fnExactAggDoneRow : OpenClaim := { program := "ytkaghdkehkjdoaa", sum := "0807ff2b513efebe912cfd709c6a9a18d043289b79f6cc63aae9ce8959e00ddf", func := "loop.example/g00699/laws.FnExactAggDone", spec := "fnExactAggDone", inPlace := ["math/bits.Add64"], unfollowed := true, recurses := true, named := ["math/bits.divideError", "math/bits.overflowError"], apart := false }
def FnExactAggDoneSaid : Prop := fnExactAggDoneRow.holds Try.pinned (OpenSpec.ofChange fnExactAggDoneSpec)

/-- ITS FALSE NEIGHBOUR: 'it returns false'. Refute it at one input. -/
def fnExactAggDoneWrong : ChangeSpec := { name := "fnExactAggDone", fn := fun _ => fun
  | [d1, d2, d3] => { results := [.lit (.bool false)], args := [d1, d2, d3] }
  | _ => none }
def FnExactAggDoneWrongFalsely : Prop := fnExactAggDoneRow.holds Try.pinned (OpenSpec.ofChange fnExactAggDoneWrong)

/-- 'laws.FnExactAggKind': WHATEVER THE INPUT: true; the input reads as it did. -/
def fnExactAggKindSpec : ChangeSpec := { name := "fnExactAggKind", fn := fun _ => fun
  | [d1, d2] => { results := [.lit (.bool true)], args := [d1, d2] }
  | _ => none }
def fnExactAggKindRow : OpenClaim := { program := "ytkaghdkehkjdoaa", sum := "0807ff2b513efebe912cfd709c6a9a18d043289b79f6cc63aae9ce8959e00ddf", func := "loop.example/g00699/laws.FnExactAggKind", spec := "fnExactAggKind", apart := false }
def FnExactAggKindSaid : Prop := fnExactAggKindRow.holds Try.pinned (OpenSpec.ofChange fnExactAggKindSpec)

/-- ITS FALSE NEIGHBOUR: 'it returns false'. Refute it at one input. -/
def fnExactAggKindWrong : ChangeSpec := { name := "fnExactAggKind", fn := fun _ => fun
  | [d1, d2] => { results := [.lit (.bool false)], args := [d1, d2] }
  | _ => none }
def FnExactAggKindWrongFalsely : Prop := fnExactAggKindRow.holds Try.pinned (OpenSpec.ofChange fnExactAggKindWrong)

/-- 'laws.FnExactTopOf': WHATEVER THE INPUT: true; the input reads as it did. -/
def fnExactTopOfSpec : ChangeSpec := { name := "fnExactTopOf", fn := fun _ => fun
  | [d1, d2] => { results := [.lit (.bool true)], args := [d1, d2] }
  | _ => none }
def fnExactTopOfRow : OpenClaim := { program := "ytkaghdkehkjdoaa", sum := "0807ff2b513efebe912cfd709c6a9a18d043289b79f6cc63aae9ce8959e00ddf", func := "loop.example/g00699/laws.FnExactTopOf", spec := "fnExactTopOf", apart := false }
def FnExactTopOfSaid : Prop := fnExactTopOfRow.holds Try.pinned (OpenSpec.ofChange fnExactTopOfSpec)

/-- ITS FALSE NEIGHBOUR: 'it returns false'. Refute it at one input. -/
def fnExactTopOfWrong : ChangeSpec := { name := "fnExactTopOf", fn := fun _ => fun
  | [d1, d2] => { results := [.lit (.bool false)], args := [d1, d2] }
  | _ => none }
def FnExactTopOfWrongFalsely : Prop := fnExactTopOfRow.holds Try.pinned (OpenSpec.ofChange fnExactTopOfWrong)

/- THE SECOND FORM. 'bulk': how many values and letters a reading holds, each counted each time it is reached (what is shared counts as often as it is met; a slice's spare places count too). A statement '..UptoSaid' is the law's where the arguments, and the package variables that the reading takes, are together of bulk at most 1048576: NARROWER than '..Said'. Prove '..Said' where nothing that the law and all that it calls make is longer than what came in: it says more and counts as full. Else prove '..UptoSaid'. A law counts once. -/
mutual
def uptoBulk {H : Type} : DataW H → Nat
  | .lit (.string bytes) => bytes.length + 1
  | .lit _ => 1
  | .nil => 1
  | .ptr d => uptoBulk d + 1
  | .slice elems spare => uptoBulkAll elems + uptoBulkAll spare + 1
  | .agg parts => uptoBulkAll parts + 1
  | .iface _ d => uptoBulk d + 1
  | .map entries => uptoBulkEntries entries + 1
  | .held _ => 1
def uptoBulkAll {H : Type} : List (DataW H) → Nat
  | [] => 0
  | d :: r => uptoBulk d + uptoBulkAll r
def uptoBulkEntries {H : Type} : List (Lit × DataW H) → Nat
  | [] => 0
  | x :: r => uptoBulkEntry x + uptoBulkEntries r
def uptoBulkEntry {H : Type} : Lit × DataW H → Nat
  | (.string bytes, d) => bytes.length + uptoBulk d + 1
  | (_, d) => uptoBulk d + 1
 end
def uptoSmall : (H : Type) → List (DataW H) → Bool := fun _ ds => decide (uptoBulkAll ds ≤ 1048576)
def OpenSpec.upto (s : _root_.Go.ChangeSpec) : _root_.Go.OpenSpec := { _root_.Go.OpenSpec.ofChange s with cond := some uptoSmall }

/-- 'laws.FnAggJoin', WHERE WHAT IT READS IS OF BULK AT MOST 1048576: true; the input reads as it did. -/
def fnAggJoinUptoRow : OpenClaim := { program := "ytkaghdkehkjdoaa", sum := "0807ff2b513efebe912cfd709c6a9a18d043289b79f6cc63aae9ce8959e00ddf", func := "loop.example/g00699/laws.FnAggJoin", spec := "fnAggJoin", inPlace := ["math/bits.Add64"], unfollowed := true, recurses := true, apart := false, narrowed := true }
def FnAggJoinUptoSaid : Prop := fnAggJoinUptoRow.holds Try.pinned (OpenSpec.upto fnAggJoinSpec)

/-- 'laws.FnAggDone', WHERE WHAT IT READS IS OF BULK AT MOST 1048576: true; the input reads as it did. -/
def fnAggDoneUptoRow : OpenClaim := { program := "ytkaghdkehkjdoaa", sum := "0807ff2b513efebe912cfd709c6a9a18d043289b79f6cc63aae9ce8959e00ddf", func := "loop.example/g00699/laws.FnAggDone", spec := "fnAggDone", inPlace := ["math/bits.Add64"], unfollowed := true, recurses := true, named := ["math/bits.divideError", "math/bits.overflowError"], apart := false, narrowed := true }
def FnAggDoneUptoSaid : Prop := fnAggDoneUptoRow.holds Try.pinned (OpenSpec.upto fnAggDoneSpec)

/-- 'laws.FnExactAggOf', WHERE WHAT IT READS IS OF BULK AT MOST 1048576: true; the input reads as it did. -/
def fnExactAggOfUptoRow : OpenClaim := { program := "ytkaghdkehkjdoaa", sum := "0807ff2b513efebe912cfd709c6a9a18d043289b79f6cc63aae9ce8959e00ddf", func := "loop.example/g00699/laws.FnExactAggOf", spec := "fnExactAggOf", inPlace := ["math/bits.Add64"], apart := false, narrowed := true }
def FnExactAggOfUptoSaid : Prop := fnExactAggOfUptoRow.holds Try.pinned (OpenSpec.upto fnExactAggOfSpec)

/-- 'laws.FnExactAggOk', WHERE WHAT IT READS IS OF BULK AT MOST 1048576: true; the input reads as it did. -/
def fnExactAggOkUptoRow : OpenClaim := { program := "ytkaghdkehkjdoaa", sum := "0807ff2b513efebe912cfd709c6a9a18d043289b79f6cc63aae9ce8959e00ddf", func := "loop.example/g00699/laws.FnExactAggOk", spec := "fnExactAggOk", inPlace := ["math/bits.Add64"], unfollowed := true, recurses := true, apart := false, narrowed := true }
def FnExactAggOkUptoSaid : Prop := fnExactAggOkUptoRow.holds Try.pinned (OpenSpec.upto fnExactAggOkSpec)

/-- 'laws.FnExactAggJoin', WHERE WHAT IT READS IS OF BULK AT MOST 1048576: true; the input reads as it did. -/
def fnExactAggJoinUptoRow : OpenClaim := { program := "ytkaghdkehkjdoaa", sum := "0807ff2b513efebe912cfd709c6a9a18d043289b79f6cc63aae9ce8959e00ddf", func := "loop.example/g00699/laws.FnExactAggJoin", spec := "fnExactAggJoin", inPlace := ["math/bits.Add64"], unfollowed := true, recurses := true, apart := false, narrowed := true }
def FnExactAggJoinUptoSaid : Prop := fnExactAggJoinUptoRow.holds Try.pinned (OpenSpec.upto fnExactAggJoinSpec)

/-- 'laws.FnExactAggDone', WHERE WHAT IT READS IS OF BULK AT MOST 1048576: true; the input reads as it did. -/
def fnExactAggDoneUptoRow : OpenClaim := { program := "ytkaghdkehkjdoaa", sum := "0807ff2b513efebe912cfd709c6a9a18d043289b79f6cc63aae9ce8959e00ddf", func := "loop.example/g00699/laws.FnExactAggDone", spec := "fnExactAggDone", inPlace := ["math/bits.Add64"], unfollowed := true, recurses := true, named := ["math/bits.divideError", "math/bits.overflowError"], apart := false, narrowed := true }
def FnExactAggDoneUptoSaid : Prop := fnExactAggDoneUptoRow.holds Try.pinned (OpenSpec.upto fnExactAggDoneSpec)

/-- 'laws.FnExactAggKind', WHERE WHAT IT READS IS OF BULK AT MOST 1048576: true; the input reads as it did. -/
def fnExactAggKindUptoRow : OpenClaim := { program := "ytkaghdkehkjdoaa", sum := "0807ff2b513efebe912cfd709c6a9a18d043289b79f6cc63aae9ce8959e00ddf", func := "loop.example/g00699/laws.FnExactAggKind", spec := "fnExactAggKind", apart := false, narrowed := true }
def FnExactAggKindUptoSaid : Prop := fnExactAggKindUptoRow.holds Try.pinned (OpenSpec.upto fnExactAggKindSpec)

/-- 'laws.FnExactTopOf', WHERE WHAT IT READS IS OF BULK AT MOST 1048576: true; the input reads as it did. -/
def fnExactTopOfUptoRow : OpenClaim := { program := "ytkaghdkehkjdoaa", sum := "0807ff2b513efebe912cfd709c6a9a18d043289b79f6cc63aae9ce8959e00ddf", func := "loop.example/g00699/laws.FnExactTopOf", spec := "fnExactTopOf", apart := false, narrowed := true }
def FnExactTopOfUptoSaid : Prop := fnExactTopOfUptoRow.holds Try.pinned (OpenSpec.upto fnExactTopOfSpec)

end Rows
end Go.Proofs.Ytkaghdkehkjdoaa
