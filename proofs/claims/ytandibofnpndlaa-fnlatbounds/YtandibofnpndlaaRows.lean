/-
  No cell of these rows narrows 'for every input' (looked for: loops, veiled, ifaces, maps, wideKeys, modest, calm, conditions, laid).
  DERIVED. THE GIVEN ROWS OF THIS SEAT. 12 by the template 'for every input the law returns true; each argument reads behind the call as it read before'; 0 by the template 'total and deterministic' (their statements: YtandibofnpndlaaTotals.lean).
  GIVEN WITH THE SEED: the statements are not yours to turn. If you find one false, say at which input.
  Laid BY PROGRAM, IN A SANDBOX (cutbox-rows.mjs): the forced cells as the released guide's own fill.sh prints them over the translation cb230b838f1a92e8… (all of the seat's roots in one cut). By AI agents, Wed Nov 11 2026. No macro, syntax, notation, axiom, sorry.
-/
import Derived.Test.YtandibofnpndlaaChecked
import GoSem.Claim
import GoSem.ClaimJoined
import GoSem.ClaimMapViews
import Derived.JoinedTies
import Derived.KernelRfl
namespace Go.Proofs.Ytandibofnpndlaa
/- THE CELL 'sum', in the pinned program and in every row, IS THE sha256 OF THE DUMP (.gsa) THAT YtandibofnpndlaaProg.lean LOADS. Nothing in Lean hashes anything: it is a label: what it is worth is what the hold of that sum in a sandbox is worth. -/
noncomputable def Try.pinned : Pinned := { name := "ytandibofnpndlaa", sum := "cb230b838f1a92e844a829fe096e195b3d79c0db854939dda6a553e8438c6a6b", checked := Try.checked }
namespace Rows
def none {H : Type} : Left H := { results := [], args := [] }

/-- 'laws.FnLatEdges': WHATEVER THE INPUT: true; the input reads as it did. -/
def fnLatEdgesSpec : ChangeSpec := { name := "fnLatEdges", fn := fun _ => fun
  | [d] => { results := [.lit (.bool true)], args := [d] }
  | _ => none }
def fnLatEdgesRow : OpenClaim := { program := "ytandibofnpndlaa", sum := "cb230b838f1a92e844a829fe096e195b3d79c0db854939dda6a553e8438c6a6b", func := "loop.example/g00699/laws.FnLatEdges", spec := "fnLatEdges", apart := false }
def FnLatEdgesSaid : Prop := fnLatEdgesRow.holds Try.pinned (OpenSpec.ofChange fnLatEdgesSpec)

/-- ITS FALSE NEIGHBOUR: 'it returns false'. Refute it at one input. -/
def fnLatEdgesWrong : ChangeSpec := { name := "fnLatEdges", fn := fun _ => fun
  | [d] => { results := [.lit (.bool false)], args := [d] }
  | _ => none }
def FnLatEdgesWrongFalsely : Prop := fnLatEdgesRow.holds Try.pinned (OpenSpec.ofChange fnLatEdgesWrong)

/-- 'laws.FnLatBounds': WHATEVER THE INPUT: true; the input reads as it did. -/
def fnLatBoundsSpec : ChangeSpec := { name := "fnLatBounds", fn := fun _ => fun
  | [d] => { results := [.lit (.bool true)], args := [d] }
  | _ => none }
def fnLatBoundsRow : OpenClaim := { program := "ytandibofnpndlaa", sum := "cb230b838f1a92e844a829fe096e195b3d79c0db854939dda6a553e8438c6a6b", func := "loop.example/g00699/laws.FnLatBounds", spec := "fnLatBounds", apart := false }
def FnLatBoundsSaid : Prop := fnLatBoundsRow.holds Try.pinned (OpenSpec.ofChange fnLatBoundsSpec)

/-- ITS FALSE NEIGHBOUR: 'it returns false'. Refute it at one input. -/
def fnLatBoundsWrong : ChangeSpec := { name := "fnLatBounds", fn := fun _ => fun
  | [d] => { results := [.lit (.bool false)], args := [d] }
  | _ => none }
def FnLatBoundsWrongFalsely : Prop := fnLatBoundsRow.holds Try.pinned (OpenSpec.ofChange fnLatBoundsWrong)

/-- 'laws.FnLatDown': WHATEVER THE INPUT: true; the input reads as it did. -/
def fnLatDownSpec : ChangeSpec := { name := "fnLatDown", fn := fun _ => fun
  | [d] => { results := [.lit (.bool true)], args := [d] }
  | _ => none }
def fnLatDownRow : OpenClaim := { program := "ytandibofnpndlaa", sum := "cb230b838f1a92e844a829fe096e195b3d79c0db854939dda6a553e8438c6a6b", func := "loop.example/g00699/laws.FnLatDown", spec := "fnLatDown", apart := false }
def FnLatDownSaid : Prop := fnLatDownRow.holds Try.pinned (OpenSpec.ofChange fnLatDownSpec)

/-- ITS FALSE NEIGHBOUR: 'it returns false'. Refute it at one input. -/
def fnLatDownWrong : ChangeSpec := { name := "fnLatDown", fn := fun _ => fun
  | [d] => { results := [.lit (.bool false)], args := [d] }
  | _ => none }
def FnLatDownWrongFalsely : Prop := fnLatDownRow.holds Try.pinned (OpenSpec.ofChange fnLatDownWrong)

/-- 'laws.FnExactLatOf': WHATEVER THE INPUT: true; the input reads as it did. -/
def fnExactLatOfSpec : ChangeSpec := { name := "fnExactLatOf", fn := fun _ => fun
  | [d1, d2] => { results := [.lit (.bool true)], args := [d1, d2] }
  | _ => none }
def fnExactLatOfRow : OpenClaim := { program := "ytandibofnpndlaa", sum := "cb230b838f1a92e844a829fe096e195b3d79c0db854939dda6a553e8438c6a6b", func := "loop.example/g00699/laws.FnExactLatOf", spec := "fnExactLatOf", apart := false }
def FnExactLatOfSaid : Prop := fnExactLatOfRow.holds Try.pinned (OpenSpec.ofChange fnExactLatOfSpec)

/-- ITS FALSE NEIGHBOUR: 'it returns false'. Refute it at one input. -/
def fnExactLatOfWrong : ChangeSpec := { name := "fnExactLatOf", fn := fun _ => fun
  | [d1, d2] => { results := [.lit (.bool false)], args := [d1, d2] }
  | _ => none }
def FnExactLatOfWrongFalsely : Prop := fnExactLatOfRow.holds Try.pinned (OpenSpec.ofChange fnExactLatOfWrong)

/-- 'laws.FnExactLatOk': WHATEVER THE INPUT: true; the input reads as it did. -/
def fnExactLatOkSpec : ChangeSpec := { name := "fnExactLatOk", fn := fun _ => fun
  | [d] => { results := [.lit (.bool true)], args := [d] }
  | _ => none }
def fnExactLatOkRow : OpenClaim := { program := "ytandibofnpndlaa", sum := "cb230b838f1a92e844a829fe096e195b3d79c0db854939dda6a553e8438c6a6b", func := "loop.example/g00699/laws.FnExactLatOk", spec := "fnExactLatOk", apart := false }
def FnExactLatOkSaid : Prop := fnExactLatOkRow.holds Try.pinned (OpenSpec.ofChange fnExactLatOkSpec)

/-- ITS FALSE NEIGHBOUR: 'it returns false'. Refute it at one input. -/
def fnExactLatOkWrong : ChangeSpec := { name := "fnExactLatOk", fn := fun _ => fun
  | [d] => { results := [.lit (.bool false)], args := [d] }
  | _ => none }
def FnExactLatOkWrongFalsely : Prop := fnExactLatOkRow.holds Try.pinned (OpenSpec.ofChange fnExactLatOkWrong)

/-- 'laws.FnExactLatLe': WHATEVER THE INPUT: true; the input reads as it did. -/
def fnExactLatLeSpec : ChangeSpec := { name := "fnExactLatLe", fn := fun _ => fun
  | [d1, d2, d3] => { results := [.lit (.bool true)], args := [d1, d2, d3] }
  | _ => none }
def fnExactLatLeRow : OpenClaim := { program := "ytandibofnpndlaa", sum := "cb230b838f1a92e844a829fe096e195b3d79c0db854939dda6a553e8438c6a6b", func := "loop.example/g00699/laws.FnExactLatLe", spec := "fnExactLatLe", apart := false }
def FnExactLatLeSaid : Prop := fnExactLatLeRow.holds Try.pinned (OpenSpec.ofChange fnExactLatLeSpec)

/-- ITS FALSE NEIGHBOUR: 'it returns false'. Refute it at one input. -/
def fnExactLatLeWrong : ChangeSpec := { name := "fnExactLatLe", fn := fun _ => fun
  | [d1, d2, d3] => { results := [.lit (.bool false)], args := [d1, d2, d3] }
  | _ => none }
def FnExactLatLeWrongFalsely : Prop := fnExactLatLeRow.holds Try.pinned (OpenSpec.ofChange fnExactLatLeWrong)

/-- 'laws.FnExactLatJoin': WHATEVER THE INPUT: true; the input reads as it did. -/
def fnExactLatJoinSpec : ChangeSpec := { name := "fnExactLatJoin", fn := fun _ => fun
  | [d1, d2, d3] => { results := [.lit (.bool true)], args := [d1, d2, d3] }
  | _ => none }
def fnExactLatJoinRow : OpenClaim := { program := "ytandibofnpndlaa", sum := "cb230b838f1a92e844a829fe096e195b3d79c0db854939dda6a553e8438c6a6b", func := "loop.example/g00699/laws.FnExactLatJoin", spec := "fnExactLatJoin", apart := false }
def FnExactLatJoinSaid : Prop := fnExactLatJoinRow.holds Try.pinned (OpenSpec.ofChange fnExactLatJoinSpec)

/-- ITS FALSE NEIGHBOUR: 'it returns false'. Refute it at one input. -/
def fnExactLatJoinWrong : ChangeSpec := { name := "fnExactLatJoin", fn := fun _ => fun
  | [d1, d2, d3] => { results := [.lit (.bool false)], args := [d1, d2, d3] }
  | _ => none }
def FnExactLatJoinWrongFalsely : Prop := fnExactLatJoinRow.holds Try.pinned (OpenSpec.ofChange fnExactLatJoinWrong)

/-- 'laws.FnExactLatMeet': WHATEVER THE INPUT: true; the input reads as it did. -/
def fnExactLatMeetSpec : ChangeSpec := { name := "fnExactLatMeet", fn := fun _ => fun
  | [d1, d2, d3] => { results := [.lit (.bool true)], args := [d1, d2, d3] }
  | _ => none }
def fnExactLatMeetRow : OpenClaim := { program := "ytandibofnpndlaa", sum := "cb230b838f1a92e844a829fe096e195b3d79c0db854939dda6a553e8438c6a6b", func := "loop.example/g00699/laws.FnExactLatMeet", spec := "fnExactLatMeet", apart := false }
def FnExactLatMeetSaid : Prop := fnExactLatMeetRow.holds Try.pinned (OpenSpec.ofChange fnExactLatMeetSpec)

/-- ITS FALSE NEIGHBOUR: 'it returns false'. Refute it at one input. -/
def fnExactLatMeetWrong : ChangeSpec := { name := "fnExactLatMeet", fn := fun _ => fun
  | [d1, d2, d3] => { results := [.lit (.bool false)], args := [d1, d2, d3] }
  | _ => none }
def FnExactLatMeetWrongFalsely : Prop := fnExactLatMeetRow.holds Try.pinned (OpenSpec.ofChange fnExactLatMeetWrong)

/-- 'laws.FnExactLatEnds': WHATEVER THE INPUT: true; the input reads as it did. -/
def fnExactLatEndsSpec : ChangeSpec := { name := "fnExactLatEnds", fn := fun _ => fun
  | [d] => { results := [.lit (.bool true)], args := [d] }
  | _ => none }
def fnExactLatEndsRow : OpenClaim := { program := "ytandibofnpndlaa", sum := "cb230b838f1a92e844a829fe096e195b3d79c0db854939dda6a553e8438c6a6b", func := "loop.example/g00699/laws.FnExactLatEnds", spec := "fnExactLatEnds", apart := false }
def FnExactLatEndsSaid : Prop := fnExactLatEndsRow.holds Try.pinned (OpenSpec.ofChange fnExactLatEndsSpec)

/-- ITS FALSE NEIGHBOUR: 'it returns false'. Refute it at one input. -/
def fnExactLatEndsWrong : ChangeSpec := { name := "fnExactLatEnds", fn := fun _ => fun
  | [d] => { results := [.lit (.bool false)], args := [d] }
  | _ => none }
def FnExactLatEndsWrongFalsely : Prop := fnExactLatEndsRow.holds Try.pinned (OpenSpec.ofChange fnExactLatEndsWrong)

/-- 'laws.FnExactLatDown': WHATEVER THE INPUT: true; the input reads as it did. -/
def fnExactLatDownSpec : ChangeSpec := { name := "fnExactLatDown", fn := fun _ => fun
  | [d1, d2] => { results := [.lit (.bool true)], args := [d1, d2] }
  | _ => none }
def fnExactLatDownRow : OpenClaim := { program := "ytandibofnpndlaa", sum := "cb230b838f1a92e844a829fe096e195b3d79c0db854939dda6a553e8438c6a6b", func := "loop.example/g00699/laws.FnExactLatDown", spec := "fnExactLatDown", apart := false }
def FnExactLatDownSaid : Prop := fnExactLatDownRow.holds Try.pinned (OpenSpec.ofChange fnExactLatDownSpec)

/-- ITS FALSE NEIGHBOUR: 'it returns false'. Refute it at one input. -/
def fnExactLatDownWrong : ChangeSpec := { name := "fnExactLatDown", fn := fun _ => fun
  | [d1, d2] => { results := [.lit (.bool false)], args := [d1, d2] }
  | _ => none }
def FnExactLatDownWrongFalsely : Prop := fnExactLatDownRow.holds Try.pinned (OpenSpec.ofChange fnExactLatDownWrong)

/-- 'laws.FnExactLatJoinAll': WHATEVER THE INPUT: true; the input reads as it did. -/
def fnExactLatJoinAllSpec : ChangeSpec := { name := "fnExactLatJoinAll", fn := fun _ => fun
  | [d1, d2] => { results := [.lit (.bool true)], args := [d1, d2] }
  | _ => none }
def fnExactLatJoinAllRow : OpenClaim := { program := "ytandibofnpndlaa", sum := "cb230b838f1a92e844a829fe096e195b3d79c0db854939dda6a553e8438c6a6b", func := "loop.example/g00699/laws.FnExactLatJoinAll", spec := "fnExactLatJoinAll", apart := false }
def FnExactLatJoinAllSaid : Prop := fnExactLatJoinAllRow.holds Try.pinned (OpenSpec.ofChange fnExactLatJoinAllSpec)

/-- ITS FALSE NEIGHBOUR: 'it returns false'. Refute it at one input. -/
def fnExactLatJoinAllWrong : ChangeSpec := { name := "fnExactLatJoinAll", fn := fun _ => fun
  | [d1, d2] => { results := [.lit (.bool false)], args := [d1, d2] }
  | _ => none }
def FnExactLatJoinAllWrongFalsely : Prop := fnExactLatJoinAllRow.holds Try.pinned (OpenSpec.ofChange fnExactLatJoinAllWrong)

/-- 'laws.FnExactLatEdges': WHATEVER THE INPUT: true; the input reads as it did. -/
def fnExactLatEdgesSpec : ChangeSpec := { name := "fnExactLatEdges", fn := fun _ => fun
  | [d] => { results := [.lit (.bool true)], args := [d] }
  | _ => none }
def fnExactLatEdgesRow : OpenClaim := { program := "ytandibofnpndlaa", sum := "cb230b838f1a92e844a829fe096e195b3d79c0db854939dda6a553e8438c6a6b", func := "loop.example/g00699/laws.FnExactLatEdges", spec := "fnExactLatEdges", apart := false }
def FnExactLatEdgesSaid : Prop := fnExactLatEdgesRow.holds Try.pinned (OpenSpec.ofChange fnExactLatEdgesSpec)

/-- ITS FALSE NEIGHBOUR: 'it returns false'. Refute it at one input. -/
def fnExactLatEdgesWrong : ChangeSpec := { name := "fnExactLatEdges", fn := fun _ => fun
  | [d] => { results := [.lit (.bool false)], args := [d] }
  | _ => none }
def FnExactLatEdgesWrongFalsely : Prop := fnExactLatEdgesRow.holds Try.pinned (OpenSpec.ofChange fnExactLatEdgesWrong)

/- THE SECOND FORM. 'bulk': how many values and letters a reading holds, each counted each time it is reached (what is shared counts as often as it is met; a slice's spare places count too). A statement '..UptoSaid' is the law's where the arguments, and the package variables that the reading takes, are together of bulk at most 1048576: NARROWER than '..Said'. Prove '..Said' where nothing that the law and all that it calls make is longer than what came in: it says more and counts as full. Else prove '..UptoSaid'. A law counts once. -/
mutual
def uptoBulk {H : Type} : DataW H → Nat
  | .lit (.string bytes) => bytes.length + 1
  | .lit _ => 1
  | .nil => 1
  | .ptr d => uptoBulk d + 1
  | .slice elems spare => uptoBulkAll elems + uptoBulkAll spare + 1
  | .agg parts => uptoBulkAll parts + 1
  | .iface _ d => uptoBulk d + 1
  | .map entries => uptoBulkEntries entries + 1
  | .held _ => 1
def uptoBulkAll {H : Type} : List (DataW H) → Nat
  | [] => 0
  | d :: r => uptoBulk d + uptoBulkAll r
def uptoBulkEntries {H : Type} : List (Lit × DataW H) → Nat
  | [] => 0
  | x :: r => uptoBulkEntry x + uptoBulkEntries r
def uptoBulkEntry {H : Type} : Lit × DataW H → Nat
  | (.string bytes, d) => bytes.length + uptoBulk d + 1
  | (_, d) => uptoBulk d + 1
 end
def uptoSmall : (H : Type) → List (DataW H) → Bool := fun _ ds => decide (uptoBulkAll ds ≤ 1048576)
def OpenSpec.upto (s : _root_.Go.ChangeSpec) : _root_.Go.OpenSpec := { _root_.Go.OpenSpec.ofChange s with cond := some uptoSmall }

/-- 'laws.FnLatEdges', WHERE WHAT IT READS IS OF BULK AT MOST 1048576: true; the input reads as it did. -/
def fnLatEdgesUptoRow : OpenClaim := { program := "ytandibofnpndlaa", sum := "cb230b838f1a92e844a829fe096e195b3d79c0db854939dda6a553e8438c6a6b", func := "loop.example/g00699/laws.FnLatEdges", spec := "fnLatEdges", apart := false, narrowed := true }
def FnLatEdgesUptoSaid : Prop := fnLatEdgesUptoRow.holds Try.pinned (OpenSpec.upto fnLatEdgesSpec)

/-- 'laws.FnLatBounds', WHERE WHAT IT READS IS OF BULK AT MOST 1048576: true; the input reads as it did. -/
def fnLatBoundsUptoRow : OpenClaim := { program := "ytandibofnpndlaa", sum := "cb230b838f1a92e844a829fe096e195b3d79c0db854939dda6a553e8438c6a6b", func := "loop.example/g00699/laws.FnLatBounds", spec := "fnLatBounds", apart := false, narrowed := true }
def FnLatBoundsUptoSaid : Prop := fnLatBoundsUptoRow.holds Try.pinned (OpenSpec.upto fnLatBoundsSpec)

/-- 'laws.FnLatDown', WHERE WHAT IT READS IS OF BULK AT MOST 1048576: true; the input reads as it did. -/
def fnLatDownUptoRow : OpenClaim := { program := "ytandibofnpndlaa", sum := "cb230b838f1a92e844a829fe096e195b3d79c0db854939dda6a553e8438c6a6b", func := "loop.example/g00699/laws.FnLatDown", spec := "fnLatDown", apart := false, narrowed := true }
def FnLatDownUptoSaid : Prop := fnLatDownUptoRow.holds Try.pinned (OpenSpec.upto fnLatDownSpec)

/-- 'laws.FnExactLatOf', WHERE WHAT IT READS IS OF BULK AT MOST 1048576: true; the input reads as it did. -/
def fnExactLatOfUptoRow : OpenClaim := { program := "ytandibofnpndlaa", sum := "cb230b838f1a92e844a829fe096e195b3d79c0db854939dda6a553e8438c6a6b", func := "loop.example/g00699/laws.FnExactLatOf", spec := "fnExactLatOf", apart := false, narrowed := true }
def FnExactLatOfUptoSaid : Prop := fnExactLatOfUptoRow.holds Try.pinned (OpenSpec.upto fnExactLatOfSpec)

/-- 'laws.FnExactLatOk', WHERE WHAT IT READS IS OF BULK AT MOST 1048576: true; the input reads as it did. -/
def fnExactLatOkUptoRow : OpenClaim := { program := "ytandibofnpndlaa", sum := "cb230b838f1a92e844a829fe096e195b3d79c0db854939dda6a553e8438c6a6b", func := "loop.example/g00699/laws.FnExactLatOk", spec := "fnExactLatOk", apart := false, narrowed := true }
def FnExactLatOkUptoSaid : Prop := fnExactLatOkUptoRow.holds Try.pinned (OpenSpec.upto fnExactLatOkSpec)

/-- 'laws.FnExactLatLe', WHERE WHAT IT READS IS OF BULK AT MOST 1048576: true; the input reads as it did. -/
def fnExactLatLeUptoRow : OpenClaim := { program := "ytandibofnpndlaa", sum := "cb230b838f1a92e844a829fe096e195b3d79c0db854939dda6a553e8438c6a6b", func := "loop.example/g00699/laws.FnExactLatLe", spec := "fnExactLatLe", apart := false, narrowed := true }
def FnExactLatLeUptoSaid : Prop := fnExactLatLeUptoRow.holds Try.pinned (OpenSpec.upto fnExactLatLeSpec)

/-- 'laws.FnExactLatJoin', WHERE WHAT IT READS IS OF BULK AT MOST 1048576: true; the input reads as it did. -/
def fnExactLatJoinUptoRow : OpenClaim := { program := "ytandibofnpndlaa", sum := "cb230b838f1a92e844a829fe096e195b3d79c0db854939dda6a553e8438c6a6b", func := "loop.example/g00699/laws.FnExactLatJoin", spec := "fnExactLatJoin", apart := false, narrowed := true }
def FnExactLatJoinUptoSaid : Prop := fnExactLatJoinUptoRow.holds Try.pinned (OpenSpec.upto fnExactLatJoinSpec)

/-- 'laws.FnExactLatMeet', WHERE WHAT IT READS IS OF BULK AT MOST 1048576: true; the input reads as it did. -/
def fnExactLatMeetUptoRow : OpenClaim := { program := "ytandibofnpndlaa", sum := "cb230b838f1a92e844a829fe096e195b3d79c0db854939dda6a553e8438c6a6b", func := "loop.example/g00699/laws.FnExactLatMeet", spec := "fnExactLatMeet", apart := false, narrowed := true }
def FnExactLatMeetUptoSaid : Prop := fnExactLatMeetUptoRow.holds Try.pinned (OpenSpec.upto fnExactLatMeetSpec)

/-- 'laws.FnExactLatEnds', WHERE WHAT IT READS IS OF BULK AT MOST 1048576: true; the input reads as it did. -/
def fnExactLatEndsUptoRow : OpenClaim := { program := "ytandibofnpndlaa", sum := "cb230b838f1a92e844a829fe096e195b3d79c0db854939dda6a553e8438c6a6b", func := "loop.example/g00699/laws.FnExactLatEnds", spec := "fnExactLatEnds", apart := false, narrowed := true }
def FnExactLatEndsUptoSaid : Prop := fnExactLatEndsUptoRow.holds Try.pinned (OpenSpec.upto fnExactLatEndsSpec)

/-- 'laws.FnExactLatDown', WHERE WHAT IT READS IS OF BULK AT MOST 1048576: true; the input reads as it did. -/
def fnExactLatDownUptoRow : OpenClaim := { program := "ytandibofnpndlaa", sum := "cb230b838f1a92e844a829fe096e195b3d79c0db854939dda6a553e8438c6a6b", func := "loop.example/g00699/laws.FnExactLatDown", spec := "fnExactLatDown", apart := false, narrowed := true }
def FnExactLatDownUptoSaid : Prop := fnExactLatDownUptoRow.holds Try.pinned (OpenSpec.upto fnExactLatDownSpec)

/-- 'laws.FnExactLatJoinAll', WHERE WHAT IT READS IS OF BULK AT MOST 1048576: true; the input reads as it did. -/
def fnExactLatJoinAllUptoRow : OpenClaim := { program := "ytandibofnpndlaa", sum := "cb230b838f1a92e844a829fe096e195b3d79c0db854939dda6a553e8438c6a6b", func := "loop.example/g00699/laws.FnExactLatJoinAll", spec := "fnExactLatJoinAll", apart := false, narrowed := true }
def FnExactLatJoinAllUptoSaid : Prop := fnExactLatJoinAllUptoRow.holds Try.pinned (OpenSpec.upto fnExactLatJoinAllSpec)

/-- 'laws.FnExactLatEdges', WHERE WHAT IT READS IS OF BULK AT MOST 1048576: true; the input reads as it did. -/
def fnExactLatEdgesUptoRow : OpenClaim := { program := "ytandibofnpndlaa", sum := "cb230b838f1a92e844a829fe096e195b3d79c0db854939dda6a553e8438c6a6b", func := "loop.example/g00699/laws.FnExactLatEdges", spec := "fnExactLatEdges", apart := false, narrowed := true }
def FnExactLatEdgesUptoSaid : Prop := fnExactLatEdgesUptoRow.holds Try.pinned (OpenSpec.upto fnExactLatEdgesSpec)

end Rows
end Go.Proofs.Ytandibofnpndlaa
