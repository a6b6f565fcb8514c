/-
  No cell of these rows narrows 'for every input' (looked for: loops, veiled, ifaces, maps, wideKeys, modest, calm, conditions, laid).
  DERIVED. THE GIVEN ROWS OF THIS SEAT. 8 by the template 'for every input the law returns true; each argument reads behind the call as it read before'; 0 by the template 'total and deterministic' (their statements: YtipcjofmplpffaaTotals.lean).
  GIVEN WITH THE SEED: the statements are not yours to turn. If you find one false, say at which input.
  Laid BY PROGRAM, IN A SANDBOX (cutbox-rows.mjs): the forced cells as the released guide's own fill.sh prints them over the translation 5ad741d6b3e255b1… (all of the seat's roots in one cut). By AI agents, Wed Nov 11 2026. No macro, syntax, notation, axiom, sorry.
-/
import Derived.Test.YtipcjofmplpffaaChecked
import GoSem.Claim
import GoSem.ClaimJoined
import GoSem.ClaimMapViews
import Derived.JoinedTies
import Derived.KernelRfl
namespace Go.Proofs.Ytipcjofmplpffaa
/- THE CELL 'sum', in the pinned program and in every row, IS THE sha256 OF THE DUMP (.gsa) THAT YtipcjofmplpffaaProg.lean LOADS. Nothing in Lean hashes anything: it is a label: what it is worth is what the hold of that sum in a sandbox is worth. -/
noncomputable def Try.pinned : Pinned := { name := "ytipcjofmplpffaa", sum := "5ad741d6b3e255b176988c0067e00527fca90b29c9c9d7f4f355599808d5fa3d", checked := Try.checked }
namespace Rows
def none {H : Type} : Left H := { results := [], args := [] }

/-- 'laws.FnPolicy': WHATEVER THE INPUT: true; the input reads as it did. -/
def fnPolicySpec : ChangeSpec := { name := "fnPolicy", fn := fun _ => fun
  | [d] => { results := [.lit (.bool true)], args := [d] }
  | _ => none }
def fnPolicyRow : OpenClaim := { program := "ytipcjofmplpffaa", sum := "5ad741d6b3e255b176988c0067e00527fca90b29c9c9d7f4f355599808d5fa3d", func := "loop.example/g00699/laws.FnPolicy", spec := "fnPolicy", unfollowed := true, recurses := true, plainKeys := false, apart := false }
def FnPolicySaid : Prop := fnPolicyRow.holds Try.pinned (OpenSpec.ofChange fnPolicySpec)

/-- ITS FALSE NEIGHBOUR: 'it returns false'. Refute it at one input. -/
def fnPolicyWrong : ChangeSpec := { name := "fnPolicy", fn := fun _ => fun
  | [d] => { results := [.lit (.bool false)], args := [d] }
  | _ => none }
def FnPolicyWrongFalsely : Prop := fnPolicyRow.holds Try.pinned (OpenSpec.ofChange fnPolicyWrong)

/-- 'laws.FnClosed': WHATEVER THE INPUT: true; the input reads as it did. -/
def fnClosedSpec : ChangeSpec := { name := "fnClosed", fn := fun _ => fun
  | [d] => { results := [.lit (.bool true)], args := [d] }
  | _ => none }
def fnClosedRow : OpenClaim := { program := "ytipcjofmplpffaa", sum := "5ad741d6b3e255b176988c0067e00527fca90b29c9c9d7f4f355599808d5fa3d", func := "loop.example/g00699/laws.FnClosed", spec := "fnClosed", plainKeys := false, apart := false }
def FnClosedSaid : Prop := fnClosedRow.holds Try.pinned (OpenSpec.ofChange fnClosedSpec)

/-- ITS FALSE NEIGHBOUR: 'it returns false'. Refute it at one input. -/
def fnClosedWrong : ChangeSpec := { name := "fnClosed", fn := fun _ => fun
  | [d] => { results := [.lit (.bool false)], args := [d] }
  | _ => none }
def FnClosedWrongFalsely : Prop := fnClosedRow.holds Try.pinned (OpenSpec.ofChange fnClosedWrong)

/-- 'laws.FnExactPunctOk': WHATEVER THE INPUT: true; the input reads as it did. -/
def fnExactPunctOkSpec : ChangeSpec := { name := "fnExactPunctOk", fn := fun _ => fun
  | [d1, d2] => { results := [.lit (.bool true)], args := [d1, d2] }
  | _ => none }
def fnExactPunctOkRow : OpenClaim := { program := "ytipcjofmplpffaa", sum := "5ad741d6b3e255b176988c0067e00527fca90b29c9c9d7f4f355599808d5fa3d", func := "loop.example/g00699/laws.FnExactPunctOk", spec := "fnExactPunctOk", plainKeys := false, apart := false }
def FnExactPunctOkSaid : Prop := fnExactPunctOkRow.holds Try.pinned (OpenSpec.ofChange fnExactPunctOkSpec)

/-- ITS FALSE NEIGHBOUR: 'it returns false'. Refute it at one input. -/
def fnExactPunctOkWrong : ChangeSpec := { name := "fnExactPunctOk", fn := fun _ => fun
  | [d1, d2] => { results := [.lit (.bool false)], args := [d1, d2] }
  | _ => none }
def FnExactPunctOkWrongFalsely : Prop := fnExactPunctOkRow.holds Try.pinned (OpenSpec.ofChange fnExactPunctOkWrong)

/-- 'laws.FnExactPunctHas': WHATEVER THE INPUT: true; the input reads as it did. -/
def fnExactPunctHasSpec : ChangeSpec := { name := "fnExactPunctHas", fn := fun _ => fun
  | [d1, d2, d3] => { results := [.lit (.bool true)], args := [d1, d2, d3] }
  | _ => none }
def fnExactPunctHasRow : OpenClaim := { program := "ytipcjofmplpffaa", sum := "5ad741d6b3e255b176988c0067e00527fca90b29c9c9d7f4f355599808d5fa3d", func := "loop.example/g00699/laws.FnExactPunctHas", spec := "fnExactPunctHas", plainKeys := false, apart := false }
def FnExactPunctHasSaid : Prop := fnExactPunctHasRow.holds Try.pinned (OpenSpec.ofChange fnExactPunctHasSpec)

/-- ITS FALSE NEIGHBOUR: 'it returns false'. Refute it at one input. -/
def fnExactPunctHasWrong : ChangeSpec := { name := "fnExactPunctHas", fn := fun _ => fun
  | [d1, d2, d3] => { results := [.lit (.bool false)], args := [d1, d2, d3] }
  | _ => none }
def FnExactPunctHasWrongFalsely : Prop := fnExactPunctHasRow.holds Try.pinned (OpenSpec.ofChange fnExactPunctHasWrong)

/-- 'laws.FnExactPolicyOk': WHATEVER THE INPUT: true; the input reads as it did. -/
def fnExactPolicyOkSpec : ChangeSpec := { name := "fnExactPolicyOk", fn := fun _ => fun
  | [d1, d2] => { results := [.lit (.bool true)], args := [d1, d2] }
  | _ => none }
def fnExactPolicyOkRow : OpenClaim := { program := "ytipcjofmplpffaa", sum := "5ad741d6b3e255b176988c0067e00527fca90b29c9c9d7f4f355599808d5fa3d", func := "loop.example/g00699/laws.FnExactPolicyOk", spec := "fnExactPolicyOk", plainKeys := false, apart := false }
def FnExactPolicyOkSaid : Prop := fnExactPolicyOkRow.holds Try.pinned (OpenSpec.ofChange fnExactPolicyOkSpec)

/-- ITS FALSE NEIGHBOUR: 'it returns false'. Refute it at one input. -/
def fnExactPolicyOkWrong : ChangeSpec := { name := "fnExactPolicyOk", fn := fun _ => fun
  | [d1, d2] => { results := [.lit (.bool false)], args := [d1, d2] }
  | _ => none }
def FnExactPolicyOkWrongFalsely : Prop := fnExactPolicyOkRow.holds Try.pinned (OpenSpec.ofChange fnExactPolicyOkWrong)

/-- 'laws.FnExactPolicySet': WHATEVER THE INPUT: true; the input reads as it did. -/
def fnExactPolicySetSpec : ChangeSpec := { name := "fnExactPolicySet", fn := fun _ => fun
  | [d1, d2, d3] => { results := [.lit (.bool true)], args := [d1, d2, d3] }
  | _ => none }
def fnExactPolicySetRow : OpenClaim := { program := "ytipcjofmplpffaa", sum := "5ad741d6b3e255b176988c0067e00527fca90b29c9c9d7f4f355599808d5fa3d", func := "loop.example/g00699/laws.FnExactPolicySet", spec := "fnExactPolicySet", unfollowed := true, recurses := true, plainKeys := false, apart := false }
def FnExactPolicySetSaid : Prop := fnExactPolicySetRow.holds Try.pinned (OpenSpec.ofChange fnExactPolicySetSpec)

/-- ITS FALSE NEIGHBOUR: 'it returns false'. Refute it at one input. -/
def fnExactPolicySetWrong : ChangeSpec := { name := "fnExactPolicySet", fn := fun _ => fun
  | [d1, d2, d3] => { results := [.lit (.bool false)], args := [d1, d2, d3] }
  | _ => none }
def FnExactPolicySetWrongFalsely : Prop := fnExactPolicySetRow.holds Try.pinned (OpenSpec.ofChange fnExactPolicySetWrong)

/-- 'laws.FnExactPolicyDrop': WHATEVER THE INPUT: true; the input reads as it did. -/
def fnExactPolicyDropSpec : ChangeSpec := { name := "fnExactPolicyDrop", fn := fun _ => fun
  | [d1, d2, d3] => { results := [.lit (.bool true)], args := [d1, d2, d3] }
  | _ => none }
def fnExactPolicyDropRow : OpenClaim := { program := "ytipcjofmplpffaa", sum := "5ad741d6b3e255b176988c0067e00527fca90b29c9c9d7f4f355599808d5fa3d", func := "loop.example/g00699/laws.FnExactPolicyDrop", spec := "fnExactPolicyDrop", unfollowed := true, recurses := true, plainKeys := false, apart := false }
def FnExactPolicyDropSaid : Prop := fnExactPolicyDropRow.holds Try.pinned (OpenSpec.ofChange fnExactPolicyDropSpec)

/-- ITS FALSE NEIGHBOUR: 'it returns false'. Refute it at one input. -/
def fnExactPolicyDropWrong : ChangeSpec := { name := "fnExactPolicyDrop", fn := fun _ => fun
  | [d1, d2, d3] => { results := [.lit (.bool false)], args := [d1, d2, d3] }
  | _ => none }
def FnExactPolicyDropWrongFalsely : Prop := fnExactPolicyDropRow.holds Try.pinned (OpenSpec.ofChange fnExactPolicyDropWrong)

/-- 'laws.FnExactPolicyFor': WHATEVER THE INPUT: true; the input reads as it did. -/
def fnExactPolicyForSpec : ChangeSpec := { name := "fnExactPolicyFor", fn := fun _ => fun
  | [d1, d2, d3, d4] => { results := [.lit (.bool true)], args := [d1, d2, d3, d4] }
  | _ => none }
def fnExactPolicyForRow : OpenClaim := { program := "ytipcjofmplpffaa", sum := "5ad741d6b3e255b176988c0067e00527fca90b29c9c9d7f4f355599808d5fa3d", func := "loop.example/g00699/laws.FnExactPolicyFor", spec := "fnExactPolicyFor", plainKeys := false, apart := false }
def FnExactPolicyForSaid : Prop := fnExactPolicyForRow.holds Try.pinned (OpenSpec.ofChange fnExactPolicyForSpec)

/-- ITS FALSE NEIGHBOUR: 'it returns false'. Refute it at one input. -/
def fnExactPolicyForWrong : ChangeSpec := { name := "fnExactPolicyFor", fn := fun _ => fun
  | [d1, d2, d3, d4] => { results := [.lit (.bool false)], args := [d1, d2, d3, d4] }
  | _ => none }
def FnExactPolicyForWrongFalsely : Prop := fnExactPolicyForRow.holds Try.pinned (OpenSpec.ofChange fnExactPolicyForWrong)

/- THE SECOND FORM. 'bulk': how many values and letters a reading holds, each counted each time it is reached (what is shared counts as often as it is met; a slice's spare places count too). A statement '..UptoSaid' is the law's where the arguments, and the package variables that the reading takes, are together of bulk at most 1048576: NARROWER than '..Said'. Prove '..Said' where nothing that the law and all that it calls make is longer than what came in: it says more and counts as full. Else prove '..UptoSaid'. A law counts once. -/
mutual
def uptoBulk {H : Type} : DataW H → Nat
  | .lit (.string bytes) => bytes.length + 1
  | .lit _ => 1
  | .nil => 1
  | .ptr d => uptoBulk d + 1
  | .slice elems spare => uptoBulkAll elems + uptoBulkAll spare + 1
  | .agg parts => uptoBulkAll parts + 1
  | .iface _ d => uptoBulk d + 1
  | .map entries => uptoBulkEntries entries + 1
  | .held _ => 1
def uptoBulkAll {H : Type} : List (DataW H) → Nat
  | [] => 0
  | d :: r => uptoBulk d + uptoBulkAll r
def uptoBulkEntries {H : Type} : List (Lit × DataW H) → Nat
  | [] => 0
  | x :: r => uptoBulkEntry x + uptoBulkEntries r
def uptoBulkEntry {H : Type} : Lit × DataW H → Nat
  | (.string bytes, d) => bytes.length + uptoBulk d + 1
  | (_, d) => uptoBulk d + 1
 end
def uptoSmall : (H : Type) → List (DataW H) → Bool := fun _ ds => decide (uptoBulkAll ds ≤ 1048576)
def OpenSpec.upto (s : _root_.Go.ChangeSpec) : _root_.Go.OpenSpec := { _root_.Go.OpenSpec.ofChange s with cond := some uptoSmall }

/-- 'laws.FnPolicy', WHERE WHAT IT READS IS OF BULK AT MOST 1048576: true; the input reads as it did. -/
def fnPolicyUptoRow : OpenClaim := { program := "ytipcjofmplpffaa", sum := "5ad741d6b3e255b176988c0067e00527fca90b29c9c9d7f4f355599808d5fa3d", func := "loop.example/g00699/laws.FnPolicy", spec := "fnPolicy", unfollowed := true, recurses := true, plainKeys := false, apart := false, narrowed := true }
def FnPolicyUptoSaid : Prop := fnPolicyUptoRow.holds Try.pinned (OpenSpec.upto fnPolicySpec)

/-- 'laws.FnClosed', WHERE WHAT IT READS IS OF BULK AT MOST 1048576: true; the input reads as it did. -/
def fnClosedUptoRow : OpenClaim := { program := "ytipcjofmplpffaa", sum := "5ad741d6b3e255b176988c0067e00527fca90b29c9c9d7f4f355599808d5fa3d", func := "loop.example/g00699/laws.FnClosed", spec := "fnClosed", plainKeys := false, apart := false, narrowed := true }
def FnClosedUptoSaid : Prop := fnClosedUptoRow.holds Try.pinned (OpenSpec.upto fnClosedSpec)

/-- 'laws.FnExactPunctOk', WHERE WHAT IT READS IS OF BULK AT MOST 1048576: true; the input reads as it did. -/
def fnExactPunctOkUptoRow : OpenClaim := { program := "ytipcjofmplpffaa", sum := "5ad741d6b3e255b176988c0067e00527fca90b29c9c9d7f4f355599808d5fa3d", func := "loop.example/g00699/laws.FnExactPunctOk", spec := "fnExactPunctOk", plainKeys := false, apart := false, narrowed := true }
def FnExactPunctOkUptoSaid : Prop := fnExactPunctOkUptoRow.holds Try.pinned (OpenSpec.upto fnExactPunctOkSpec)

/-- 'laws.FnExactPunctHas', WHERE WHAT IT READS IS OF BULK AT MOST 1048576: true; the input reads as it did. -/
def fnExactPunctHasUptoRow : OpenClaim := { program := "ytipcjofmplpffaa", sum := "5ad741d6b3e255b176988c0067e00527fca90b29c9c9d7f4f355599808d5fa3d", func := "loop.example/g00699/laws.FnExactPunctHas", spec := "fnExactPunctHas", plainKeys := false, apart := false, narrowed := true }
def FnExactPunctHasUptoSaid : Prop := fnExactPunctHasUptoRow.holds Try.pinned (OpenSpec.upto fnExactPunctHasSpec)

/-- 'laws.FnExactPolicyOk', WHERE WHAT IT READS IS OF BULK AT MOST 1048576: true; the input reads as it did. -/
def fnExactPolicyOkUptoRow : OpenClaim := { program := "ytipcjofmplpffaa", sum := "5ad741d6b3e255b176988c0067e00527fca90b29c9c9d7f4f355599808d5fa3d", func := "loop.example/g00699/laws.FnExactPolicyOk", spec := "fnExactPolicyOk", plainKeys := false, apart := false, narrowed := true }
def FnExactPolicyOkUptoSaid : Prop := fnExactPolicyOkUptoRow.holds Try.pinned (OpenSpec.upto fnExactPolicyOkSpec)

/-- 'laws.FnExactPolicySet', WHERE WHAT IT READS IS OF BULK AT MOST 1048576: true; the input reads as it did. -/
def fnExactPolicySetUptoRow : OpenClaim := { program := "ytipcjofmplpffaa", sum := "5ad741d6b3e255b176988c0067e00527fca90b29c9c9d7f4f355599808d5fa3d", func := "loop.example/g00699/laws.FnExactPolicySet", spec := "fnExactPolicySet", unfollowed := true, recurses := true, plainKeys := false, apart := false, narrowed := true }
def FnExactPolicySetUptoSaid : Prop := fnExactPolicySetUptoRow.holds Try.pinned (OpenSpec.upto fnExactPolicySetSpec)

/-- 'laws.FnExactPolicyDrop', WHERE WHAT IT READS IS OF BULK AT MOST 1048576: true; the input reads as it did. -/
def fnExactPolicyDropUptoRow : OpenClaim := { program := "ytipcjofmplpffaa", sum := "5ad741d6b3e255b176988c0067e00527fca90b29c9c9d7f4f355599808d5fa3d", func := "loop.example/g00699/laws.FnExactPolicyDrop", spec := "fnExactPolicyDrop", unfollowed := true, recurses := true, plainKeys := false, apart := false, narrowed := true }
def FnExactPolicyDropUptoSaid : Prop := fnExactPolicyDropUptoRow.holds Try.pinned (OpenSpec.upto fnExactPolicyDropSpec)

/-- 'laws.FnExactPolicyFor', WHERE WHAT IT READS IS OF BULK AT MOST 1048576: true; the input reads as it did. -/
def fnExactPolicyForUptoRow : OpenClaim := { program := "ytipcjofmplpffaa", sum := "5ad741d6b3e255b176988c0067e00527fca90b29c9c9d7f4f355599808d5fa3d", func := "loop.example/g00699/laws.FnExactPolicyFor", spec := "fnExactPolicyFor", plainKeys := false, apart := false, narrowed := true }
def FnExactPolicyForUptoSaid : Prop := fnExactPolicyForUptoRow.holds Try.pinned (OpenSpec.upto fnExactPolicyForSpec)

end Rows
end Go.Proofs.Ytipcjofmplpffaa
