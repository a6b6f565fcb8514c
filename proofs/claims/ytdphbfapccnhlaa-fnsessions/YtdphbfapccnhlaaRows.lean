/-
  No cell of these rows narrows 'for every input' (looked for: loops, veiled, ifaces, maps, wideKeys, modest, calm, conditions, laid).
  DERIVED. THE GIVEN ROWS OF THIS SEAT. 10 by the template 'for every input the law returns true; each argument reads behind the call as it read before'; 0 by the template 'total and deterministic' (their statements: YtdphbfapccnhlaaTotals.lean).
  GIVEN WITH THE SEED: the statements are not yours to turn. If you find one false, say at which input.
  Laid BY PROGRAM, IN A SANDBOX (cutbox-rows.mjs): the forced cells as the released guide's own fill.sh prints them over the translation d98f443335cafc98… (all of the seat's roots in one cut). By AI agents, Wed Nov 11 2026. No macro, syntax, notation, axiom, sorry.
-/
import Derived.Test.YtdphbfapccnhlaaChecked
import GoSem.Claim
import GoSem.ClaimJoined
import GoSem.ClaimMapViews
import Derived.JoinedTies
import Derived.KernelRfl
namespace Go.Proofs.Ytdphbfapccnhlaa
/- THE CELL 'sum', in the pinned program and in every row, IS THE sha256 OF THE DUMP (.gsa) THAT YtdphbfapccnhlaaProg.lean LOADS. Nothing in Lean hashes anything: it is a label: what it is worth is what the hold of that sum in a sandbox is worth. -/
noncomputable def Try.pinned : Pinned := { name := "ytdphbfapccnhlaa", sum := "d98f443335cafc98aa1056e1fdbbf28e8acc7e2799a831d3662e51f342fa3558", checked := Try.checked }
namespace Rows
def none {H : Type} : Left H := { results := [], args := [] }

/-- 'laws.FnWins': WHATEVER THE INPUT: true; the input reads as it did. -/
def fnWinsSpec : ChangeSpec := { name := "fnWins", fn := fun _ => fun
  | [d] => { results := [.lit (.bool true)], args := [d] }
  | _ => none }
def fnWinsRow : OpenClaim := { program := "ytdphbfapccnhlaa", sum := "d98f443335cafc98aa1056e1fdbbf28e8acc7e2799a831d3662e51f342fa3558", func := "loop.example/g00699/laws.FnWins", spec := "fnWins", unfollowed := true, recurses := true, apart := false }
def FnWinsSaid : Prop := fnWinsRow.holds Try.pinned (OpenSpec.ofChange fnWinsSpec)

/-- ITS FALSE NEIGHBOUR: 'it returns false'. Refute it at one input. -/
def fnWinsWrong : ChangeSpec := { name := "fnWins", fn := fun _ => fun
  | [d] => { results := [.lit (.bool false)], args := [d] }
  | _ => none }
def FnWinsWrongFalsely : Prop := fnWinsRow.holds Try.pinned (OpenSpec.ofChange fnWinsWrong)

/-- 'laws.FnSessions': WHATEVER THE INPUT: true; the input reads as it did. -/
def fnSessionsSpec : ChangeSpec := { name := "fnSessions", fn := fun _ => fun
  | [d] => { results := [.lit (.bool true)], args := [d] }
  | _ => none }
def fnSessionsRow : OpenClaim := { program := "ytdphbfapccnhlaa", sum := "d98f443335cafc98aa1056e1fdbbf28e8acc7e2799a831d3662e51f342fa3558", func := "loop.example/g00699/laws.FnSessions", spec := "fnSessions", unfollowed := true, recurses := true, apart := false }
def FnSessionsSaid : Prop := fnSessionsRow.holds Try.pinned (OpenSpec.ofChange fnSessionsSpec)

/-- ITS FALSE NEIGHBOUR: 'it returns false'. Refute it at one input. -/
def fnSessionsWrong : ChangeSpec := { name := "fnSessions", fn := fun _ => fun
  | [d] => { results := [.lit (.bool false)], args := [d] }
  | _ => none }
def FnSessionsWrongFalsely : Prop := fnSessionsRow.holds Try.pinned (OpenSpec.ofChange fnSessionsWrong)

/-- 'laws.FnSessAdd': WHATEVER THE INPUT: true; the input reads as it did. -/
def fnSessAddSpec : ChangeSpec := { name := "fnSessAdd", fn := fun _ => fun
  | [d] => { results := [.lit (.bool true)], args := [d] }
  | _ => none }
def fnSessAddRow : OpenClaim := { program := "ytdphbfapccnhlaa", sum := "d98f443335cafc98aa1056e1fdbbf28e8acc7e2799a831d3662e51f342fa3558", func := "loop.example/g00699/laws.FnSessAdd", spec := "fnSessAdd", unfollowed := true, recurses := true, apart := false }
def FnSessAddSaid : Prop := fnSessAddRow.holds Try.pinned (OpenSpec.ofChange fnSessAddSpec)

/-- ITS FALSE NEIGHBOUR: 'it returns false'. Refute it at one input. -/
def fnSessAddWrong : ChangeSpec := { name := "fnSessAdd", fn := fun _ => fun
  | [d] => { results := [.lit (.bool false)], args := [d] }
  | _ => none }
def FnSessAddWrongFalsely : Prop := fnSessAddRow.holds Try.pinned (OpenSpec.ofChange fnSessAddWrong)

/-- 'laws.FnExactWinOk': WHATEVER THE INPUT: true; the input reads as it did. -/
def fnExactWinOkSpec : ChangeSpec := { name := "fnExactWinOk", fn := fun _ => fun
  | [d] => { results := [.lit (.bool true)], args := [d] }
  | _ => none }
def fnExactWinOkRow : OpenClaim := { program := "ytdphbfapccnhlaa", sum := "d98f443335cafc98aa1056e1fdbbf28e8acc7e2799a831d3662e51f342fa3558", func := "loop.example/g00699/laws.FnExactWinOk", spec := "fnExactWinOk", apart := false }
def FnExactWinOkSaid : Prop := fnExactWinOkRow.holds Try.pinned (OpenSpec.ofChange fnExactWinOkSpec)

/-- ITS FALSE NEIGHBOUR: 'it returns false'. Refute it at one input. -/
def fnExactWinOkWrong : ChangeSpec := { name := "fnExactWinOk", fn := fun _ => fun
  | [d] => { results := [.lit (.bool false)], args := [d] }
  | _ => none }
def FnExactWinOkWrongFalsely : Prop := fnExactWinOkRow.holds Try.pinned (OpenSpec.ofChange fnExactWinOkWrong)

/-- 'laws.FnExactWinsOf': WHATEVER THE INPUT: true; the input reads as it did. -/
def fnExactWinsOfSpec : ChangeSpec := { name := "fnExactWinsOf", fn := fun _ => fun
  | [d1, d2] => { results := [.lit (.bool true)], args := [d1, d2] }
  | _ => none }
def fnExactWinsOfRow : OpenClaim := { program := "ytdphbfapccnhlaa", sum := "d98f443335cafc98aa1056e1fdbbf28e8acc7e2799a831d3662e51f342fa3558", func := "loop.example/g00699/laws.FnExactWinsOf", spec := "fnExactWinsOf", unfollowed := true, recurses := true, apart := false }
def FnExactWinsOfSaid : Prop := fnExactWinsOfRow.holds Try.pinned (OpenSpec.ofChange fnExactWinsOfSpec)

/-- ITS FALSE NEIGHBOUR: 'it returns false'. Refute it at one input. -/
def fnExactWinsOfWrong : ChangeSpec := { name := "fnExactWinsOf", fn := fun _ => fun
  | [d1, d2] => { results := [.lit (.bool false)], args := [d1, d2] }
  | _ => none }
def FnExactWinsOfWrongFalsely : Prop := fnExactWinsOfRow.holds Try.pinned (OpenSpec.ofChange fnExactWinsOfWrong)

/-- 'laws.FnExactSessOk': WHATEVER THE INPUT: true; the input reads as it did. -/
def fnExactSessOkSpec : ChangeSpec := { name := "fnExactSessOk", fn := fun _ => fun
  | [d] => { results := [.lit (.bool true)], args := [d] }
  | _ => none }
def fnExactSessOkRow : OpenClaim := { program := "ytdphbfapccnhlaa", sum := "d98f443335cafc98aa1056e1fdbbf28e8acc7e2799a831d3662e51f342fa3558", func := "loop.example/g00699/laws.FnExactSessOk", spec := "fnExactSessOk", apart := false }
def FnExactSessOkSaid : Prop := fnExactSessOkRow.holds Try.pinned (OpenSpec.ofChange fnExactSessOkSpec)

/-- ITS FALSE NEIGHBOUR: 'it returns false'. Refute it at one input. -/
def fnExactSessOkWrong : ChangeSpec := { name := "fnExactSessOk", fn := fun _ => fun
  | [d] => { results := [.lit (.bool false)], args := [d] }
  | _ => none }
def FnExactSessOkWrongFalsely : Prop := fnExactSessOkRow.holds Try.pinned (OpenSpec.ofChange fnExactSessOkWrong)

/-- 'laws.FnExactSessAdd': WHATEVER THE INPUT: true; the input reads as it did. -/
def fnExactSessAddSpec : ChangeSpec := { name := "fnExactSessAdd", fn := fun _ => fun
  | [d1, d2] => { results := [.lit (.bool true)], args := [d1, d2] }
  | _ => none }
def fnExactSessAddRow : OpenClaim := { program := "ytdphbfapccnhlaa", sum := "d98f443335cafc98aa1056e1fdbbf28e8acc7e2799a831d3662e51f342fa3558", func := "loop.example/g00699/laws.FnExactSessAdd", spec := "fnExactSessAdd", apart := false }
def FnExactSessAddSaid : Prop := fnExactSessAddRow.holds Try.pinned (OpenSpec.ofChange fnExactSessAddSpec)

/-- ITS FALSE NEIGHBOUR: 'it returns false'. Refute it at one input. -/
def fnExactSessAddWrong : ChangeSpec := { name := "fnExactSessAdd", fn := fun _ => fun
  | [d1, d2] => { results := [.lit (.bool false)], args := [d1, d2] }
  | _ => none }
def FnExactSessAddWrongFalsely : Prop := fnExactSessAddRow.holds Try.pinned (OpenSpec.ofChange fnExactSessAddWrong)

/-- 'laws.FnExactSessJoin': WHATEVER THE INPUT: true; the input reads as it did. -/
def fnExactSessJoinSpec : ChangeSpec := { name := "fnExactSessJoin", fn := fun _ => fun
  | [d1, d2] => { results := [.lit (.bool true)], args := [d1, d2] }
  | _ => none }
def fnExactSessJoinRow : OpenClaim := { program := "ytdphbfapccnhlaa", sum := "d98f443335cafc98aa1056e1fdbbf28e8acc7e2799a831d3662e51f342fa3558", func := "loop.example/g00699/laws.FnExactSessJoin", spec := "fnExactSessJoin", apart := false }
def FnExactSessJoinSaid : Prop := fnExactSessJoinRow.holds Try.pinned (OpenSpec.ofChange fnExactSessJoinSpec)

/-- ITS FALSE NEIGHBOUR: 'it returns false'. Refute it at one input. -/
def fnExactSessJoinWrong : ChangeSpec := { name := "fnExactSessJoin", fn := fun _ => fun
  | [d1, d2] => { results := [.lit (.bool false)], args := [d1, d2] }
  | _ => none }
def FnExactSessJoinWrongFalsely : Prop := fnExactSessJoinRow.holds Try.pinned (OpenSpec.ofChange fnExactSessJoinWrong)

/-- 'laws.FnExactSessOf': WHATEVER THE INPUT: true; the input reads as it did. -/
def fnExactSessOfSpec : ChangeSpec := { name := "fnExactSessOf", fn := fun _ => fun
  | [d1, d2] => { results := [.lit (.bool true)], args := [d1, d2] }
  | _ => none }
def fnExactSessOfRow : OpenClaim := { program := "ytdphbfapccnhlaa", sum := "d98f443335cafc98aa1056e1fdbbf28e8acc7e2799a831d3662e51f342fa3558", func := "loop.example/g00699/laws.FnExactSessOf", spec := "fnExactSessOf", unfollowed := true, recurses := true, apart := false }
def FnExactSessOfSaid : Prop := fnExactSessOfRow.holds Try.pinned (OpenSpec.ofChange fnExactSessOfSpec)

/-- ITS FALSE NEIGHBOUR: 'it returns false'. Refute it at one input. -/
def fnExactSessOfWrong : ChangeSpec := { name := "fnExactSessOf", fn := fun _ => fun
  | [d1, d2] => { results := [.lit (.bool false)], args := [d1, d2] }
  | _ => none }
def FnExactSessOfWrongFalsely : Prop := fnExactSessOfRow.holds Try.pinned (OpenSpec.ofChange fnExactSessOfWrong)

/-- 'laws.FnExactSessAt': WHATEVER THE INPUT: true; the input reads as it did. -/
def fnExactSessAtSpec : ChangeSpec := { name := "fnExactSessAt", fn := fun _ => fun
  | [d1, d2] => { results := [.lit (.bool true)], args := [d1, d2] }
  | _ => none }
def fnExactSessAtRow : OpenClaim := { program := "ytdphbfapccnhlaa", sum := "d98f443335cafc98aa1056e1fdbbf28e8acc7e2799a831d3662e51f342fa3558", func := "loop.example/g00699/laws.FnExactSessAt", spec := "fnExactSessAt", unfollowed := true, recurses := true, apart := false }
def FnExactSessAtSaid : Prop := fnExactSessAtRow.holds Try.pinned (OpenSpec.ofChange fnExactSessAtSpec)

/-- ITS FALSE NEIGHBOUR: 'it returns false'. Refute it at one input. -/
def fnExactSessAtWrong : ChangeSpec := { name := "fnExactSessAt", fn := fun _ => fun
  | [d1, d2] => { results := [.lit (.bool false)], args := [d1, d2] }
  | _ => none }
def FnExactSessAtWrongFalsely : Prop := fnExactSessAtRow.holds Try.pinned (OpenSpec.ofChange fnExactSessAtWrong)

/- THE SECOND FORM. 'bulk': how many values and letters a reading holds, each counted each time it is reached (what is shared counts as often as it is met; a slice's spare places count too). A statement '..UptoSaid' is the law's where the arguments, and the package variables that the reading takes, are together of bulk at most 1048576: NARROWER than '..Said'. Prove '..Said' where nothing that the law and all that it calls make is longer than what came in: it says more and counts as full. Else prove '..UptoSaid'. A law counts once. -/
mutual
def uptoBulk {H : Type} : DataW H → Nat
  | .lit (.string bytes) => bytes.length + 1
  | .lit _ => 1
  | .nil => 1
  | .ptr d => uptoBulk d + 1
  | .slice elems spare => uptoBulkAll elems + uptoBulkAll spare + 1
  | .agg parts => uptoBulkAll parts + 1
  | .iface _ d => uptoBulk d + 1
  | .map entries => uptoBulkEntries entries + 1
  | .held _ => 1
def uptoBulkAll {H : Type} : List (DataW H) → Nat
  | [] => 0
  | d :: r => uptoBulk d + uptoBulkAll r
def uptoBulkEntries {H : Type} : List (Lit × DataW H) → Nat
  | [] => 0
  | x :: r => uptoBulkEntry x + uptoBulkEntries r
def uptoBulkEntry {H : Type} : Lit × DataW H → Nat
  | (.string bytes, d) => bytes.length + uptoBulk d + 1
  | (_, d) => uptoBulk d + 1
 end
def uptoSmall : (H : Type) → List (DataW H) → Bool := fun _ ds => decide (uptoBulkAll ds ≤ 1048576)
def OpenSpec.upto (s : _root_.Go.ChangeSpec) : _root_.Go.OpenSpec := { _root_.Go.OpenSpec.ofChange s with cond := some uptoSmall }

/-- 'laws.FnWins', WHERE WHAT IT READS IS OF BULK AT MOST 1048576: true; the input reads as it did. -/
def fnWinsUptoRow : OpenClaim := { program := "ytdphbfapccnhlaa", sum := "d98f443335cafc98aa1056e1fdbbf28e8acc7e2799a831d3662e51f342fa3558", func := "loop.example/g00699/laws.FnWins", spec := "fnWins", unfollowed := true, recurses := true, apart := false, narrowed := true }
def FnWinsUptoSaid : Prop := fnWinsUptoRow.holds Try.pinned (OpenSpec.upto fnWinsSpec)

/-- 'laws.FnSessions', WHERE WHAT IT READS IS OF BULK AT MOST 1048576: true; the input reads as it did. -/
def fnSessionsUptoRow : OpenClaim := { program := "ytdphbfapccnhlaa", sum := "d98f443335cafc98aa1056e1fdbbf28e8acc7e2799a831d3662e51f342fa3558", func := "loop.example/g00699/laws.FnSessions", spec := "fnSessions", unfollowed := true, recurses := true, apart := false, narrowed := true }
def FnSessionsUptoSaid : Prop := fnSessionsUptoRow.holds Try.pinned (OpenSpec.upto fnSessionsSpec)

/-- 'laws.FnSessAdd', WHERE WHAT IT READS IS OF BULK AT MOST 1048576: true; the input reads as it did. -/
def fnSessAddUptoRow : OpenClaim := { program := "ytdphbfapccnhlaa", sum := "d98f443335cafc98aa1056e1fdbbf28e8acc7e2799a831d3662e51f342fa3558", func := "loop.example/g00699/laws.FnSessAdd", spec := "fnSessAdd", unfollowed := true, recurses := true, apart := false, narrowed := true }
def FnSessAddUptoSaid : Prop := fnSessAddUptoRow.holds Try.pinned (OpenSpec.upto fnSessAddSpec)

/-- 'laws.FnExactWinOk', WHERE WHAT IT READS IS OF BULK AT MOST 1048576: true; the input reads as it did. -/
def fnExactWinOkUptoRow : OpenClaim := { program := "ytdphbfapccnhlaa", sum := "d98f443335cafc98aa1056e1fdbbf28e8acc7e2799a831d3662e51f342fa3558", func := "loop.example/g00699/laws.FnExactWinOk", spec := "fnExactWinOk", apart := false, narrowed := true }
def FnExactWinOkUptoSaid : Prop := fnExactWinOkUptoRow.holds Try.pinned (OpenSpec.upto fnExactWinOkSpec)

/-- 'laws.FnExactWinsOf', WHERE WHAT IT READS IS OF BULK AT MOST 1048576: true; the input reads as it did. -/
def fnExactWinsOfUptoRow : OpenClaim := { program := "ytdphbfapccnhlaa", sum := "d98f443335cafc98aa1056e1fdbbf28e8acc7e2799a831d3662e51f342fa3558", func := "loop.example/g00699/laws.FnExactWinsOf", spec := "fnExactWinsOf", unfollowed := true, recurses := true, apart := false, narrowed := true }
def FnExactWinsOfUptoSaid : Prop := fnExactWinsOfUptoRow.holds Try.pinned (OpenSpec.upto fnExactWinsOfSpec)

/-- 'laws.FnExactSessOk', WHERE WHAT IT READS IS OF BULK AT MOST 1048576: true; the input reads as it did. -/
def fnExactSessOkUptoRow : OpenClaim := { program := "ytdphbfapccnhlaa", sum := "d98f443335cafc98aa1056e1fdbbf28e8acc7e2799a831d3662e51f342fa3558", func := "loop.example/g00699/laws.FnExactSessOk", spec := "fnExactSessOk", apart := false, narrowed := true }
def FnExactSessOkUptoSaid : Prop := fnExactSessOkUptoRow.holds Try.pinned (OpenSpec.upto fnExactSessOkSpec)

/-- 'laws.FnExactSessAdd', WHERE WHAT IT READS IS OF BULK AT MOST 1048576: true; the input reads as it did. -/
def fnExactSessAddUptoRow : OpenClaim := { program := "ytdphbfapccnhlaa", sum := "d98f443335cafc98aa1056e1fdbbf28e8acc7e2799a831d3662e51f342fa3558", func := "loop.example/g00699/laws.FnExactSessAdd", spec := "fnExactSessAdd", apart := false, narrowed := true }
def FnExactSessAddUptoSaid : Prop := fnExactSessAddUptoRow.holds Try.pinned (OpenSpec.upto fnExactSessAddSpec)

/-- 'laws.FnExactSessJoin', WHERE WHAT IT READS IS OF BULK AT MOST 1048576: true; the input reads as it did. -/
def fnExactSessJoinUptoRow : OpenClaim := { program := "ytdphbfapccnhlaa", sum := "d98f443335cafc98aa1056e1fdbbf28e8acc7e2799a831d3662e51f342fa3558", func := "loop.example/g00699/laws.FnExactSessJoin", spec := "fnExactSessJoin", apart := false, narrowed := true }
def FnExactSessJoinUptoSaid : Prop := fnExactSessJoinUptoRow.holds Try.pinned (OpenSpec.upto fnExactSessJoinSpec)

/-- 'laws.FnExactSessOf', WHERE WHAT IT READS IS OF BULK AT MOST 1048576: true; the input reads as it did. -/
def fnExactSessOfUptoRow : OpenClaim := { program := "ytdphbfapccnhlaa", sum := "d98f443335cafc98aa1056e1fdbbf28e8acc7e2799a831d3662e51f342fa3558", func := "loop.example/g00699/laws.FnExactSessOf", spec := "fnExactSessOf", unfollowed := true, recurses := true, apart := false, narrowed := true }
def FnExactSessOfUptoSaid : Prop := fnExactSessOfUptoRow.holds Try.pinned (OpenSpec.upto fnExactSessOfSpec)

/-- 'laws.FnExactSessAt', WHERE WHAT IT READS IS OF BULK AT MOST 1048576: true; the input reads as it did. -/
def fnExactSessAtUptoRow : OpenClaim := { program := "ytdphbfapccnhlaa", sum := "d98f443335cafc98aa1056e1fdbbf28e8acc7e2799a831d3662e51f342fa3558", func := "loop.example/g00699/laws.FnExactSessAt", spec := "fnExactSessAt", unfollowed := true, recurses := true, apart := false, narrowed := true }
def FnExactSessAtUptoSaid : Prop := fnExactSessAtUptoRow.holds Try.pinned (OpenSpec.upto fnExactSessAtSpec)

end Rows
end Go.Proofs.Ytdphbfapccnhlaa
