/-
  For every list of tokens: laws.FnExactExprText returns true and leaves its argument as it was. There is no condition but that the four tables that the row lists hold what the program's text lays (the card ties them).
-/
import Derived.Test.YtmkfmohahfaemaaDoorLawExprText
import Derived.Test.YtmkfmohahfaemaaDoorLawRowT
import Derived.Test.YtmkfmohahfaemaaDoorLawVarS
import Derived.Test.YtmkfmohahfaemaaDoorCards
import Derived.Test.YtmkfmohahfaemaaDoorTie
import Derived.Deep.DeepHandedRow
import Derived.Lib.LaidTab
namespace Go.Proofs.YtmkfmohahfaemaaDoor
open Go.ChangeShapes Go.WideShapes Go.ChangeAt Go.RowKit

def putCells (cs : List Value) : Obj → Obj
  | .cells _ t frozen => .cells cs.toArray t frozen
  | o => o
def de32 : List Nat := [0, 1, 28, 2, 29, 14, 24, 3, 30, 22, 20, 15, 25, 17, 4, 8, 31, 27, 13, 23, 21, 19, 16, 7, 26, 12, 18, 6, 11, 5, 10, 9]
def de64 : List Nat := [0, 1, 56, 2, 57, 49, 28, 3, 61, 58, 42, 50, 38, 29, 17, 4, 62, 47, 59, 36, 45, 43, 51, 22, 53, 39, 33, 30, 24, 18, 12, 5, 63, 55, 48, 27, 60, 41, 37, 16, 46, 35, 44, 21, 52, 32, 23, 11, 54, 26, 40, 15, 34, 20, 31, 10, 25, 14, 19, 9, 13, 8, 7, 6]
def u8s (ns : List Nat) : List Value := ns.map fun n : Nat => Value.int .u8 (n : Int)
def pows : List Value := (List.range 20).map fun i => Value.int .u64 ((10 ^ i : Nat) : Int)
def opCells : List Value := signs.map fun l => Value.string ⟨l.toArray⟩
/-- A world for the witness: the settled one, the four tables laid. -/
noncomputable def laidWorld (os : Os) : World :=
  { World.holding Tryd.prog os ⟨#[], #[], []⟩ with heap := ((((World.holding Tryd.prog os ⟨#[], #[], []⟩).heap.modify 9 (putCells (u8s de32))).modify 10 (putCells (u8s de64))).modify 6 (putCells pows)).modify 2 (putCells opCells) }
set_option maxRecDepth 100000 in
theorem exprText_met (os : Os) : laidMet Tryd.prog Rows.fnExactExprTextRow.laid ((laidWorld os).forCall (fun _ _ => 0) ⟨#[], #[.slice none 0 0], []⟩).memory :=
  laidMet_of_run' 8 (by kernel_rfl) (by kernel_rfl)
theorem exprText_reads (os : Os) {H : Type} (enc : TypeId × Value → H) : ∃ ds places, ds = [.nil] ∧ DataW.whole enc Tryd.prog ((laidWorld os).forCall (fun _ _ => 0) ⟨#[], #[.slice none 0 0], []⟩).memory Tryd.f5.params.toList Rows.fnExactExprTextSpec.vars false #[Value.slice none 0 0].toList 8 = some (ds, [Rows.laid_loop_example_g00699_impl_opWords], places) :=
  ⟨[.nil], MemPlace.row ⟨2, 0, none⟩ 12, rfl, by kernel_rfl⟩

theorem exprTabs_of {W : World} (h : laidMet Tryd.prog Rows.fnExactExprTextRow.laid W) : Tabs W := by
  have h2 := laidMet.tail (laidMet.tail h)
  refine ⟨Lib.tabIs_of_head (g := 6) (t := 161) (e := 61) (n := 20) (by kernel_rfl) (by kernel_rfl) Tryd.underlying161 Tryd.underlying61 (by kernel_rfl) (by kernel_rfl) h2, fun k hk => ?_⟩
  obtain ⟨ps, ⟨g', t', cs, fuel, p, q, hg', ht', hvar, hd, _, _⟩, _⟩ := laidMet.tail h2
  obtain rfl : 2 = g' := Option.some.inj ((show Tryd.prog.globalNamed "loop.example/g00699/impl.opWords" = some 2 by kernel_rfl).symm.trans hg')
  obtain rfl : 100 = t' := Option.some.inj ((show (Tryd.prog.globals[(2 : Nat)]?).map (·.type) = some 100 by kernel_rfl).symm.trans ht')
  have hc := strs_of_trod (ls := signs) Tryd.underlying100 Tryd.underlying9 (by kernel_rfl) hd k hk
  have hv := World.var?_cell hg' hvar k
  rw [hv]
  simpa [sign] using hc

set_option maxRecDepth 100000 in
theorem fnExactExprText_lifted (os : Os) (started : os.Started) (H : Type) (enc : TypeId × Value → H) (F : Stop.Interp) :
    ReturnsInHanded {} Tryd.checked os 5 .any ((OpenSpec.ofChange Rows.fnExactExprTextSpec).preRow enc Tryd.prog Tryd.f5 Rows.fnExactExprTextRow.domain false Rows.fnExactExprTextRow.laid) (((OpenSpec.ofChange Rows.fnExactExprTextSpec).at F).post enc Tryd.prog Tryd.f5 false true false false) := by
  obtain ⟨ds, places, rfl, hx⟩ := exprText_reads os enc
  refine returnsInHanded_of_row (C := Tryd.checked) (s := OpenSpec.ofChange Rows.fnExactExprTextSpec) Tryd.ownKnob started (by kernel_rfl) Tryd.func5
    (witness_row_at (enc := enc) (C := Tryd.checked) false (laidWorld os) #[.slice none 0 0] rfl (by kernel_rfl) (by kernel_rfl) (by kernel_rfl)
      (OpenSpec.preRow_of_cond 8 hx (by kernel_rfl) (fun k hk => by cases hk) (by kernel_rfl) (exprText_met os))) ?_
  intro W base args ds gs before hval0 hW _ _ _ hL _ _
  have hval : ∀ (j : Nat) t v, Tryd.f5.params[j]? = some t → args[j]? = some v → Value.okWide Tryd.prog W .any base t v := hval0
  have hW' := hW
  obtain ⟨p, q, hA0, hV, rfl, hfz, hnd⟩ := hW
  have hA : DataW.TrodAll enc Tryd.prog W 0 (fun _ => true) true Tryd.f5.params.toList args.toList ds p := hA0
  have hback := fun W' (bel : Below W.heap.size W W') => trodAll_below bel _ (by
    rw [Tryd.params5]; intro t ht; simp only [List.mem_cons, List.not_mem_nil, or_false] at ht
    rcases ht with rfl <;> exact ⟨by kernel_rfl, of_decide_eq_true (by kernel_rfl)⟩) hA
  rw [Tryd.params5] at hA hval
  obtain ⟨v0, vs0, d0, ds0, p0, q0, hargs, rfl, rfl, h0, r0⟩ := trodAll_cons hA
  obtain ⟨rfl, rfl, rfl⟩ := trodAll_nil r0
  obtain rfl : args = #[v0] := by cases args; simp_all
  obtain ⟨gv, tv, cv, fv, dv, pv, rfl, hgv, htv, hvv, hdv, rfl⟩ := trodVars_one hV
  obtain rfl : 2 = gv := Option.some.inj ((show Tryd.prog.globalNamed "loop.example/g00699/impl.opWords" = some 2 by kernel_rfl).symm.trans hgv)
  obtain rfl : 100 = tv := Option.some.inj ((show (Tryd.prog.globals[(2 : Nat)]?).map (·.type) = some 100 by kernel_rfl).symm.trans htv)
  have hvback := fun W' (bel : Below W.heap.size W W') => trodVars_mk1 (enc := enc) (w := W') (spare := fun b => decide (b < W.heap.size)) hgv htv (var_below hvv bel) ((trod_strs Tryd.underlying100 Tryd.underlying9 fv cv.toList).symm.trans hdv)
  have hT := exprTabs_of hL
  obtain ⟨A, ca, es, rfl, hR0, hn0, hi0⟩ := toks_in (hval 0 35 v0 rfl rfl) h0
  refine (fnExactExprText_walk A ca es W hR0 hn0 hi0 hT).mono fun e W' ⟨he, bel⟩ => ?_
  subst he
  exact ⟨_, rfl, _, _, _, [], _, _, hW', trodAll_mk1 (shut_bool Tryd.underlying4 _), hback W' bel, hvback W' bel, bel.frame _, fun h => by cases h⟩

theorem fnExactExprText_said : Rows.FnExactExprTextSaid :=
  OpenClaim.holds_of_cond 5 Tryd.f5 rfl rfl rfl rfl rfl rfl rfl ⟨rfl, rfl, rfl, rfl, rfl⟩ rfl rfl rfl rfl rfl (by kernel_rfl) Tryd.func5 (by kernel_rfl)
    (of_decide_eq_true (by kernel_rfl)) (by unfold Func.isWrapper; first | (rw [if_pos (by decide +kernel)]; kernel_rfl) | (rw [if_neg (by decide +kernel)]; exact ⟨rfl, rfl⟩))
    (fun os started H enc _ F => by rw [OpenClaim.pre_eq_preRow]; exact fnExactExprText_lifted os started H enc F)

theorem fnExactExprText_plain (f : FuncId) (fn : Func) (hf : Tryd.pinned.checked.prog.funcNamed "loop.example/g00699/laws.FnExactExprText" = some f) (hfn : Tryd.pinned.checked.prog.funcs[f]? = some fn) :
    true = Tryd.pinned.checked.prog.looks [] ∧ ∀ (j : Nat) t, fn.params[j]? = some t → Tryd.pinned.checked.prog.wantsStandIn t = false := by
  obtain rfl : f = 5 := Option.some.inj ((show Tryd.prog.funcNamed "loop.example/g00699/laws.FnExactExprText" = some 5 by kernel_rfl).symm.trans hf) |>.symm
  obtain rfl : fn = Tryd.f5 := (Option.some.inj (Tryd.func5.symm.trans hfn)).symm
  refine ⟨by kernel_rfl, fun j t ht => ?_⟩
  rw [Tryd.params5] at ht
  obtain rfl : t = 35 := by simpa using Array.mem_of_getElem? ht
  exact (show Tryd.prog.wantsStandIn 35 = false by kernel_rfl)

theorem fnExactExprText_holds : Rows.FnExactExprTextCardSaid :=
  Claim7.holds_tied_plain_at .later [] _ _ _ _ fnExactExprText_said (fun _ h => by cases h) (by kernel_rfl) (fun _ h => by cases h) fnExactExprText_row_tie rfl ⟨rfl, rfl⟩ (by kernel_rfl) rfl fnExactExprText_plain (by kernel_rfl)
end Go.Proofs.YtmkfmohahfaemaaDoor
