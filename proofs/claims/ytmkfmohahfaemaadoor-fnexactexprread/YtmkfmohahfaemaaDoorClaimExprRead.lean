/-
  For every string: laws.FnExactExprRead returns true. There is no condition but that the tables and the two errors of strconv that the row lists hold what the program's text lays (the card ties them).
-/
import Derived.Test.YtmkfmohahfaemaaDoorLawExprRead
import Derived.ChangeMaps5
import Derived.Test.YtmkfmohahfaemaaDoorLawVarS
import Derived.Test.YtmkfmohahfaemaaDoorCards
import Derived.Test.YtmkfmohahfaemaaDoorTie
import Derived.Deep.DeepHandedRow
import Derived.Lib.LaidTab
import Derived.Deep.DeepLaidRun
namespace Go.Proofs.YtmkfmohahfaemaaDoor
open Go.ChangeShapes Go.WideShapes Go.ChangeAt Go.RowKit

def putCells (cs : List Value) : Obj → Obj
  | .cells _ t frozen => .cells cs.toArray t frozen
  | o => o
def de32 : List Nat := [0, 1, 28, 2, 29, 14, 24, 3, 30, 22, 20, 15, 25, 17, 4, 8, 31, 27, 13, 23, 21, 19, 16, 7, 26, 12, 18, 6, 11, 5, 10, 9]
def de64 : List Nat := [0, 1, 56, 2, 57, 49, 28, 3, 61, 58, 42, 50, 38, 29, 17, 4, 62, 47, 59, 36, 45, 43, 51, 22, 53, 39, 33, 30, 24, 18, 12, 5, 63, 55, 48, 27, 60, 41, 37, 16, 46, 35, 44, 21, 52, 32, 23, 11, 54, 26, 40, 15, 34, 20, 31, 10, 25, 14, 19, 9, 13, 8, 7, 6]
def u8s (ns : List Nat) : List Value := ns.map fun n : Nat => Value.int .u8 (n : Int)
def pows : List Value := (List.range 20).map fun i => Value.int .u64 ((10 ^ i : Nat) : Int)
def opCells : List Value := signs.map fun l => Value.string ⟨l.toArray⟩
def accept : List Nat := [128, 191, 160, 191, 128, 159, 144, 191, 128, 143, 0, 0, 0, 0, 0, 0, 0, 0, 0, 0, 0, 0, 0, 0, 0, 0, 0, 0, 0, 0, 0, 0]
def synS : ByteArray := ⟨#[105, 110, 118, 97, 108, 105, 100, 32, 115, 121, 110, 116, 97, 120]⟩
def ranS : ByteArray := ⟨#[118, 97, 108, 117, 101, 32, 111, 117, 116, 32, 111, 102, 32, 114, 97, 110, 103, 101]⟩
/-- So many blocks has the settled world. -/
noncomputable def low : Nat := (World.holding Tryd.prog default ⟨#[], #[], []⟩).heap.size
/-- A world for the witness: the settled one, the tables laid, the two errors in blocks of their own. -/
noncomputable def laidWorld (os : Os) : World :=
  { World.holding Tryd.prog os ⟨#[.cells #[.string synS] 174, .cells #[.string ranS] 174], #[], []⟩ with heap := ((((((((World.holding Tryd.prog os ⟨#[.cells #[.string synS] 174, .cells #[.string ranS] 174], #[], []⟩).heap.modify 9 (putCells (u8s de32))).modify 10 (putCells (u8s de64))).modify 6 (putCells pows)).modify 8 (putCells (u8s accept))).modify 7 (putCells (u8s Go.Pinned.utf8FirstZ))).modify 4 (putCells [.iface 172 (.pointer (some ⟨low, 0, none⟩))])).modify 5 (putCells [.iface 172 (.pointer (some ⟨low + 1, 0, none⟩))])).modify 2 (putCells opCells) }
set_option maxRecDepth 100000 in
theorem exprRead_met (os : Os) : laidMet Tryd.prog Rows.fnExactExprReadRow.laid ((laidWorld os).forCall (fun _ _ => 0) ⟨#[], #[.string ⟨#[]⟩], []⟩).memory :=
  laidMet_of_run3 8 (by kernel_rfl) (by kernel_rfl) (by kernel_rfl)
theorem exprRead_reads (os : Os) {H : Type} (enc : TypeId × Value → H) : ∃ ds places, ds = [.lit (.string [])] ∧ DataW.whole enc Tryd.prog ((laidWorld os).forCall (fun _ _ => 0) ⟨#[], #[.string ⟨#[]⟩], []⟩).memory Tryd.f6.params.toList Rows.fnExactExprReadSpec.vars false #[Value.string ⟨#[]⟩].toList 8 = some (ds, [Rows.laid_loop_example_g00699_impl_opWords], places) :=
  ⟨[.lit (.string [])], MemPlace.row ⟨2, 0, none⟩ 12, rfl, by kernel_rfl⟩

theorem iface_of_trod {H : Type} {enc : TypeId × Value → H} {P : Program} {W : World} {b : Nat} {sp : Nat → Bool} {held : Bool} {fuel : Nat} {t : TypeId} {ms : Array (String × TypeId)} {cs : List Value} {nm : String} {d : DataW H} {p : List MemPlace}
    (ht : P.underlying t = some (.interface ms)) (h : DataW.trod enc P W b sp held fuel t cs = some (.iface nm d, p)) : ∃ u v, cs = [.iface u v] := by
  cases fuel with
  | zero => simp [DataW.trod] at h
  | succ fuel =>
    unfold DataW.trod at h
    rw [ht] at h
    split at h <;> simp_all
theorem exprErrs_of {W : World} (h : laidMet Tryd.prog Rows.fnExactExprReadRow.laid W) (hsh : W.ShapedOpen Tryd.prog) : Errs W := by
  have h2 := laidMet.tail (laidMet.tail (laidMet.tail (laidMet.tail h)))
  have h3 := laidMet.tail h2
  refine ⟨?_, ?_, S.laysM146.s1_3 W hsh⟩
  · obtain ⟨ps, ⟨g', t', cs, fuel, p, q, hg', ht', hvar, hd, _, _⟩, _⟩ := h3
    obtain rfl : 4 = g' := Option.some.inj ((show Tryd.prog.globalNamed "strconv.ErrSyntax" = some 4 by kernel_rfl).symm.trans hg')
    obtain rfl : 53 = t' := Option.some.inj ((show (Tryd.prog.globals[(4 : Nat)]?).map (·.type) = some 53 by kernel_rfl).symm.trans ht')
    obtain ⟨u, v, e⟩ := iface_of_trod Tryd.underlying53 hd
    exact ⟨u, v, by rw [hvar]; congr 1; exact Array.toList_inj.1 e⟩
  · obtain ⟨ps, ⟨g', t', cs, fuel, p, q, hg', ht', hvar, hd, _, _⟩, _⟩ := h2
    obtain rfl : 5 = g' := Option.some.inj ((show Tryd.prog.globalNamed "strconv.ErrRange" = some 5 by kernel_rfl).symm.trans hg')
    obtain rfl : 53 = t' := Option.some.inj ((show (Tryd.prog.globals[(5 : Nat)]?).map (·.type) = some 53 by kernel_rfl).symm.trans ht')
    obtain ⟨u, v, e⟩ := iface_of_trod Tryd.underlying53 hd
    exact ⟨u, v, by rw [hvar]; congr 1; exact Array.toList_inj.1 e⟩
theorem exprReadTabs_of {W : World} (h : laidMet Tryd.prog Rows.fnExactExprReadRow.laid W) : Tabs W := by
  have h2 := laidMet.tail (laidMet.tail h)
  refine ⟨Lib.tabIs_of_head (g := 6) (t := 161) (e := 61) (n := 20) (by kernel_rfl) (by kernel_rfl) Tryd.underlying161 Tryd.underlying61 (by kernel_rfl) (by kernel_rfl) h2, fun k hk => ?_⟩
  obtain ⟨ps, ⟨g', t', cs, fuel, p, q, hg', ht', hvar, hd, _, _⟩, _⟩ := laidMet.tail (laidMet.tail (laidMet.tail (laidMet.tail h2)))
  obtain rfl : 2 = g' := Option.some.inj ((show Tryd.prog.globalNamed "loop.example/g00699/impl.opWords" = some 2 by kernel_rfl).symm.trans hg')
  obtain rfl : 100 = t' := Option.some.inj ((show (Tryd.prog.globals[(2 : Nat)]?).map (·.type) = some 100 by kernel_rfl).symm.trans ht')
  have hc := strs_of_trod (ls := signs) Tryd.underlying100 Tryd.underlying9 (by kernel_rfl) hd k hk
  have hv := World.var?_cell hg' hvar k
  rw [hv]
  simpa [sign] using hc

set_option maxRecDepth 100000 in
theorem fnExactExprRead_lifted (os : Os) (started : os.Started) (H : Type) (enc : TypeId × Value → H) (F : Stop.Interp) :
    ReturnsInHanded {} Tryd.checked os 6 .any ((OpenSpec.ofChange Rows.fnExactExprReadSpec).preRow enc Tryd.prog Tryd.f6 Rows.fnExactExprReadRow.domain false Rows.fnExactExprReadRow.laid) (((OpenSpec.ofChange Rows.fnExactExprReadSpec).at F).post enc Tryd.prog Tryd.f6 false true false false) := by
  obtain ⟨ds, places, rfl, hx⟩ := exprRead_reads os enc
  refine returnsInHanded_of_row (C := Tryd.checked) (s := OpenSpec.ofChange Rows.fnExactExprReadSpec) Tryd.ownKnob started (by kernel_rfl) Tryd.func6
    (witness_row_at (enc := enc) (C := Tryd.checked) false (laidWorld os) #[.string ⟨#[]⟩] rfl (by kernel_rfl) (by kernel_rfl) (by kernel_rfl)
      (OpenSpec.preRow_of_cond 8 hx (by kernel_rfl) (fun k hk => by cases hk) (by kernel_rfl) (exprRead_met os))) ?_
  intro W base args ds gs before hval0 hW _ _ _ hL hsh _
  have hval : ∀ (j : Nat) t v, Tryd.f6.params[j]? = some t → args[j]? = some v → Value.okWide Tryd.prog W .any base t v := hval0
  have hW' := hW
  obtain ⟨p, q, hA0, hV, rfl, hfz, hnd⟩ := hW
  have hA : DataW.TrodAll enc Tryd.prog W 0 (fun _ => true) true Tryd.f6.params.toList args.toList ds p := hA0
  have hback := fun W' (bel : Below W.heap.size W W') => trodAll_below bel _ (by
    rw [Tryd.params6]; intro t ht; simp only [List.mem_cons, List.not_mem_nil, or_false] at ht
    rcases ht with rfl <;> exact ⟨by kernel_rfl, of_decide_eq_true (by kernel_rfl)⟩) hA
  rw [Tryd.params6] at hA hval
  obtain ⟨v0, vs0, d0, ds0, p0, q0, hargs, rfl, rfl, h0, r0⟩ := trodAll_cons hA
  obtain ⟨rfl, rfl, rfl⟩ := trodAll_nil r0
  obtain rfl : args = #[v0] := by cases args; simp_all
  obtain ⟨gv, tv, cv, fv, dv, pv, rfl, hgv, htv, hvv, hdv, rfl⟩ := trodVars_one hV
  obtain rfl : 2 = gv := Option.some.inj ((show Tryd.prog.globalNamed "loop.example/g00699/impl.opWords" = some 2 by kernel_rfl).symm.trans hgv)
  obtain rfl : 100 = tv := Option.some.inj ((show (Tryd.prog.globals[(2 : Nat)]?).map (·.type) = some 100 by kernel_rfl).symm.trans htv)
  have hvback := fun W' (bel : Below W.heap.size W W') => trodVars_mk1 (enc := enc) (w := W') (spare := fun b => decide (b < W.heap.size)) hgv htv (var_below hvv bel) ((trod_strs Tryd.underlying100 Tryd.underlying9 fv cv.toList).symm.trans hdv)
  have hT := exprReadTabs_of hL
  have hE := exprErrs_of hL hsh
  obtain ⟨s, rfl, _, _, _⟩ := Go.ChangeMaps.open_string Tryd.underlying9 (hval 0 9 v0 rfl rfl) h0
  obtain ⟨l, rfl⟩ : ∃ l : List UInt8, s = ⟨l.toArray⟩ := ⟨s.data.toList, by simp⟩
  refine (fnExactExprRead_walk l W hT hE).mono fun e W' ⟨he, bel⟩ => ?_
  subst he
  exact ⟨_, rfl, _, _, _, [], _, _, hW', trodAll_mk1 (shut_bool Tryd.underlying4 _), hback W' bel, hvback W' bel, bel.frame _, fun h => by cases h⟩

theorem fnExactExprRead_said : Rows.FnExactExprReadSaid :=
  OpenClaim.holds_of_cond 6 Tryd.f6 rfl rfl rfl rfl rfl rfl rfl ⟨rfl, rfl, rfl, rfl, rfl⟩ rfl rfl rfl rfl rfl (by kernel_rfl) Tryd.func6 (by kernel_rfl)
    (of_decide_eq_true (by kernel_rfl)) (by unfold Func.isWrapper; first | (rw [if_pos (by decide +kernel)]; kernel_rfl) | (rw [if_neg (by decide +kernel)]; exact ⟨rfl, rfl⟩))
    (fun os started H enc _ F => by rw [OpenClaim.pre_eq_preRow]; exact fnExactExprRead_lifted os started H enc F)

theorem fnExactExprRead_plain (f : FuncId) (fn : Func) (hf : Tryd.pinned.checked.prog.funcNamed "loop.example/g00699/laws.FnExactExprRead" = some f) (hfn : Tryd.pinned.checked.prog.funcs[f]? = some fn) :
    true = Tryd.pinned.checked.prog.looks [] ∧ ∀ (j : Nat) t, fn.params[j]? = some t → Tryd.pinned.checked.prog.wantsStandIn t = false := by
  obtain rfl : f = 6 := Option.some.inj ((show Tryd.prog.funcNamed "loop.example/g00699/laws.FnExactExprRead" = some 6 by kernel_rfl).symm.trans hf) |>.symm
  obtain rfl : fn = Tryd.f6 := (Option.some.inj (Tryd.func6.symm.trans hfn)).symm
  refine ⟨by kernel_rfl, fun j t ht => ?_⟩
  rw [Tryd.params6] at ht
  obtain rfl : t = 9 := by simpa using Array.mem_of_getElem? ht
  exact (show Tryd.prog.wantsStandIn 9 = false by kernel_rfl)

theorem fnExactExprRead_holds : Rows.FnExactExprReadCardSaid :=
  Claim7.holds_tied_plain_at .later [] _ _ _ _ fnExactExprRead_said (fun _ h => by cases h) (by kernel_rfl) (fun _ h => by cases h) fnExactExprRead_row_tie rfl ⟨rfl, rfl⟩ (by kernel_rfl) rfl fnExactExprRead_plain (by kernel_rfl)
end Go.Proofs.YtmkfmohahfaemaaDoor
