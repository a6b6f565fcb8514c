import Derived.Test.YtlmlckgnmkjkdaaBase
import Derived.ProofKit
import Derived.OpenShut
import Derived.ChangeOld
import Derived.Lib.SmallJoins
import Derived.Test.YtlmlckgnmkjkdaaPairs
import Derived.Deep.SlicePairs
import Derived.Test.YtlmlckgnmkjkdaaJoinC
import Derived.Test.YtlmlckgnmkjkdaaWinMath
import Derived.Test.YtlmlckgnmkjkdaaWideA
import Derived.Test.YtlmlckgnmkjkdaaAggI
import Derived.Test.YtlmlckgnmkjkdaaJoinA

/-
  From a law's walk to its row: what every row needs.
-/
namespace Go.Proofs.Ytlmlckgnmkjkdaa
open Go.ChangeShapes Go.WideShapes Go.ChangeAt Go.RowKit Go.Joins

theorem Try.ownKnob : ownKnob Try.prog.godebug = none := by kernel_rfl
theorem Try.laidOut : laidOutB Try.prog = true := by kernel_rfl

/-- The arguments read as they did. -/
theorem trodAll_below {H : Type} {enc : TypeId × Value → H} {W W' : World} (hb : Below W.heap.size W W') (ts : List TypeId) (hr : ∀ t ∈ ts, Try.prog.readableRec t = true ∧ t < Try.prog.types.size) :
    ∀ {vs : List Value} {ds : List (DataW H)} {ps : List MemPlace}, DataW.TrodAll enc Try.prog W 0 (fun _ => true) true ts vs ds ps →
      DataW.TrodAll enc Try.prog W' 0 (fun b => decide (b < W.heap.size)) true ts vs ds ps := by
  induction ts with
  | nil =>
    intro vs ds ps h
    obtain ⟨rfl, rfl, rfl⟩ := trodAll_nil h
    exact trodAll_mk0
  | cons t ts ih =>
    intro vs ds ps h
    obtain ⟨v, vs', d, ds', p, q, rfl, rfl, rfl, h0, r⟩ := trodAll_cons h
    have lt0 : ∀ x ∈ p, x.block < W.heap.size := by obtain ⟨m, hm⟩ := h0; exact DataW.trod_lt m _ _ _ hm
    have ht := hr t (List.mem_cons_self ..)
    exact trodAll_cons_mk (Below.trod Try.laidOut ht.1 ht.2 h0 hb lt0) (ih (fun t' h' => hr t' (List.mem_cons_of_mem _ h')) r)

end Go.Proofs.Ytlmlckgnmkjkdaa

/-
  Arguments of laws, opened: tokens.
-/
namespace Go.Proofs.Ytlmlckgnmkjkdaa
open Go.ChangeShapes Go.WideShapes Go.ChangeAt Go.RowKit Go.Joins Go.Deep

theorem int_range {n : Int} (h : (Lit.int .i64 n).wf = true) : In64 n := by
  simp [Lit.wf, IntKind.min, IntKind.max, IntKind.signed, IntKind.bits] at h
  unfold In64; omega

set_option maxRecDepth 100000 in
/-- A slice of the laws' own tokens that came in. -/
theorem toks_in {H : Type} {enc : TypeId × Value → H} {W : World} {b0 : Nat} {v : Value} {d : DataW H} {p : List MemPlace} (hv : Value.okWide Try.prog W .any b0 32 v)
    (h : DataW.Trod enc Try.prog W 0 (fun _ => true) true 32 v d p) :
    ∃ (A : Option Addr) (ca : Nat) (es : List (Int × Int)), v = .slice A es.length ca ∧ Rd W A (ez es) ∧ es.length ≤ 9223372036854775807 ∧ ∀ k, k < es.length → (In64 (elo es k) ∧ In64 (ehi es k)) := by
  obtain ⟨a0, l0, c0, rfl⟩ := okWide_slice Try.underlying32 hv
  obtain ⟨fuel, hf⟩ := h
  rcases open_slice_pairs Try.underlying32 Try.underlying127 (by kernel_rfl) (by kernel_rfl) (by kernel_rfl) (by kernel_rfl) (by kernel_rfl) hf with ⟨hcs, _⟩ | ⟨a, len, cap, m, n, V0, V1, D0, D1, P0, P1, hcs, _, hl, hm, hmm, _, hcell⟩
  · simp [Value.cells] at hcs
    obtain ⟨rfl, rfl, rfl⟩ := hcs
    exact ⟨none, 0, [], rfl, (fun k u hu => by simp [ez] at hu), by simp, fun k hk => by simp at hk⟩
  · simp [Value.cells] at hcs
    obtain ⟨rfl, rfl, rfl⟩ := hcs
    rw [if_pos rfl] at hmm
    unfold maxLen at hm
    have each : ∀ i, i < l0 → ∃ q : Int × Int, (V0 i = .int .i64 q.1 ∧ V1 i = .int .i64 q.2) ∧ In64 q.1 ∧ In64 q.2 := fun i hi => by
      obtain ⟨_, _, t0, t1⟩ := hcell i (by omega)
      obtain ⟨x, e0, _, w0⟩ := DataW.trod_int Try.underlying3 t0
      obtain ⟨y, e1, _, w1⟩ := DataW.trod_int Try.underlying3 t1
      exact ⟨(x, y), ⟨by simpa using e0, by simpa using e1⟩, int_range w0, int_range w1⟩
    obtain ⟨f, hfq⟩ := choose_lt (α := Int × Int) (p := fun i q => (V0 i = .int .i64 q.1 ∧ V1 i = .int .i64 q.2) ∧ In64 q.1 ∧ In64 q.2) each
    refine ⟨some a, c0, (List.range l0).map f, by simp, fun k u hu => ?_, by simp; omega, fun k hk => ?_⟩
    rotate_left
    · have hk' : k < l0 := by simpa using hk
      have := (hfq k hk').2
      simpa [elo, ehi, hk'] using this
    have hk : k < l0 * 2 := by
      have := (List.getElem?_eq_some_iff.1 hu).1
      rw [ez_length] at this
      simpa using this
    obtain ⟨i, hi2⟩ : ∃ i, i < l0 ∧ (k = i * 2 ∨ k = i * 2 + 1) := ⟨k / 2, by omega, by omega⟩
    obtain ⟨hi, hk2⟩ := hi2
    obtain ⟨h0, h1, _, _⟩ := hcell i (by omega)
    obtain ⟨⟨q0, q1⟩, _⟩ := hfq i hi
    have hb := World.block_lt_of_cell? W _ h0
    rw [add_block] at hb
    refine ⟨a, rfl, hb, ?_⟩
    have hil : i < ((List.range l0).map f).length := by simpa using hi
    rcases hk2 with rfl | rfl
    · rw [ez_lo hil] at hu
      rw [h0, q0, ← hu]
      simp [elo, hi]
    · rw [ez_hi hil] at hu
      rw [h1, q1, ← hu]
      simp [ehi, hi]

end Go.Proofs.Ytlmlckgnmkjkdaa

/-
  Arguments of laws, opened: elements, queries, panes. WRITTEN BY tools/genrowq.py.
-/
namespace Go.Proofs.Ytlmlckgnmkjkdaa
open Go.ChangeShapes Go.WideShapes Go.ChangeAt Go.RowKit Go.Joins Go.Deep

/-- a row of ints within what came in -/
theorem ints_trod {H : Type} {enc : TypeId × Value → H} {W : World} {fuel : Nat} {v : Value} {y : DataW H × List MemPlace} (h : DataW.trod enc Try.prog W 0 (fun _ => true) true fuel 29 [v] = some y) :
    ∃ (A : Option Addr) (ca : Nat) (ts : List Int), v = .slice A ts.length ca ∧ Rd W A (iz ts) ∧ ts.length ≤ 9223372036854775807 := by
  rcases open_ints Try.underlying29 Try.underlying3 (by kernel_rfl) h with ⟨hcs, _⟩ | ⟨a, len, cap, zs, hcs, _, hl, hm, hz, hy, hcell, hwz⟩
  · obtain rfl : v = .slice none 0 0 := by simpa using hcs
    exact ⟨none, 0, [], rfl, (fun k u hu => by simp [iz] at hu), by simp⟩
  · obtain rfl : v = .slice (some a) len cap := by simpa using hcs
    rw [if_pos rfl] at hz
    unfold maxLen at hm
    refine ⟨some a, cap, zs.take len, by simp; omega, fun k u hu => ?_, by simp; omega⟩
    have hk : k < len := by
      have := (List.getElem?_eq_some_iff.1 hu).1
      simp [iz] at this; omega
    have hc := hcell k (by omega)
    have hb := World.block_lt_of_cell? W _ hc
    rw [add_block] at hb
    refine ⟨a, rfl, hb, ?_⟩
    rw [hc]
    have hkz : k < zs.length := by omega
    simp [iz, hk, hkz] at hu ⊢
    exact hu
/-- a row of tokens within what came in -/
theorem toks_trod {H : Type} {enc : TypeId × Value → H} {W : World} {fuel : Nat} {v : Value} {y : DataW H × List MemPlace} (h : DataW.trod enc Try.prog W 0 (fun _ => true) true fuel 32 [v] = some y) :
    ∃ (A : Option Addr) (ca : Nat) (es : List (Int × Int)), v = .slice A es.length ca ∧ Rd W A (ez es) ∧ es.length ≤ 9223372036854775807 := by
  rcases open_slice_pairs Try.underlying32 Try.underlying127 (by kernel_rfl) (by kernel_rfl) (by kernel_rfl) (by kernel_rfl) (by kernel_rfl) h with ⟨hcs, _⟩ | ⟨a, len, cap, m, n, V0, V1, D0, D1, P0, P1, hcs, _, hl, hm, hmm, _, hcell⟩
  · obtain rfl : v = .slice none 0 0 := by simpa using hcs
    exact ⟨none, 0, [], rfl, (fun k u hu => by simp [ez] at hu), by simp⟩
  · obtain rfl : v = .slice (some a) len cap := by simpa using hcs
    rw [if_pos rfl] at hmm
    unfold maxLen at hm
    have each : ∀ i, i < len → ∃ q : Int × Int, V0 i = .int .i64 q.1 ∧ V1 i = .int .i64 q.2 := fun i hi => by
      obtain ⟨_, _, t0, t1⟩ := hcell i (by omega)
      obtain ⟨x, e0, _, w0⟩ := DataW.trod_int Try.underlying3 t0
      obtain ⟨y, e1, _, w1⟩ := DataW.trod_int Try.underlying3 t1
      exact ⟨(x, y), by simpa using e0, by simpa using e1⟩
    obtain ⟨f, hfq⟩ := choose_lt (α := Int × Int) (p := fun i q => V0 i = .int .i64 q.1 ∧ V1 i = .int .i64 q.2) each
    refine ⟨some a, cap, (List.range len).map f, by simp, fun k u hu => ?_, by simp; omega⟩
    have hk : k < len * 2 := by
      have := (List.getElem?_eq_some_iff.1 hu).1
      rw [ez_length] at this
      simpa using this
    obtain ⟨i, hi2⟩ : ∃ i, i < len ∧ (k = i * 2 ∨ k = i * 2 + 1) := ⟨k / 2, by omega, by omega⟩
    obtain ⟨hi, hk2⟩ := hi2
    obtain ⟨h0, h1, _, _⟩ := hcell i (by omega)
    obtain ⟨q0, q1⟩ := hfq i hi
    have hb := World.block_lt_of_cell? W _ h0
    rw [add_block] at hb
    refine ⟨a, rfl, hb, ?_⟩
    have hil : i < ((List.range len).map f).length := by simpa using hi
    rcases hk2 with rfl | rfl
    · rw [ez_lo hil] at hu
      rw [h0, q0, ← hu]
      simp [elo, hi]
    · rw [ez_hi hil] at hu
      rw [h1, q1, ← hu]
      simp [ehi, hi]

set_option maxRecDepth 100000 in
/-- a definition of windows within what came in -/
theorem windef_trod {H : Type} {enc : TypeId × Value → H} {W : World} {fuel : Nat} {cs : List Value} {y : DataW H × List MemPlace} (hl : cs.length = 3) (h : DataW.trod enc Try.prog W 0 (fun _ => true) true fuel 34 cs = some y) :
    ∃ k s t : Int, cs = [.int .i64 k, .int .i64 s, .int .i64 t] := by
  obtain ⟨c0, c1, c2, rfl⟩ : ∃ c0 c1 c2, cs = [c0, c1, c2] := by
    match cs, hl with
    | [c0, c1, c2], _ => exact ⟨c0, c1, c2, rfl⟩
  obtain ⟨xs, n', _, _, _, hxl, hx⟩ := DataW.trod_struct Try.underlying34 h
  have e0 : Try.prog.cellsOf 3 = 1 := by kernel_rfl
  have hxl' : xs.length = 3 := hxl
  have g0 : DataW.trod enc Try.prog W 0 (fun _ => true) true n' 3 (List.take (Try.prog.cellsOf 3) [c0, c1, c2]) = xs[0]? := hx 0 _ rfl
  have g1 : DataW.trod enc Try.prog W 0 (fun _ => true) true n' 3 (List.take (Try.prog.cellsOf 3) [c1, c2]) = xs[1]? := hx 1 _ rfl
  have g2 : DataW.trod enc Try.prog W 0 (fun _ => true) true n' 3 (List.take (Try.prog.cellsOf 3) [c2]) = xs[2]? := hx 2 _ rfl
  simp only [e0, List.take_succ_cons, List.take_zero] at g0 g1 g2
  rw [List.getElem?_eq_getElem (by omega)] at g0 g1 g2
  obtain ⟨k, f0, _, _⟩ := DataW.trod_int Try.underlying3 g0
  obtain ⟨s, f1, _, _⟩ := DataW.trod_int Try.underlying3 g1
  obtain ⟨t, f2, _, _⟩ := DataW.trod_int Try.underlying3 g2
  simp at f0 f1 f2
  subst f0
  subst f1
  subst f2
  exact ⟨k, s, t, rfl⟩

set_option maxRecDepth 100000 in
/-- an element within what came in -/
theorem elem_trod {H : Type} {enc : TypeId × Value → H} {W : World} {fuel : Nat} {cs : List Value} {y : DataW H × List MemPlace} (hl : cs.length = 4) (h : DataW.trod enc Try.prog W 0 (fun _ => true) true fuel 47 cs = some y) :
    ∃ s k v t : Int, cs = [.int .i64 s, .int .i64 k, .int .i64 v, .int .i64 t] := by
  obtain ⟨c0, c1, c2, c3, rfl⟩ : ∃ c0 c1 c2 c3, cs = [c0, c1, c2, c3] := by
    match cs, hl with
    | [c0, c1, c2, c3], _ => exact ⟨c0, c1, c2, c3, rfl⟩
  obtain ⟨xs, n', _, _, _, hxl, hx⟩ := DataW.trod_struct Try.underlying47 h
  have e0 : Try.prog.cellsOf 3 = 1 := by kernel_rfl
  have hxl' : xs.length = 4 := hxl
  have g0 : DataW.trod enc Try.prog W 0 (fun _ => true) true n' 3 (List.take (Try.prog.cellsOf 3) [c0, c1, c2, c3]) = xs[0]? := hx 0 _ rfl
  have g1 : DataW.trod enc Try.prog W 0 (fun _ => true) true n' 3 (List.take (Try.prog.cellsOf 3) [c1, c2, c3]) = xs[1]? := hx 1 _ rfl
  have g2 : DataW.trod enc Try.prog W 0 (fun _ => true) true n' 3 (List.take (Try.prog.cellsOf 3) [c2, c3]) = xs[2]? := hx 2 _ rfl
  have g3 : DataW.trod enc Try.prog W 0 (fun _ => true) true n' 3 (List.take (Try.prog.cellsOf 3) [c3]) = xs[3]? := hx 3 _ rfl
  simp only [e0, List.take_succ_cons, List.take_zero] at g0 g1 g2 g3
  rw [List.getElem?_eq_getElem (by omega)] at g0 g1 g2 g3
  obtain ⟨s, f0, _, _⟩ := DataW.trod_int Try.underlying3 g0
  obtain ⟨k, f1, _, _⟩ := DataW.trod_int Try.underlying3 g1
  obtain ⟨v, f2, _, _⟩ := DataW.trod_int Try.underlying3 g2
  obtain ⟨t, f3, _, _⟩ := DataW.trod_int Try.underlying3 g3
  simp at f0 f1 f2 f3
  subst f0
  subst f1
  subst f2
  subst f3
  exact ⟨s, k, v, t, rfl⟩

set_option maxRecDepth 100000 in
/-- a query within what came in -/
theorem query_trod {H : Type} {enc : TypeId × Value → H} {W : World} {fuel : Nat} {cs : List Value} {y : DataW H × List MemPlace} (hl : cs.length = 7) (h : DataW.trod enc Try.prog W 0 (fun _ => true) true fuel 36 cs = some y) :
    ∃ (F : Option Addr) (cf : Nat) (fs : List (Int × Int)) (M : Option Addr) (cm : Nat) (ms : List (Int × Int)) (k s t q kk : Int), cs = qc (.slice F fs.length cf) (.slice M ms.length cm) k s t q kk ∧ Rd W F (ez fs) ∧ fs.length ≤ 9223372036854775807 ∧ Rd W M (ez ms) ∧ ms.length ≤ 9223372036854775807 := by
  obtain ⟨c0, c1, c2, c3, c4, c5, c6, rfl⟩ : ∃ c0 c1 c2 c3 c4 c5 c6, cs = [c0, c1, c2, c3, c4, c5, c6] := by
    match cs, hl with
    | [c0, c1, c2, c3, c4, c5, c6], _ => exact ⟨c0, c1, c2, c3, c4, c5, c6, rfl⟩
  obtain ⟨xs, n', _, _, _, hxl, hx⟩ := DataW.trod_struct Try.underlying36 h
  have e0 : Try.prog.cellsOf 32 = 1 := by kernel_rfl
  have e1 : Try.prog.cellsOf 3 = 1 := by kernel_rfl
  have e2 : Try.prog.cellsOf 34 = 3 := by kernel_rfl
  have hxl' : xs.length = 5 := hxl
  have g0 : DataW.trod enc Try.prog W 0 (fun _ => true) true n' 32 (List.take (Try.prog.cellsOf 32) [c0, c1, c2, c3, c4, c5, c6]) = xs[0]? := hx 0 _ rfl
  have g1 : DataW.trod enc Try.prog W 0 (fun _ => true) true n' 32 (List.take (Try.prog.cellsOf 32) [c1, c2, c3, c4, c5, c6]) = xs[1]? := hx 1 _ rfl
  have g2 : DataW.trod enc Try.prog W 0 (fun _ => true) true n' 34 (List.take (Try.prog.cellsOf 34) [c2, c3, c4, c5, c6]) = xs[2]? := hx 2 _ rfl
  have g3 : DataW.trod enc Try.prog W 0 (fun _ => true) true n' 3 (List.take (Try.prog.cellsOf 3) [c5, c6]) = xs[3]? := hx 3 _ rfl
  have g4 : DataW.trod enc Try.prog W 0 (fun _ => true) true n' 3 (List.take (Try.prog.cellsOf 3) [c6]) = xs[4]? := hx 4 _ rfl
  simp only [e0, e1, e2, List.take_succ_cons, List.take_zero] at g0 g1 g2 g3 g4
  rw [List.getElem?_eq_getElem (by omega)] at g0 g1 g2 g3 g4
  obtain ⟨AF, cF, F, rfl, hRF, hnF⟩ := toks_trod g0
  obtain ⟨AM, cM, M, rfl, hRM, hnM⟩ := toks_trod g1
  obtain ⟨k, s, t, f2⟩ := windef_trod (by rfl) g2
  obtain ⟨q, f3, _, _⟩ := DataW.trod_int Try.underlying3 g3
  obtain ⟨kk, f4, _, _⟩ := DataW.trod_int Try.underlying3 g4
  simp at f2 f3 f4
  obtain ⟨rfl, rfl, rfl⟩ := f2
  subst f3
  subst f4
  exact ⟨AF, cF, F, AM, cM, M, k, s, t, q, kk, rfl, hRF, hnF, hRM, hnM⟩

set_option maxRecDepth 100000 in
/-- a pane within what came in -/
theorem pane_trod {H : Type} {enc : TypeId × Value → H} {W : World} {fuel : Nat} {cs : List Value} {y : DataW H × List MemPlace} (hl : cs.length = 8) (h : DataW.trod enc Try.prog W 0 (fun _ => true) true fuel 52 cs = some y) :
    ∃ (q k f t l n : Int) (A : Option Addr) (ca : Nat) (zs : List Int) (o : Bool), cs = pac q k f t l n (.slice A zs.length ca) o ∧ Rd W A (iz zs) ∧ zs.length ≤ 9223372036854775807 := by
  obtain ⟨c0, c1, c2, c3, c4, c5, c6, c7, rfl⟩ : ∃ c0 c1 c2 c3 c4 c5 c6 c7, cs = [c0, c1, c2, c3, c4, c5, c6, c7] := by
    match cs, hl with
    | [c0, c1, c2, c3, c4, c5, c6, c7], _ => exact ⟨c0, c1, c2, c3, c4, c5, c6, c7, rfl⟩
  obtain ⟨xs, n', _, _, _, hxl, hx⟩ := DataW.trod_struct Try.underlying52 h
  have e0 : Try.prog.cellsOf 29 = 1 := by kernel_rfl
  have e1 : Try.prog.cellsOf 4 = 1 := by kernel_rfl
  have e2 : Try.prog.cellsOf 3 = 1 := by kernel_rfl
  have hxl' : xs.length = 8 := hxl
  have g0 : DataW.trod enc Try.prog W 0 (fun _ => true) true n' 3 (List.take (Try.prog.cellsOf 3) [c0, c1, c2, c3, c4, c5, c6, c7]) = xs[0]? := hx 0 _ rfl
  have g1 : DataW.trod enc Try.prog W 0 (fun _ => true) true n' 3 (List.take (Try.prog.cellsOf 3) [c1, c2, c3, c4, c5, c6, c7]) = xs[1]? := hx 1 _ rfl
  have g2 : DataW.trod enc Try.prog W 0 (fun _ => true) true n' 3 (List.take (Try.prog.cellsOf 3) [c2, c3, c4, c5, c6, c7]) = xs[2]? := hx 2 _ rfl
  have g3 : DataW.trod enc Try.prog W 0 (fun _ => true) true n' 3 (List.take (Try.prog.cellsOf 3) [c3, c4, c5, c6, c7]) = xs[3]? := hx 3 _ rfl
  have g4 : DataW.trod enc Try.prog W 0 (fun _ => true) true n' 3 (List.take (Try.prog.cellsOf 3) [c4, c5, c6, c7]) = xs[4]? := hx 4 _ rfl
  have g5 : DataW.trod enc Try.prog W 0 (fun _ => true) true n' 3 (List.take (Try.prog.cellsOf 3) [c5, c6, c7]) = xs[5]? := hx 5 _ rfl
  have g6 : DataW.trod enc Try.prog W 0 (fun _ => true) true n' 29 (List.take (Try.prog.cellsOf 29) [c6, c7]) = xs[6]? := hx 6 _ rfl
  have g7 : DataW.trod enc Try.prog W 0 (fun _ => true) true n' 4 (List.take (Try.prog.cellsOf 4) [c7]) = xs[7]? := hx 7 _ rfl
  simp only [e0, e1, e2, List.take_succ_cons, List.take_zero] at g0 g1 g2 g3 g4 g5 g6 g7
  rw [List.getElem?_eq_getElem (by omega)] at g0 g1 g2 g3 g4 g5 g6 g7
  obtain ⟨q, f0, _, _⟩ := DataW.trod_int Try.underlying3 g0
  obtain ⟨k, f1, _, _⟩ := DataW.trod_int Try.underlying3 g1
  obtain ⟨f, f2, _, _⟩ := DataW.trod_int Try.underlying3 g2
  obtain ⟨t, f3, _, _⟩ := DataW.trod_int Try.underlying3 g3
  obtain ⟨l, f4, _, _⟩ := DataW.trod_int Try.underlying3 g4
  obtain ⟨n, f5, _, _⟩ := DataW.trod_int Try.underlying3 g5
  obtain ⟨Az, cz, z, rfl, hRz, hnz⟩ := ints_trod g6
  obtain ⟨o, f7, _⟩ := DataW.trod_bool Try.underlying4 g7
  simp at f0 f1 f2 f3 f4 f5 f7
  subst f0
  subst f1
  subst f2
  subst f3
  subst f4
  subst f5
  subst f7
  exact ⟨q, k, f, t, l, n, Az, cz, z, o, rfl, hRz, hnz⟩

set_option maxRecDepth 100000 in
/-- An element of the laws' own that came in. -/
theorem elem_in {H : Type} {enc : TypeId × Value → H} {W : World} {b0 : Nat} {v : Value} {d : DataW H} {p : List MemPlace} (hv : Value.okWide Try.prog W .any b0 47 v)
    (h : DataW.Trod enc Try.prog W 0 (fun _ => true) true 47 v d p) :
    ∃ s k u t : Int, v = .agg #[.int .i64 s, .int .i64 k, .int .i64 u, .int .i64 t] := by
  obtain ⟨cs, rfl, hsz⟩ := okWide_struct Try.underlying47 hv
  obtain ⟨fuel, hf⟩ := h
  have hl : cs.toList.length = 4 := hsz.trans (by kernel_rfl)
  obtain ⟨l⟩ := cs
  obtain ⟨s, k, u, t, e⟩ := elem_trod hl (show DataW.trod enc Try.prog W 0 (fun _ => true) true fuel 47 l = _ from hf)
  simp only at e
  subst e
  exact ⟨s, k, u, t, rfl⟩

set_option maxRecDepth 100000 in
/-- A query of the laws' own that came in. -/
theorem query_in {H : Type} {enc : TypeId × Value → H} {W : World} {b0 : Nat} {v : Value} {d : DataW H} {p : List MemPlace} (hv : Value.okWide Try.prog W .any b0 36 v)
    (h : DataW.Trod enc Try.prog W 0 (fun _ => true) true 36 v d p) :
    ∃ (F : Option Addr) (cf : Nat) (fs : List (Int × Int)) (M : Option Addr) (cm : Nat) (ms : List (Int × Int)) (k s t q kk : Int), v = qv (.slice F fs.length cf) (.slice M ms.length cm) k s t q kk ∧ Rd W F (ez fs) ∧ fs.length ≤ 9223372036854775807 ∧ Rd W M (ez ms) ∧ ms.length ≤ 9223372036854775807 := by
  obtain ⟨cs, rfl, hsz⟩ := okWide_struct Try.underlying36 hv
  obtain ⟨fuel, hf⟩ := h
  have hl : cs.toList.length = 7 := hsz.trans (by kernel_rfl)
  obtain ⟨l⟩ := cs
  obtain ⟨F, cf, fs, M, cm, ms, k, s, t, q, kk, e, hF, hnF, hM, hnM⟩ := query_trod hl (show DataW.trod enc Try.prog W 0 (fun _ => true) true fuel 36 l = _ from hf)
  simp only at e
  subst e
  exact ⟨F, cf, fs, M, cm, ms, k, s, t, q, kk, rfl, hF, hnF, hM, hnM⟩

set_option maxRecDepth 100000 in
/-- A pane of the laws' own that came in. -/
theorem pane_in {H : Type} {enc : TypeId × Value → H} {W : World} {b0 : Nat} {v : Value} {d : DataW H} {p : List MemPlace} (hv : Value.okWide Try.prog W .any b0 52 v)
    (h : DataW.Trod enc Try.prog W 0 (fun _ => true) true 52 v d p) :
    ∃ (q k f t l n : Int) (A : Option Addr) (ca : Nat) (zs : List Int) (o : Bool), v = pav q k f t l n (.slice A zs.length ca) o ∧ Rd W A (iz zs) ∧ zs.length ≤ 9223372036854775807 := by
  obtain ⟨cs, rfl, hsz⟩ := okWide_struct Try.underlying52 hv
  obtain ⟨fuel, hf⟩ := h
  have hl : cs.toList.length = 8 := hsz.trans (by kernel_rfl)
  obtain ⟨l⟩ := cs
  obtain ⟨q, k, f, t, l, n, A, ca, zs, o, e, hA, hn⟩ := pane_trod hl (show DataW.trod enc Try.prog W 0 (fun _ => true) true fuel 52 l = _ from hf)
  simp only at e
  subst e
  exact ⟨q, k, f, t, l, n, A, ca, zs, o, rfl, hA, hn⟩
end Go.Proofs.Ytlmlckgnmkjkdaa

/-
  Arguments of laws, opened: slices of structs whose fields are ints, as one list of integers.
-/
namespace Go.Proofs.Ytlmlckgnmkjkdaa
open Go.ChangeShapes Go.WideShapes Go.ChangeAt Go.RowKit Go.Joins Go.Deep

theorem int_in64 {n : Int} (h : (Lit.int .i64 n).wf = true) : In64 n := by
  simp [Lit.wf, IntKind.min, IntKind.max, IntKind.signed, IntKind.bits] at h
  unfold In64; omega

/-- A slice of structs of s ints that came in. -/
theorem flat_in {P : Program} {H : Type} {enc : TypeId × Value → H} {W : World} {b0 : Nat} {t e : TypeId} {fs : Array Field} {s : Nat} {v : Value} {d : DataW H} {p : List MemPlace}
    (ht : P.underlying t = some (.slice e)) (he : P.underlying e = some (.struct fs)) (ce : P.cellsOf e = s) (hs : fs.size = s)
    (hf : ∀ (j : Nat) (f : Field), fs[j]? = some f → f.offset = j ∧ P.cellsOf f.type = 1 ∧ P.underlying f.type = some (.int .i64))
    (hv : Value.okWide P W .any b0 t v) (h : DataW.Trod enc P W 0 (fun _ => true) true t v d p) :
    ∃ (A : Option Addr) (n ca : Nat) (zs : List Int), v = .slice A n ca ∧ Rd W A (iz zs) ∧ zs.length = n * s ∧ n ≤ 9223372036854775807 ∧ ∀ k, k < zs.length → In64 (iat zs k) := by
  obtain ⟨a0, l0, c0, rfl⟩ := okWide_slice ht hv
  obtain ⟨fuel, hfu⟩ := h
  rcases open_slice ht hfu with ⟨hcs, _⟩ | ⟨a, len, cap, m, n, D, Pl, hcs, _, hl, hm, hmm, _, hcell⟩
  · simp [Value.cells] at hcs
    obtain ⟨rfl, rfl, rfl⟩ := hcs
    exact ⟨none, 0, 0, [], rfl, (fun k u hu => by simp [iz] at hu), by simp, by omega, fun k hk => by simp at hk⟩
  · simp [Value.cells] at hcs
    obtain ⟨rfl, rfl, rfl⟩ := hcs
    rw [if_pos rfl] at hmm
    unfold maxLen at hm
    have each : ∀ k, k < l0 * s → ∃ z : Int, W.cell? (a.add k) = some (.int .i64 z) ∧ In64 z := fun k hk => by
      have hs0 : 0 < s := by
        rcases Nat.eq_zero_or_pos s with h | h
        · rw [h] at hk; simp at hk
        · exact h
      have hi : k / s < l0 := Nat.div_lt_of_lt_mul (by rw [Nat.mul_comm]; exact hk)
      have hj : k % s < s := Nat.mod_lt _ hs0
      obtain ⟨cs', h1, h2⟩ := hcell (k / s) (by omega)
      rw [ce] at h1
      obtain ⟨_, hlen, hc⟩ := World.cells?_some h1
      obtain ⟨xs, n', _, _, _, hxl, hx⟩ := DataW.trod_struct he h2
      have hfj : fs[k % s]? = some fs[k % s] := by simp [hs, hj]
      obtain ⟨o, c, u⟩ := hf _ _ hfj
      have g := hx _ _ hfj
      rw [o, c, List.getElem?_eq_getElem (by omega)] at g
      obtain ⟨z, e1, _, wf⟩ := DataW.trod_int u g
      have e2 := hc _ hj
      rw [add_add, Nat.div_add_mod' k s] at e2
      refine ⟨z, e2.trans ?_, int_in64 wf⟩
      have : (cs'.drop (k % s)).take 1 = [cs'[k % s]] := by
        rw [List.drop_eq_getElem_cons (by omega), List.take_succ_cons, List.take_zero]
      rw [this] at e1
      rw [List.getElem?_eq_getElem (by omega)]
      simpa using e1
    obtain ⟨f, hfq⟩ := choose_lt (α := Int) each
    refine ⟨some a, l0, c0, (List.range (l0 * s)).map f, rfl, fun k u hu => ?_, by simp, by omega, fun k hk => ?_⟩
    · have hk : k < l0 * s := by
        have := (List.getElem?_eq_some_iff.1 hu).1
        rw [iz_length] at this
        simpa using this
      have hb := World.block_lt_of_cell? W _ (hfq k hk).1
      rw [add_block] at hb
      refine ⟨a, rfl, hb, ?_⟩
      rw [iz_iat (by simpa using hk)] at hu
      rw [(hfq k hk).1, ← hu]
      simp [iat, hk]
    · have hk' : k < l0 * s := by simpa using hk
      have := (hfq k hk').2
      simpa [iat, hk'] using this

/-- A struct of s ints that came in. -/
theorem aggF_in {P : Program} {H : Type} {enc : TypeId × Value → H} {W : World} {b0 : Nat} {t : TypeId} {fs : Array Field} {s : Nat} {v : Value} {d : DataW H} {p : List MemPlace}
    (he : P.underlying t = some (.struct fs)) (ce : P.cellsOf t = s) (hs : fs.size = s)
    (hf : ∀ (j : Nat) (f : Field), fs[j]? = some f → f.offset = j ∧ P.cellsOf f.type = 1 ∧ P.underlying f.type = some (.int .i64))
    (hv : Value.okWide P W .any b0 t v) (h : DataW.Trod enc P W 0 (fun _ => true) true t v d p) :
    ∃ zs : List Int, v = .agg (iz zs).toArray ∧ zs.length = s ∧ ∀ k, k < s → In64 (iat zs k) := by
  obtain ⟨cs, rfl, hsz⟩ := okWide_struct he hv
  obtain ⟨fuel, hfu⟩ := h
  obtain ⟨xs, n', _, _, _, hxl, hx⟩ := DataW.trod_struct he hfu
  rw [ce] at hsz
  have each : ∀ k, k < s → ∃ z : Int, cs[k]? = some (.int .i64 z) ∧ In64 z := fun k hk => by
    have hfj : fs[k]? = some fs[k] := by simp [hs, hk]
    obtain ⟨o, c, u⟩ := hf _ _ hfj
    have g := hx _ _ hfj
    rw [o, c, List.getElem?_eq_getElem (by omega)] at g
    obtain ⟨z, e1, _, wf⟩ := DataW.trod_int u g
    have hl : k < (Value.agg cs).cells.toList.length := by simp [Value.cells]; omega
    have : ((Value.agg cs).cells.toList.drop k).take 1 = [(Value.agg cs).cells.toList[k]] := by
      rw [List.drop_eq_getElem_cons hl, List.take_succ_cons, List.take_zero]
    rw [this] at e1
    refine ⟨z, ?_, int_in64 wf⟩
    simp [Value.cells] at e1
    rw [Array.getElem?_eq_getElem (by omega), e1]
  obtain ⟨f, hfq⟩ := choose_lt (α := Int) each
  refine ⟨(List.range s).map f, ?_, by simp, fun k hk => by simpa [iat, hk] using (hfq k hk).2⟩
  congr 1
  apply Array.ext
  · simp [iz, hsz]
  · intro i h1 h2
    have hi : i < s := by omega
    have := (hfq i hi).1
    rw [Array.getElem?_eq_getElem h1] at this
    simpa [iz] using this
end Go.Proofs.Ytlmlckgnmkjkdaa

/-
  Arguments of laws, opened: windows and their definitions.
-/
namespace Go.Proofs.Ytlmlckgnmkjkdaa
open Go.ChangeShapes Go.WideShapes Go.ChangeAt Go.RowKit Go.Joins Go.Deep

theorem unflat2 : ∀ {n : Nat} {zs : List Int}, zs.length = n * 2 → ∃ ps : List Wn, zs = flat ps ∧ ps.length = n
  | 0, zs, h => ⟨[], by have : zs = [] := by simpa using h
                        rw [this]; rfl, rfl⟩
  | n + 1, [], h => by simp at h
  | n + 1, [_], h => by simp at h; omega
  | n + 1, a :: b :: r, h => by
    obtain ⟨ps, rfl, hl⟩ := unflat2 (n := n) (zs := r) (by simp at h; omega)
    exact ⟨(a, b) :: ps, by simp [flat], by simp [hl]⟩
theorem two_ints {fs : Array Field} {f0 f1 : Field} {p : Nat → Field → Prop} (h : fs = #[f0, f1]) (h0 : p 0 f0) (h1 : p 1 f1) : ∀ (j : Nat) (f : Field), fs[j]? = some f → p j f := by
  subst h
  intro j f hj
  match j, hj with
  | 0, hj => cases hj; exact h0
  | 1, hj => cases hj; exact h1
  | j + 2, hj => simp at hj
theorem three_ints {fs : Array Field} {f0 f1 f2 : Field} {p : Nat → Field → Prop} (h : fs = #[f0, f1, f2]) (h0 : p 0 f0) (h1 : p 1 f1) (h2 : p 2 f2) : ∀ (j : Nat) (f : Field), fs[j]? = some f → p j f := by
  subst h
  intro j f hj
  match j, hj with
  | 0, hj => cases hj; exact h0
  | 1, hj => cases hj; exact h1
  | 2, hj => cases hj; exact h2
  | j + 3, hj => simp at hj
set_option maxRecDepth 100000 in
/-- A window that came in. -/
theorem win_in {H : Type} {enc : TypeId × Value → H} {W : World} {b0 : Nat} {v : Value} {d : DataW H} {p : List MemPlace} (hv : Value.okWide Try.prog W .any b0 59 v)
    (h : DataW.Trod enc Try.prog W 0 (fun _ => true) true 59 v d p) :
    ∃ a b : Int, v = .agg #[.int .i64 a, .int .i64 b] ∧ In64 a ∧ In64 b := by
  obtain ⟨zs, rfl, hl, hz⟩ := aggF_in (s := 2) Try.underlying59 (by kernel_rfl) rfl
    (two_ints rfl ⟨rfl, by kernel_rfl, Try.underlying3⟩ ⟨rfl, by kernel_rfl, Try.underlying3⟩) hv h
  match zs, hl with
  | [a, b], _ => exact ⟨a, b, rfl, hz 0 (by omega), hz 1 (by omega)⟩
set_option maxRecDepth 100000 in
/-- A definition of windows that came in. -/
theorem windef_in {H : Type} {enc : TypeId × Value → H} {W : World} {b0 : Nat} {v : Value} {d : DataW H} {p : List MemPlace} (hv : Value.okWide Try.prog W .any b0 34 v)
    (h : DataW.Trod enc Try.prog W 0 (fun _ => true) true 34 v d p) :
    ∃ a b c : Int, v = .agg #[.int .i64 a, .int .i64 b, .int .i64 c] ∧ In64 a ∧ In64 b ∧ In64 c := by
  obtain ⟨zs, rfl, hl, hz⟩ := aggF_in (s := 3) Try.underlying34 (by kernel_rfl) rfl
    (three_ints rfl ⟨rfl, by kernel_rfl, Try.underlying3⟩ ⟨rfl, by kernel_rfl, Try.underlying3⟩ ⟨rfl, by kernel_rfl, Try.underlying3⟩) hv h
  match zs, hl with
  | [a, b, c], _ => exact ⟨a, b, c, rfl, hz 0 (by omega), hz 1 (by omega), hz 2 (by omega)⟩
end Go.Proofs.Ytlmlckgnmkjkdaa

/-
  A 128-bit integer of the laws' own that came in; an int.
-/
namespace Go.Proofs.Ytlmlckgnmkjkdaa
open Go.ChangeShapes Go.WideShapes Go.ChangeAt Go.RowKit Go.Joins

theorem i64_of {n : Int} (h : (Lit.int .i64 n).wf = true) : I64 n := by
  simp [Lit.wf, IntKind.min, IntKind.max, IntKind.signed, IntKind.bits] at h
  unfold I64; omega
theorem u64_of {n : Int} (h : (Lit.int .u64 n).wf = true) : U64w n := by
  simp [Lit.wf, IntKind.min, IntKind.max, IntKind.signed, IntKind.bits] at h
  unfold U64w; omega

set_option maxRecDepth 100000 in
theorem wide_row {H : Type} {enc : TypeId × Value → H} {W : World} {b0 : Nat} {v : Value} {d : DataW H} {p : List MemPlace} (hv : Value.okWide Try.prog W .any b0 62 v)
    (h : DataW.Trod enc Try.prog W 0 (fun _ => true) true 62 v d p) :
    ∃ (a b : Int), v = .agg #[.int .i64 a, .int .u64 b] ∧ I64 a ∧ U64w b := by
  obtain ⟨v0, v1, y0, y1, n, rfl, rfl, rfl, h0, h1⟩ := open_agg2 Try.underlying62 (by kernel_rfl) (by kernel_rfl) hv h
  obtain ⟨N, e0, _, wN⟩ := DataW.trod_int Try.underlying3 h0
  obtain ⟨M, e1, _, wM⟩ := DataW.trod_int Try.underlying60 h1
  simp at e0 e1
  subst e0
  subst e1
  exact ⟨N, M, rfl, i64_of wN, u64_of wM⟩

end Go.Proofs.Ytlmlckgnmkjkdaa

/-
  Arguments of laws, opened: aggregates.
-/
namespace Go.Proofs.Ytlmlckgnmkjkdaa
open Go.ChangeShapes Go.WideShapes Go.ChangeAt Go.RowKit Go.Joins Go.Deep

theorem array6 {cs : Array Value} (h : cs.size = 6) : ∃ c0 c1 c2 c3 c4 c5, cs = #[c0, c1, c2, c3, c4, c5] := by
  obtain ⟨l⟩ := cs
  match l, h with
  | [c0, c1, c2, c3, c4, c5], _ => exact ⟨c0, c1, c2, c3, c4, c5, rfl⟩

set_option maxRecDepth 100000 in
/-- An aggregate of the laws' own that came in. -/
theorem agg_in {H : Type} {enc : TypeId × Value → H} {W : World} {b0 : Nat} {v : Value} {d : DataW H} {p : List MemPlace} (hv : Value.okWide Try.prog W .any b0 64 v)
    (h : DataW.Trod enc Try.prog W 0 (fun _ => true) true 64 v d p) :
    ∃ (N h l mn mx : Int) (A : Option Addr) (ca : Nat) (ts : List Int), v = agv N h l mn mx (.slice A ts.length ca) ∧ Rd W A (iz ts) ∧ ts.length ≤ 9223372036854775807 ∧ I64 N ∧ I64 h ∧ U64w l ∧ I64 mn ∧ I64 mx ∧ ∀ z ∈ ts, I64 z := by
  obtain ⟨cs, rfl, hsz⟩ := okWide_struct Try.underlying64 hv
  obtain ⟨c0, c1, c2, c3, c4, c5, rfl⟩ := array6 (hsz.trans (by kernel_rfl))
  obtain ⟨fuel, hf⟩ := h
  obtain ⟨xs, n', _, _, _, hxl, hx⟩ := DataW.trod_struct Try.underlying64 hf
  have e1 : Try.prog.cellsOf 3 = 1 := by kernel_rfl
  have e2 : Try.prog.cellsOf 62 = 2 := by kernel_rfl
  have e3 : Try.prog.cellsOf 29 = 1 := by kernel_rfl
  have e4 : Try.prog.cellsOf 60 = 1 := by kernel_rfl
  have hxl' : xs.length = 5 := hxl
  have g0 : DataW.trod enc Try.prog W 0 (fun _ => true) true n' 3 (List.take (Try.prog.cellsOf 3) [c0, c1, c2, c3, c4, c5]) = xs[0]? := hx 0 _ rfl
  have g1 : DataW.trod enc Try.prog W 0 (fun _ => true) true n' 62 (List.take (Try.prog.cellsOf 62) [c1, c2, c3, c4, c5]) = xs[1]? := hx 1 _ rfl
  have g2 : DataW.trod enc Try.prog W 0 (fun _ => true) true n' 3 (List.take (Try.prog.cellsOf 3) [c3, c4, c5]) = xs[2]? := hx 2 _ rfl
  have g3 : DataW.trod enc Try.prog W 0 (fun _ => true) true n' 3 (List.take (Try.prog.cellsOf 3) [c4, c5]) = xs[3]? := hx 3 _ rfl
  have g4 : DataW.trod enc Try.prog W 0 (fun _ => true) true n' 29 (List.take (Try.prog.cellsOf 29) [c5]) = xs[4]? := hx 4 _ rfl
  simp only [e1, e2, e3, List.take_succ_cons, List.take_zero] at g0 g1 g2 g3 g4
  rw [List.getElem?_eq_getElem (by omega)] at g0 g1 g2 g3 g4
  obtain ⟨N, f0, _, w0⟩ := DataW.trod_int Try.underlying3 g0
  obtain ⟨mn, f3, _, w3⟩ := DataW.trod_int Try.underlying3 g2
  obtain ⟨mx, f4, _, w4⟩ := DataW.trod_int Try.underlying3 g3
  obtain ⟨zs, n2, _, _, _, hzl, hz⟩ := DataW.trod_struct Try.underlying62 g1
  have hzl' : zs.length = 2 := hzl
  have k0 : DataW.trod enc Try.prog W 0 (fun _ => true) true n2 3 (List.take (Try.prog.cellsOf 3) [c1, c2]) = zs[0]? := hz 0 _ rfl
  have k1 : DataW.trod enc Try.prog W 0 (fun _ => true) true n2 60 (List.take (Try.prog.cellsOf 60) [c2]) = zs[1]? := hz 1 _ rfl
  simp only [e1, e4, List.take_succ_cons, List.take_zero] at k0 k1
  rw [List.getElem?_eq_getElem (by omega)] at k0 k1
  obtain ⟨h, f1, _, w1⟩ := DataW.trod_int Try.underlying3 k0
  obtain ⟨l, f2, _, w2⟩ := DataW.trod_int Try.underlying60 k1
  simp at f0 f1 f2 f3 f4
  subst f0 f1 f2 f3 f4
  obtain ⟨A, ca, ts, rfl, hR, hn, hz⟩ : ∃ (A : Option Addr) (ca : Nat) (ts : List Int), c5 = .slice A ts.length ca ∧ Rd W A (iz ts) ∧ ts.length ≤ 9223372036854775807 ∧ ∀ z ∈ ts, (Lit.int .i64 z).wf = true := by
    rcases open_ints Try.underlying29 Try.underlying3 (by kernel_rfl) g4 with ⟨hcs, _⟩ | ⟨a, len, cap, zs, hcs, _, hl, hm, hz, hy, hcell, hwz⟩
    · obtain rfl : c5 = .slice none 0 0 := by simpa using hcs
      exact ⟨none, 0, [], rfl, (fun k u hu => by simp [iz] at hu), by simp, fun z hz => by cases hz⟩
    · obtain rfl : c5 = .slice (some a) len cap := by simpa using hcs
      rw [if_pos rfl] at hz
      unfold maxLen at hm
      refine ⟨some a, cap, zs.take len, by simp; omega, fun k u hu => ?_, by simp; omega, fun z hz' => hwz z (List.mem_of_mem_take hz')⟩
      have hk : k < len := by
        have := (List.getElem?_eq_some_iff.1 hu).1
        simp [iz] at this; omega
      have hc := hcell k (by omega)
      have hb := World.block_lt_of_cell? W _ hc
      rw [add_block] at hb
      refine ⟨a, rfl, hb, ?_⟩
      rw [hc]
      have hkz : k < zs.length := by omega
      simp [iz, hk, hkz] at hu ⊢
      exact hu
  exact ⟨N, h, l, mn, mx, A, ca, ts, rfl, hR, hn, i64_of w0, i64_of w1, u64_of w2, i64_of w3, i64_of w4, fun z h => i64_of (hz z h)⟩
end Go.Proofs.Ytlmlckgnmkjkdaa

/-
  The law on PaneOf: at all arguments the program answers as the model in every field, writes into no argument, and its answer owns its memory.
-/
namespace Go.Proofs.Ytlmlckgnmkjkdaa
open Go.ChangeShapes Go.WideShapes Go.ChangeAt Go.RowKit

set_option maxRecDepth 100000 in
theorem fnExactPaneOf_lifted (os : Os) (started : os.Started) (H : Type) (enc : TypeId × Value → H) :
    ReturnsInHanded {} Try.checked os 8 .any (Rows.fnExactPaneOfSpec.pre6 enc Try.prog Try.f8 Rows.fnExactPaneOfRow.domain false) (Rows.fnExactPaneOfSpec.post enc Try.prog Try.f8 false true false false) := by
  refine returnsInHanded_of_change (C := Try.checked) Try.ownKnob started (by kernel_rfl) Try.func8
    (ChangeSpec.witness6 (enc := enc) (C := Try.checked) false ⟨#[], #[.int .i64 0, .agg #[.slice none 0 0, .slice none 0 0, .int .i64 0, .int .i64 0, .int .i64 0, .int .i64 0, .int .i64 0], .int .i64 0, .agg #[.int .i64 0, .int .i64 0], .int .i64 0, .agg #[.int .i64 0, .int .i64 0, .int .u64 0, .int .i64 0, .int .i64 0, .slice none 0 0]], []⟩ 8 (by kernel_rfl) (by kernel_rfl) (by kernel_rfl) (by kernel_rfl)) ?_
  intro W base args ds gs before hval0 hW _ _
  have hval : ∀ (j : Nat) t v, Try.f8.params[j]? = some t → args[j]? = some v → Value.okWide Try.prog W .any base t v := hval0
  have hW' := hW
  obtain ⟨p, q, hA0, hV, rfl, hfz, hnd⟩ := hW
  have hA : DataW.TrodAll enc Try.prog W 0 (fun _ => true) true Try.f8.params.toList args.toList ds p := hA0
  have hback := fun W' (bel : Below W.heap.size W W') => trodAll_below bel _ (by
    rw [Try.params8]; intro t ht; simp only [List.mem_cons, List.not_mem_nil, or_false] at ht
    rcases ht with rfl | rfl | rfl | rfl | rfl | rfl <;> exact ⟨by kernel_rfl, of_decide_eq_true (by kernel_rfl)⟩) hA
  rw [Try.params8] at hA hval
  obtain ⟨v0, vs0, d0, ds0, p0, q0, hargs, rfl, rfl, h0, r0⟩ := trodAll_cons hA
  obtain ⟨v1, vs1, d1, ds1, p1, q1, rfl, rfl, rfl, h1, r1⟩ := trodAll_cons r0
  obtain ⟨v2, vs2, d2, ds2, p2, q2, rfl, rfl, rfl, h2, r2⟩ := trodAll_cons r1
  obtain ⟨v3, vs3, d3, ds3, p3, q3, rfl, rfl, rfl, h3, r3⟩ := trodAll_cons r2
  obtain ⟨v4, vs4, d4, ds4, p4, q4, rfl, rfl, rfl, h4, r4⟩ := trodAll_cons r3
  obtain ⟨v5, vs5, d5, ds5, p5, q5, rfl, rfl, rfl, h5, r5⟩ := trodAll_cons r4
  obtain ⟨rfl, rfl, rfl⟩ := trodAll_nil r5
  obtain rfl : args = #[v0, v1, v2, v3, v4, v5] := by cases args; simp_all
  obtain ⟨rfl, rfl⟩ := trodVars_none hV
  obtain ⟨id, rfl, _, _, wf0⟩ := open_int Try.underlying3 (hval 0 3 v0 rfl rfl) h0
  obtain ⟨F, cf, fs, M, cm, ms, kd, s, st, kq, kk, rfl, hR1, hn1, hP1, hm1⟩ := query_in (hval 1 36 v1 rfl rfl) h1
  obtain ⟨key, rfl, _, _, wf2⟩ := open_int Try.underlying3 (hval 2 3 v2 rfl rfl) h2
  obtain ⟨f, t, rfl, ha3, hb3⟩ := win_in (hval 3 59 v3 rfl rfl) h3
  obtain ⟨lab, rfl, _, _, wf4⟩ := open_int Try.underlying3 (hval 4 3 v4 rfl rfl) h4
  obtain ⟨N, h, l, mn, mx, A, ca, ts, rfl, hR5, hn5, ha5, hb5, hc5, hd5, he5, hz5⟩ := agg_in (hval 5 64 v5 rfl rfl) h5
  refine (fnExactPaneOf_walk id F _ cf fs M _ cm ms kd s st kq kk key f t lab N h l mn mx A _ ca ts W hR1 rfl hn1 hP1 rfl hm1 hR5 rfl hn5 hb5 hc5 hd5 hz5).mono fun e W' ⟨he, bel⟩ => ?_
  subst he
  exact ⟨_, rfl, _, _, _, [], _, [], hW', trodAll_mk1 (shut_bool Try.underlying4 _), hback W' bel, rfl, bel.frame _, fun h => by cases h⟩

theorem fnExactPaneOf_holds : Rows.FnExactPaneOfSaid :=
  OpenClaim.holds_of_wide 8 Try.f8 rfl rfl rfl rfl rfl rfl rfl ⟨rfl, rfl, rfl, rfl, rfl⟩ rfl rfl rfl rfl rfl (by kernel_rfl) Try.func8 (by kernel_rfl)
    (of_decide_eq_true (by kernel_rfl)) (by unfold Func.isWrapper; first | (rw [if_pos (by decide +kernel)]; kernel_rfl) | (rw [if_neg (by decide +kernel)]; exact ⟨rfl, rfl⟩))
    (fun os started H enc _ => fnExactPaneOf_lifted os started H enc)

end Go.Proofs.Ytlmlckgnmkjkdaa
