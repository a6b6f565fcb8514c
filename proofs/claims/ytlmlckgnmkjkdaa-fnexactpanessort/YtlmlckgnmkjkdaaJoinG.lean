import Derived.Test.YtlmlckgnmkjkdaaLawRowT
import Derived.Test.YtlmlckgnmkjkdaaPaneA
import Derived.Test.YtlmlckgnmkjkdaaKitQuery
import Derived.Test.YtlmlckgnmkjkdaaJoinF

/-
  Arguments of laws, opened: elements, queries, panes. WRITTEN BY tools/genrowq.py.
-/
namespace Go.Proofs.Ytlmlckgnmkjkdaa
open Go.ChangeShapes Go.WideShapes Go.ChangeAt Go.RowKit Go.Joins Go.Deep

/-- a row of ints within what came in -/
theorem ints_trod {H : Type} {enc : TypeId × Value → H} {W : World} {fuel : Nat} {v : Value} {y : DataW H × List MemPlace} (h : DataW.trod enc Try.prog W 0 (fun _ => true) true fuel 29 [v] = some y) :
    ∃ (A : Option Addr) (ca : Nat) (ts : List Int), v = .slice A ts.length ca ∧ Rd W A (iz ts) ∧ ts.length ≤ 9223372036854775807 := by
  rcases open_ints Try.underlying29 Try.underlying3 (by kernel_rfl) h with ⟨hcs, _⟩ | ⟨a, len, cap, zs, hcs, _, hl, hm, hz, hy, hcell, hwz⟩
  · obtain rfl : v = .slice none 0 0 := by simpa using hcs
    exact ⟨none, 0, [], rfl, (fun k u hu => by simp [iz] at hu), by simp⟩
  · obtain rfl : v = .slice (some a) len cap := by simpa using hcs
    rw [if_pos rfl] at hz
    unfold maxLen at hm
    refine ⟨some a, cap, zs.take len, by simp; omega, fun k u hu => ?_, by simp; omega⟩
    have hk : k < len := by
      have := (List.getElem?_eq_some_iff.1 hu).1
      simp [iz] at this; omega
    have hc := hcell k (by omega)
    have hb := World.block_lt_of_cell? W _ hc
    rw [add_block] at hb
    refine ⟨a, rfl, hb, ?_⟩
    rw [hc]
    have hkz : k < zs.length := by omega
    simp [iz, hk, hkz] at hu ⊢
    exact hu
/-- a row of tokens within what came in -/
theorem toks_trod {H : Type} {enc : TypeId × Value → H} {W : World} {fuel : Nat} {v : Value} {y : DataW H × List MemPlace} (h : DataW.trod enc Try.prog W 0 (fun _ => true) true fuel 32 [v] = some y) :
    ∃ (A : Option Addr) (ca : Nat) (es : List (Int × Int)), v = .slice A es.length ca ∧ Rd W A (ez es) ∧ es.length ≤ 9223372036854775807 := by
  rcases open_slice_pairs Try.underlying32 Try.underlying127 (by kernel_rfl) (by kernel_rfl) (by kernel_rfl) (by kernel_rfl) (by kernel_rfl) h with ⟨hcs, _⟩ | ⟨a, len, cap, m, n, V0, V1, D0, D1, P0, P1, hcs, _, hl, hm, hmm, _, hcell⟩
  · obtain rfl : v = .slice none 0 0 := by simpa using hcs
    exact ⟨none, 0, [], rfl, (fun k u hu => by simp [ez] at hu), by simp⟩
  · obtain rfl : v = .slice (some a) len cap := by simpa using hcs
    rw [if_pos rfl] at hmm
    unfold maxLen at hm
    have each : ∀ i, i < len → ∃ q : Int × Int, V0 i = .int .i64 q.1 ∧ V1 i = .int .i64 q.2 := fun i hi => by
      obtain ⟨_, _, t0, t1⟩ := hcell i (by omega)
      obtain ⟨x, e0, _, w0⟩ := DataW.trod_int Try.underlying3 t0
      obtain ⟨y, e1, _, w1⟩ := DataW.trod_int Try.underlying3 t1
      exact ⟨(x, y), by simpa using e0, by simpa using e1⟩
    obtain ⟨f, hfq⟩ := choose_lt (α := Int × Int) (p := fun i q => V0 i = .int .i64 q.1 ∧ V1 i = .int .i64 q.2) each
    refine ⟨some a, cap, (List.range len).map f, by simp, fun k u hu => ?_, by simp; omega⟩
    have hk : k < len * 2 := by
      have := (List.getElem?_eq_some_iff.1 hu).1
      rw [ez_length] at this
      simpa using this
    obtain ⟨i, hi2⟩ : ∃ i, i < len ∧ (k = i * 2 ∨ k = i * 2 + 1) := ⟨k / 2, by omega, by omega⟩
    obtain ⟨hi, hk2⟩ := hi2
    obtain ⟨h0, h1, _, _⟩ := hcell i (by omega)
    obtain ⟨q0, q1⟩ := hfq i hi
    have hb := World.block_lt_of_cell? W _ h0
    rw [add_block] at hb
    refine ⟨a, rfl, hb, ?_⟩
    have hil : i < ((List.range len).map f).length := by simpa using hi
    rcases hk2 with rfl | rfl
    · rw [ez_lo hil] at hu
      rw [h0, q0, ← hu]
      simp [elo, hi]
    · rw [ez_hi hil] at hu
      rw [h1, q1, ← hu]
      simp [ehi, hi]

set_option maxRecDepth 100000 in
/-- a definition of windows within what came in -/
theorem windef_trod {H : Type} {enc : TypeId × Value → H} {W : World} {fuel : Nat} {cs : List Value} {y : DataW H × List MemPlace} (hl : cs.length = 3) (h : DataW.trod enc Try.prog W 0 (fun _ => true) true fuel 34 cs = some y) :
    ∃ k s t : Int, cs = [.int .i64 k, .int .i64 s, .int .i64 t] := by
  obtain ⟨c0, c1, c2, rfl⟩ : ∃ c0 c1 c2, cs = [c0, c1, c2] := by
    match cs, hl with
    | [c0, c1, c2], _ => exact ⟨c0, c1, c2, rfl⟩
  obtain ⟨xs, n', _, _, _, hxl, hx⟩ := DataW.trod_struct Try.underlying34 h
  have e0 : Try.prog.cellsOf 3 = 1 := by kernel_rfl
  have hxl' : xs.length = 3 := hxl
  have g0 : DataW.trod enc Try.prog W 0 (fun _ => true) true n' 3 (List.take (Try.prog.cellsOf 3) [c0, c1, c2]) = xs[0]? := hx 0 _ rfl
  have g1 : DataW.trod enc Try.prog W 0 (fun _ => true) true n' 3 (List.take (Try.prog.cellsOf 3) [c1, c2]) = xs[1]? := hx 1 _ rfl
  have g2 : DataW.trod enc Try.prog W 0 (fun _ => true) true n' 3 (List.take (Try.prog.cellsOf 3) [c2]) = xs[2]? := hx 2 _ rfl
  simp only [e0, List.take_succ_cons, List.take_zero] at g0 g1 g2
  rw [List.getElem?_eq_getElem (by omega)] at g0 g1 g2
  obtain ⟨k, f0, _, _⟩ := DataW.trod_int Try.underlying3 g0
  obtain ⟨s, f1, _, _⟩ := DataW.trod_int Try.underlying3 g1
  obtain ⟨t, f2, _, _⟩ := DataW.trod_int Try.underlying3 g2
  simp at f0 f1 f2
  subst f0
  subst f1
  subst f2
  exact ⟨k, s, t, rfl⟩

set_option maxRecDepth 100000 in
/-- an element within what came in -/
theorem elem_trod {H : Type} {enc : TypeId × Value → H} {W : World} {fuel : Nat} {cs : List Value} {y : DataW H × List MemPlace} (hl : cs.length = 4) (h : DataW.trod enc Try.prog W 0 (fun _ => true) true fuel 47 cs = some y) :
    ∃ s k v t : Int, cs = [.int .i64 s, .int .i64 k, .int .i64 v, .int .i64 t] := by
  obtain ⟨c0, c1, c2, c3, rfl⟩ : ∃ c0 c1 c2 c3, cs = [c0, c1, c2, c3] := by
    match cs, hl with
    | [c0, c1, c2, c3], _ => exact ⟨c0, c1, c2, c3, rfl⟩
  obtain ⟨xs, n', _, _, _, hxl, hx⟩ := DataW.trod_struct Try.underlying47 h
  have e0 : Try.prog.cellsOf 3 = 1 := by kernel_rfl
  have hxl' : xs.length = 4 := hxl
  have g0 : DataW.trod enc Try.prog W 0 (fun _ => true) true n' 3 (List.take (Try.prog.cellsOf 3) [c0, c1, c2, c3]) = xs[0]? := hx 0 _ rfl
  have g1 : DataW.trod enc Try.prog W 0 (fun _ => true) true n' 3 (List.take (Try.prog.cellsOf 3) [c1, c2, c3]) = xs[1]? := hx 1 _ rfl
  have g2 : DataW.trod enc Try.prog W 0 (fun _ => true) true n' 3 (List.take (Try.prog.cellsOf 3) [c2, c3]) = xs[2]? := hx 2 _ rfl
  have g3 : DataW.trod enc Try.prog W 0 (fun _ => true) true n' 3 (List.take (Try.prog.cellsOf 3) [c3]) = xs[3]? := hx 3 _ rfl
  simp only [e0, List.take_succ_cons, List.take_zero] at g0 g1 g2 g3
  rw [List.getElem?_eq_getElem (by omega)] at g0 g1 g2 g3
  obtain ⟨s, f0, _, _⟩ := DataW.trod_int Try.underlying3 g0
  obtain ⟨k, f1, _, _⟩ := DataW.trod_int Try.underlying3 g1
  obtain ⟨v, f2, _, _⟩ := DataW.trod_int Try.underlying3 g2
  obtain ⟨t, f3, _, _⟩ := DataW.trod_int Try.underlying3 g3
  simp at f0 f1 f2 f3
  subst f0
  subst f1
  subst f2
  subst f3
  exact ⟨s, k, v, t, rfl⟩

set_option maxRecDepth 100000 in
/-- a query within what came in -/
theorem query_trod {H : Type} {enc : TypeId × Value → H} {W : World} {fuel : Nat} {cs : List Value} {y : DataW H × List MemPlace} (hl : cs.length = 7) (h : DataW.trod enc Try.prog W 0 (fun _ => true) true fuel 36 cs = some y) :
    ∃ (F : Option Addr) (cf : Nat) (fs : List (Int × Int)) (M : Option Addr) (cm : Nat) (ms : List (Int × Int)) (k s t q kk : Int), cs = qc (.slice F fs.length cf) (.slice M ms.length cm) k s t q kk ∧ Rd W F (ez fs) ∧ fs.length ≤ 9223372036854775807 ∧ Rd W M (ez ms) ∧ ms.length ≤ 9223372036854775807 := by
  obtain ⟨c0, c1, c2, c3, c4, c5, c6, rfl⟩ : ∃ c0 c1 c2 c3 c4 c5 c6, cs = [c0, c1, c2, c3, c4, c5, c6] := by
    match cs, hl with
    | [c0, c1, c2, c3, c4, c5, c6], _ => exact ⟨c0, c1, c2, c3, c4, c5, c6, rfl⟩
  obtain ⟨xs, n', _, _, _, hxl, hx⟩ := DataW.trod_struct Try.underlying36 h
  have e0 : Try.prog.cellsOf 32 = 1 := by kernel_rfl
  have e1 : Try.prog.cellsOf 3 = 1 := by kernel_rfl
  have e2 : Try.prog.cellsOf 34 = 3 := by kernel_rfl
  have hxl' : xs.length = 5 := hxl
  have g0 : DataW.trod enc Try.prog W 0 (fun _ => true) true n' 32 (List.take (Try.prog.cellsOf 32) [c0, c1, c2, c3, c4, c5, c6]) = xs[0]? := hx 0 _ rfl
  have g1 : DataW.trod enc Try.prog W 0 (fun _ => true) true n' 32 (List.take (Try.prog.cellsOf 32) [c1, c2, c3, c4, c5, c6]) = xs[1]? := hx 1 _ rfl
  have g2 : DataW.trod enc Try.prog W 0 (fun _ => true) true n' 34 (List.take (Try.prog.cellsOf 34) [c2, c3, c4, c5, c6]) = xs[2]? := hx 2 _ rfl
  have g3 : DataW.trod enc Try.prog W 0 (fun _ => true) true n' 3 (List.take (Try.prog.cellsOf 3) [c5, c6]) = xs[3]? := hx 3 _ rfl
  have g4 : DataW.trod enc Try.prog W 0 (fun _ => true) true n' 3 (List.take (Try.prog.cellsOf 3) [c6]) = xs[4]? := hx 4 _ rfl
  simp only [e0, e1, e2, List.take_succ_cons, List.take_zero] at g0 g1 g2 g3 g4
  rw [List.getElem?_eq_getElem (by omega)] at g0 g1 g2 g3 g4
  obtain ⟨AF, cF, F, rfl, hRF, hnF⟩ := toks_trod g0
  obtain ⟨AM, cM, M, rfl, hRM, hnM⟩ := toks_trod g1
  obtain ⟨k, s, t, f2⟩ := windef_trod (by rfl) g2
  obtain ⟨q, f3, _, _⟩ := DataW.trod_int Try.underlying3 g3
  obtain ⟨kk, f4, _, _⟩ := DataW.trod_int Try.underlying3 g4
  simp at f2 f3 f4
  obtain ⟨rfl, rfl, rfl⟩ := f2
  subst f3
  subst f4
  exact ⟨AF, cF, F, AM, cM, M, k, s, t, q, kk, rfl, hRF, hnF, hRM, hnM⟩

set_option maxRecDepth 100000 in
/-- a pane within what came in -/
theorem pane_trod {H : Type} {enc : TypeId × Value → H} {W : World} {fuel : Nat} {cs : List Value} {y : DataW H × List MemPlace} (hl : cs.length = 8) (h : DataW.trod enc Try.prog W 0 (fun _ => true) true fuel 52 cs = some y) :
    ∃ (q k f t l n : Int) (A : Option Addr) (ca : Nat) (zs : List Int) (o : Bool), cs = pac q k f t l n (.slice A zs.length ca) o ∧ Rd W A (iz zs) ∧ zs.length ≤ 9223372036854775807 := by
  obtain ⟨c0, c1, c2, c3, c4, c5, c6, c7, rfl⟩ : ∃ c0 c1 c2 c3 c4 c5 c6 c7, cs = [c0, c1, c2, c3, c4, c5, c6, c7] := by
    match cs, hl with
    | [c0, c1, c2, c3, c4, c5, c6, c7], _ => exact ⟨c0, c1, c2, c3, c4, c5, c6, c7, rfl⟩
  obtain ⟨xs, n', _, _, _, hxl, hx⟩ := DataW.trod_struct Try.underlying52 h
  have e0 : Try.prog.cellsOf 29 = 1 := by kernel_rfl
  have e1 : Try.prog.cellsOf 4 = 1 := by kernel_rfl
  have e2 : Try.prog.cellsOf 3 = 1 := by kernel_rfl
  have hxl' : xs.length = 8 := hxl
  have g0 : DataW.trod enc Try.prog W 0 (fun _ => true) true n' 3 (List.take (Try.prog.cellsOf 3) [c0, c1, c2, c3, c4, c5, c6, c7]) = xs[0]? := hx 0 _ rfl
  have g1 : DataW.trod enc Try.prog W 0 (fun _ => true) true n' 3 (List.take (Try.prog.cellsOf 3) [c1, c2, c3, c4, c5, c6, c7]) = xs[1]? := hx 1 _ rfl
  have g2 : DataW.trod enc Try.prog W 0 (fun _ => true) true n' 3 (List.take (Try.prog.cellsOf 3) [c2, c3, c4, c5, c6, c7]) = xs[2]? := hx 2 _ rfl
  have g3 : DataW.trod enc Try.prog W 0 (fun _ => true) true n' 3 (List.take (Try.prog.cellsOf 3) [c3, c4, c5, c6, c7]) = xs[3]? := hx 3 _ rfl
  have g4 : DataW.trod enc Try.prog W 0 (fun _ => true) true n' 3 (List.take (Try.prog.cellsOf 3) [c4, c5, c6, c7]) = xs[4]? := hx 4 _ rfl
  have g5 : DataW.trod enc Try.prog W 0 (fun _ => true) true n' 3 (List.take (Try.prog.cellsOf 3) [c5, c6, c7]) = xs[5]? := hx 5 _ rfl
  have g6 : DataW.trod enc Try.prog W 0 (fun _ => true) true n' 29 (List.take (Try.prog.cellsOf 29) [c6, c7]) = xs[6]? := hx 6 _ rfl
  have g7 : DataW.trod enc Try.prog W 0 (fun _ => true) true n' 4 (List.take (Try.prog.cellsOf 4) [c7]) = xs[7]? := hx 7 _ rfl
  simp only [e0, e1, e2, List.take_succ_cons, List.take_zero] at g0 g1 g2 g3 g4 g5 g6 g7
  rw [List.getElem?_eq_getElem (by omega)] at g0 g1 g2 g3 g4 g5 g6 g7
  obtain ⟨q, f0, _, _⟩ := DataW.trod_int Try.underlying3 g0
  obtain ⟨k, f1, _, _⟩ := DataW.trod_int Try.underlying3 g1
  obtain ⟨f, f2, _, _⟩ := DataW.trod_int Try.underlying3 g2
  obtain ⟨t, f3, _, _⟩ := DataW.trod_int Try.underlying3 g3
  obtain ⟨l, f4, _, _⟩ := DataW.trod_int Try.underlying3 g4
  obtain ⟨n, f5, _, _⟩ := DataW.trod_int Try.underlying3 g5
  obtain ⟨Az, cz, z, rfl, hRz, hnz⟩ := ints_trod g6
  obtain ⟨o, f7, _⟩ := DataW.trod_bool Try.underlying4 g7
  simp at f0 f1 f2 f3 f4 f5 f7
  subst f0
  subst f1
  subst f2
  subst f3
  subst f4
  subst f5
  subst f7
  exact ⟨q, k, f, t, l, n, Az, cz, z, o, rfl, hRz, hnz⟩

set_option maxRecDepth 100000 in
/-- An element of the laws' own that came in. -/
theorem elem_in {H : Type} {enc : TypeId × Value → H} {W : World} {b0 : Nat} {v : Value} {d : DataW H} {p : List MemPlace} (hv : Value.okWide Try.prog W .any b0 47 v)
    (h : DataW.Trod enc Try.prog W 0 (fun _ => true) true 47 v d p) :
    ∃ s k u t : Int, v = .agg #[.int .i64 s, .int .i64 k, .int .i64 u, .int .i64 t] := by
  obtain ⟨cs, rfl, hsz⟩ := okWide_struct Try.underlying47 hv
  obtain ⟨fuel, hf⟩ := h
  have hl : cs.toList.length = 4 := hsz.trans (by kernel_rfl)
  obtain ⟨l⟩ := cs
  obtain ⟨s, k, u, t, e⟩ := elem_trod hl (show DataW.trod enc Try.prog W 0 (fun _ => true) true fuel 47 l = _ from hf)
  simp only at e
  subst e
  exact ⟨s, k, u, t, rfl⟩

set_option maxRecDepth 100000 in
/-- A query of the laws' own that came in. -/
theorem query_in {H : Type} {enc : TypeId × Value → H} {W : World} {b0 : Nat} {v : Value} {d : DataW H} {p : List MemPlace} (hv : Value.okWide Try.prog W .any b0 36 v)
    (h : DataW.Trod enc Try.prog W 0 (fun _ => true) true 36 v d p) :
    ∃ (F : Option Addr) (cf : Nat) (fs : List (Int × Int)) (M : Option Addr) (cm : Nat) (ms : List (Int × Int)) (k s t q kk : Int), v = qv (.slice F fs.length cf) (.slice M ms.length cm) k s t q kk ∧ Rd W F (ez fs) ∧ fs.length ≤ 9223372036854775807 ∧ Rd W M (ez ms) ∧ ms.length ≤ 9223372036854775807 := by
  obtain ⟨cs, rfl, hsz⟩ := okWide_struct Try.underlying36 hv
  obtain ⟨fuel, hf⟩ := h
  have hl : cs.toList.length = 7 := hsz.trans (by kernel_rfl)
  obtain ⟨l⟩ := cs
  obtain ⟨F, cf, fs, M, cm, ms, k, s, t, q, kk, e, hF, hnF, hM, hnM⟩ := query_trod hl (show DataW.trod enc Try.prog W 0 (fun _ => true) true fuel 36 l = _ from hf)
  simp only at e
  subst e
  exact ⟨F, cf, fs, M, cm, ms, k, s, t, q, kk, rfl, hF, hnF, hM, hnM⟩

set_option maxRecDepth 100000 in
/-- A pane of the laws' own that came in. -/
theorem pane_in {H : Type} {enc : TypeId × Value → H} {W : World} {b0 : Nat} {v : Value} {d : DataW H} {p : List MemPlace} (hv : Value.okWide Try.prog W .any b0 52 v)
    (h : DataW.Trod enc Try.prog W 0 (fun _ => true) true 52 v d p) :
    ∃ (q k f t l n : Int) (A : Option Addr) (ca : Nat) (zs : List Int) (o : Bool), v = pav q k f t l n (.slice A zs.length ca) o ∧ Rd W A (iz zs) ∧ zs.length ≤ 9223372036854775807 := by
  obtain ⟨cs, rfl, hsz⟩ := okWide_struct Try.underlying52 hv
  obtain ⟨fuel, hf⟩ := h
  have hl : cs.toList.length = 8 := hsz.trans (by kernel_rfl)
  obtain ⟨l⟩ := cs
  obtain ⟨q, k, f, t, l, n, A, ca, zs, o, e, hA, hn⟩ := pane_trod hl (show DataW.trod enc Try.prog W 0 (fun _ => true) true fuel 52 l = _ from hf)
  simp only at e
  subst e
  exact ⟨q, k, f, t, l, n, A, ca, zs, o, rfl, hA, hn⟩
end Go.Proofs.Ytlmlckgnmkjkdaa

/-
  Arguments of laws, opened: lists of panes.
-/
namespace Go.Proofs.Ytlmlckgnmkjkdaa
open Go.ChangeShapes Go.WideShapes Go.ChangeAt Go.RowKit Go.Joins Go.Deep

instance : Inhabited (Pl × Value) := ⟨(pzero, .slice none 0 0)⟩
set_option maxRecDepth 100000 in
/-- A slice of the laws' own panes that came in. -/
theorem panes_in {H : Type} {enc : TypeId × Value → H} {W : World} {b0 : Nat} {v : Value} {d : DataW H} {p : List MemPlace} (hv : Value.okWide Try.prog W .any b0 79 v)
    (h : DataW.Trod enc Try.prog W 0 (fun _ => true) true 79 v d p) :
    ∃ (A : Option Addr) (n ca : Nat) (X : PX), v = .slice A n ca ∧ PRd W A n X ∧ n ≤ 9223372036854775807 ∧ ∀ i, i < n → (X i).1.vs.length ≤ 9223372036854775807 := by
  obtain ⟨a0, l0, c0, rfl⟩ := okWide_slice Try.underlying79 hv
  obtain ⟨fuel, hfu⟩ := h
  have ce : Try.prog.cellsOf 52 = 8 := by kernel_rfl
  rcases open_slice Try.underlying79 hfu with ⟨hcs, _⟩ | ⟨a, len, cap, m, n, D, Ps, hcs, _, hl, hm, hmm, _, hcell⟩
  · simp [Value.cells] at hcs
    obtain ⟨rfl, rfl, rfl⟩ := hcs
    exact ⟨none, 0, 0, fun _ => (pzero, .slice none 0 0), rfl, ⟨(fun k u hu => by simp [prow, rows] at hu), fun i hi => by omega⟩, by omega, fun i hi => by omega⟩
  · simp [Value.cells] at hcs
    obtain ⟨rfl, rfl, rfl⟩ := hcs
    rw [if_pos rfl] at hmm
    unfold maxLen at hm
    have each : ∀ i, i < l0 → ∃ x : Pl × Value, (∀ j, j < 8 → W.cell? (a.add (i * 8 + j)) = (pcx x)[j]?) ∧ VRd W x ∧ x.1.vs.length ≤ 9223372036854775807 := fun i hi => by
      obtain ⟨cs', h1, h2⟩ := hcell i (by omega)
      rw [ce] at h1
      obtain ⟨_, hlen, hc⟩ := World.cells?_some h1
      obtain ⟨q, k, f, t, l, n', A, ca, zs, o, e, hA, hn⟩ := pane_trod hlen h2
      subst e
      refine ⟨(⟨q, k, f, t, l, n', zs, o⟩, .slice A zs.length ca), fun j hj => ?_, ⟨A, ca, rfl, hA⟩, hn⟩
      have := hc j hj
      rw [add_add] at this
      exact this
    obtain ⟨f, hf⟩ := choose_lt (α := Pl × Value) each
    refine ⟨some a, l0, c0, f, rfl, ⟨fun k u hu => ?_, fun i hi => (hf i hi).2.1⟩, by omega, fun i hi => (hf i hi).2.2⟩
    have hk : k < l0 * 8 := by
      have := (List.getElem?_eq_some_iff.1 hu).1
      rw [prow_length] at this
      exact this
    have hi : k / 8 < l0 := by omega
    have h1 := (hf (k / 8) hi).1 (k % 8) (by omega)
    have h2 := rows_at (pcx_len f) hi (j := k % 8) (by omega)
    rw [show k / 8 * 8 + k % 8 = k by omega] at h1 h2
    have hu' : (pcx (f (k / 8)))[k % 8]? = some u := h2.symm.trans hu
    rw [hu'] at h1
    have hb := World.block_lt_of_cell? W _ h1
    rw [add_block] at hb
    exact ⟨a, rfl, hb, h1⟩
end Go.Proofs.Ytlmlckgnmkjkdaa

/-
  The law on PanesSort: at every list of panes the program answers as the model, writes into no argument, and its answer owns its memory. No condition.
-/
namespace Go.Proofs.Ytlmlckgnmkjkdaa
open Go.ChangeShapes Go.WideShapes Go.ChangeAt Go.RowKit

set_option maxRecDepth 100000 in
theorem fnExactPanesSort_lifted (os : Os) (started : os.Started) (H : Type) (enc : TypeId × Value → H) :
    ReturnsInHanded {} Try.checked os 9 .any (Rows.fnExactPanesSortSpec.pre6 enc Try.prog Try.f9 Rows.fnExactPanesSortRow.domain false) (Rows.fnExactPanesSortSpec.post enc Try.prog Try.f9 false true false false) := by
  refine returnsInHanded_of_change (C := Try.checked) Try.ownKnob started (by kernel_rfl) Try.func9
    (ChangeSpec.witness6 (enc := enc) (C := Try.checked) false ⟨#[], #[.slice none 0 0], []⟩ 8 (by kernel_rfl) (by kernel_rfl) (by kernel_rfl) (by kernel_rfl)) ?_
  intro W base args ds gs before hval0 hW _ _
  have hval : ∀ (j : Nat) t v, Try.f9.params[j]? = some t → args[j]? = some v → Value.okWide Try.prog W .any base t v := hval0
  have hW' := hW
  obtain ⟨p, q, hA0, hV, rfl, hfz, hnd⟩ := hW
  have hA : DataW.TrodAll enc Try.prog W 0 (fun _ => true) true Try.f9.params.toList args.toList ds p := hA0
  have hback := fun W' (bel : Below W.heap.size W W') => trodAll_below bel _ (by
    rw [Try.params9]; intro t ht; simp only [List.mem_cons, List.not_mem_nil, or_false] at ht
    rcases ht with rfl <;> exact ⟨by kernel_rfl, of_decide_eq_true (by kernel_rfl)⟩) hA
  rw [Try.params9] at hA hval
  obtain ⟨v0, vs0, d0, ds0, p0, q0, hargs, rfl, rfl, h0, r0⟩ := trodAll_cons hA
  obtain ⟨rfl, rfl, rfl⟩ := trodAll_nil r0
  obtain rfl : args = #[v0] := by cases args; simp_all
  obtain ⟨rfl, rfl⟩ := trodVars_none hV
  obtain ⟨A, n, ca, X, rfl, hR0, hn0, hm0⟩ := panes_in (hval 0 79 v0 rfl rfl) h0
  refine (fnExactPanesSort_walk A n ca X W hR0 hn0 hm0).mono fun e W' ⟨he, bel⟩ => ?_
  subst he
  exact ⟨_, rfl, _, _, _, [], _, [], hW', trodAll_mk1 (shut_bool Try.underlying4 _), hback W' bel, rfl, bel.frame _, fun h => by cases h⟩

theorem fnExactPanesSort_holds : Rows.FnExactPanesSortSaid :=
  OpenClaim.holds_of_wide 9 Try.f9 rfl rfl rfl rfl rfl rfl rfl ⟨rfl, rfl, rfl, rfl, rfl⟩ rfl rfl rfl rfl rfl (by kernel_rfl) Try.func9 (by kernel_rfl)
    (of_decide_eq_true (by kernel_rfl)) (by unfold Func.isWrapper; first | (rw [if_pos (by decide +kernel)]; kernel_rfl) | (rw [if_neg (by decide +kernel)]; exact ⟨rfl, rfl⟩))
    (fun os started H enc _ => fnExactPanesSort_lifted os started H enc)

end Go.Proofs.Ytlmlckgnmkjkdaa
