/-
  Arguments of laws, opened: aggregates.
-/
import Derived.Test.YtkaghdkehkjdoaaLawRowW
import Derived.Test.YtkaghdkehkjdoaaAggI
namespace Go.Proofs.Ytkaghdkehkjdoaa
open Go.ChangeShapes Go.WideShapes Go.ChangeAt Go.RowKit Go.Joins Go.Deep

theorem array6 {cs : Array Value} (h : cs.size = 6) : ∃ c0 c1 c2 c3 c4 c5, cs = #[c0, c1, c2, c3, c4, c5] := by
  obtain ⟨l⟩ := cs
  match l, h with
  | [c0, c1, c2, c3, c4, c5], _ => exact ⟨c0, c1, c2, c3, c4, c5, rfl⟩

set_option maxRecDepth 100000 in
/-- An aggregate of the laws' own that came in. -/
theorem agg_in {H : Type} {enc : TypeId × Value → H} {W : World} {b0 : Nat} {v : Value} {d : DataW H} {p : List MemPlace} (hv : Value.okWide Try.prog W .any b0 46 v)
    (h : DataW.Trod enc Try.prog W 0 (fun _ => true) true 46 v d p) :
    ∃ (N h l mn mx : Int) (A : Option Addr) (ca : Nat) (ts : List Int), v = agv N h l mn mx (.slice A ts.length ca) ∧ Rd W A (iz ts) ∧ ts.length ≤ 9223372036854775807 ∧ I64 N ∧ I64 h ∧ U64w l ∧ I64 mn ∧ I64 mx ∧ ∀ z ∈ ts, I64 z := by
  obtain ⟨cs, rfl, hsz⟩ := okWide_struct Try.underlying46 hv
  obtain ⟨c0, c1, c2, c3, c4, c5, rfl⟩ := array6 (hsz.trans (by kernel_rfl))
  obtain ⟨fuel, hf⟩ := h
  obtain ⟨xs, n', _, _, _, hxl, hx⟩ := DataW.trod_struct Try.underlying46 hf
  have e1 : Try.prog.cellsOf 3 = 1 := by kernel_rfl
  have e2 : Try.prog.cellsOf 44 = 2 := by kernel_rfl
  have e3 : Try.prog.cellsOf 24 = 1 := by kernel_rfl
  have e4 : Try.prog.cellsOf 27 = 1 := by kernel_rfl
  have hxl' : xs.length = 5 := hxl
  have g0 : DataW.trod enc Try.prog W 0 (fun _ => true) true n' 3 (List.take (Try.prog.cellsOf 3) [c0, c1, c2, c3, c4, c5]) = xs[0]? := hx 0 _ rfl
  have g1 : DataW.trod enc Try.prog W 0 (fun _ => true) true n' 44 (List.take (Try.prog.cellsOf 44) [c1, c2, c3, c4, c5]) = xs[1]? := hx 1 _ rfl
  have g2 : DataW.trod enc Try.prog W 0 (fun _ => true) true n' 3 (List.take (Try.prog.cellsOf 3) [c3, c4, c5]) = xs[2]? := hx 2 _ rfl
  have g3 : DataW.trod enc Try.prog W 0 (fun _ => true) true n' 3 (List.take (Try.prog.cellsOf 3) [c4, c5]) = xs[3]? := hx 3 _ rfl
  have g4 : DataW.trod enc Try.prog W 0 (fun _ => true) true n' 24 (List.take (Try.prog.cellsOf 24) [c5]) = xs[4]? := hx 4 _ rfl
  simp only [e1, e2, e3, List.take_succ_cons, List.take_zero] at g0 g1 g2 g3 g4
  rw [List.getElem?_eq_getElem (by omega)] at g0 g1 g2 g3 g4
  obtain ⟨N, f0, _, w0⟩ := DataW.trod_int Try.underlying3 g0
  obtain ⟨mn, f3, _, w3⟩ := DataW.trod_int Try.underlying3 g2
  obtain ⟨mx, f4, _, w4⟩ := DataW.trod_int Try.underlying3 g3
  obtain ⟨zs, n2, _, _, _, hzl, hz⟩ := DataW.trod_struct Try.underlying44 g1
  have hzl' : zs.length = 2 := hzl
  have k0 : DataW.trod enc Try.prog W 0 (fun _ => true) true n2 3 (List.take (Try.prog.cellsOf 3) [c1, c2]) = zs[0]? := hz 0 _ rfl
  have k1 : DataW.trod enc Try.prog W 0 (fun _ => true) true n2 27 (List.take (Try.prog.cellsOf 27) [c2]) = zs[1]? := hz 1 _ rfl
  simp only [e1, e4, List.take_succ_cons, List.take_zero] at k0 k1
  rw [List.getElem?_eq_getElem (by omega)] at k0 k1
  obtain ⟨h, f1, _, w1⟩ := DataW.trod_int Try.underlying3 k0
  obtain ⟨l, f2, _, w2⟩ := DataW.trod_int Try.underlying27 k1
  simp at f0 f1 f2 f3 f4
  subst f0 f1 f2 f3 f4
  obtain ⟨A, ca, ts, rfl, hR, hn, hz⟩ : ∃ (A : Option Addr) (ca : Nat) (ts : List Int), c5 = .slice A ts.length ca ∧ Rd W A (iz ts) ∧ ts.length ≤ 9223372036854775807 ∧ ∀ z ∈ ts, (Lit.int .i64 z).wf = true := by
    rcases open_ints Try.underlying24 Try.underlying3 (by kernel_rfl) g4 with ⟨hcs, _⟩ | ⟨a, len, cap, zs, hcs, _, hl, hm, hz, hy, hcell, hwz⟩
    · obtain rfl : c5 = .slice none 0 0 := by simpa using hcs
      exact ⟨none, 0, [], rfl, (fun k u hu => by simp [iz] at hu), by simp, fun z hz => by cases hz⟩
    · obtain rfl : c5 = .slice (some a) len cap := by simpa using hcs
      rw [if_pos rfl] at hz
      unfold maxLen at hm
      refine ⟨some a, cap, zs.take len, by simp; omega, fun k u hu => ?_, by simp; omega, fun z hz' => hwz z (List.mem_of_mem_take hz')⟩
      have hk : k < len := by
        have := (List.getElem?_eq_some_iff.1 hu).1
        simp [iz] at this; omega
      have hc := hcell k (by omega)
      have hb := World.block_lt_of_cell? W _ hc
      rw [add_block] at hb
      refine ⟨a, rfl, hb, ?_⟩
      rw [hc]
      have hkz : k < zs.length := by omega
      simp [iz, hk, hkz] at hu ⊢
      exact hu
  exact ⟨N, h, l, mn, mx, A, ca, ts, rfl, hR, hn, i64_of w0, i64_of w1, u64_of w2, i64_of w3, i64_of w4, fun z h => i64_of (hz z h)⟩
end Go.Proofs.Ytkaghdkehkjdoaa
