/-
  Arguments of laws, opened: slices of structs whose fields are ints, as one list of integers.
-/
import Derived.Test.YtdphbfapccnhlaaLawRowA
import Derived.Test.YtdphbfapccnhlaaPairs
import Derived.Deep.SlicePairs
namespace Go.Proofs.Ytdphbfapccnhlaa
open Go.ChangeShapes Go.WideShapes Go.ChangeAt Go.RowKit Go.Joins Go.Deep

theorem int_in64 {n : Int} (h : (Lit.int .i64 n).wf = true) : In64 n := by
  simp [Lit.wf, IntKind.min, IntKind.max, IntKind.signed, IntKind.bits] at h
  unfold In64; omega

/-- A slice of structs of s ints that came in. -/
theorem flat_in {P : Program} {H : Type} {enc : TypeId × Value → H} {W : World} {b0 : Nat} {t e : TypeId} {fs : Array Field} {s : Nat} {v : Value} {d : DataW H} {p : List MemPlace}
    (ht : P.underlying t = some (.slice e)) (he : P.underlying e = some (.struct fs)) (ce : P.cellsOf e = s) (hs : fs.size = s)
    (hf : ∀ (j : Nat) (f : Field), fs[j]? = some f → f.offset = j ∧ P.cellsOf f.type = 1 ∧ P.underlying f.type = some (.int .i64))
    (hv : Value.okWide P W .any b0 t v) (h : DataW.Trod enc P W 0 (fun _ => true) true t v d p) :
    ∃ (A : Option Addr) (n ca : Nat) (zs : List Int), v = .slice A n ca ∧ Rd W A (iz zs) ∧ zs.length = n * s ∧ n ≤ 9223372036854775807 ∧ ∀ k, k < zs.length → In64 (iat zs k) := by
  obtain ⟨a0, l0, c0, rfl⟩ := okWide_slice ht hv
  obtain ⟨fuel, hfu⟩ := h
  rcases open_slice ht hfu with ⟨hcs, _⟩ | ⟨a, len, cap, m, n, D, Pl, hcs, _, hl, hm, hmm, _, hcell⟩
  · simp [Value.cells] at hcs
    obtain ⟨rfl, rfl, rfl⟩ := hcs
    exact ⟨none, 0, 0, [], rfl, (fun k u hu => by simp [iz] at hu), by simp, by omega, fun k hk => by simp at hk⟩
  · simp [Value.cells] at hcs
    obtain ⟨rfl, rfl, rfl⟩ := hcs
    rw [if_pos rfl] at hmm
    unfold maxLen at hm
    have each : ∀ k, k < l0 * s → ∃ z : Int, W.cell? (a.add k) = some (.int .i64 z) ∧ In64 z := fun k hk => by
      have hs0 : 0 < s := by
        rcases Nat.eq_zero_or_pos s with h | h
        · rw [h] at hk; simp at hk
        · exact h
      have hi : k / s < l0 := Nat.div_lt_of_lt_mul (by rw [Nat.mul_comm]; exact hk)
      have hj : k % s < s := Nat.mod_lt _ hs0
      obtain ⟨cs', h1, h2⟩ := hcell (k / s) (by omega)
      rw [ce] at h1
      obtain ⟨_, hlen, hc⟩ := World.cells?_some h1
      obtain ⟨xs, n', _, _, _, hxl, hx⟩ := DataW.trod_struct he h2
      have hfj : fs[k % s]? = some fs[k % s] := by simp [hs, hj]
      obtain ⟨o, c, u⟩ := hf _ _ hfj
      have g := hx _ _ hfj
      rw [o, c, List.getElem?_eq_getElem (by omega)] at g
      obtain ⟨z, e1, _, wf⟩ := DataW.trod_int u g
      have e2 := hc _ hj
      rw [add_add, Nat.div_add_mod' k s] at e2
      refine ⟨z, e2.trans ?_, int_in64 wf⟩
      have : (cs'.drop (k % s)).take 1 = [cs'[k % s]] := by
        rw [List.drop_eq_getElem_cons (by omega), List.take_succ_cons, List.take_zero]
      rw [this] at e1
      rw [List.getElem?_eq_getElem (by omega)]
      simpa using e1
    obtain ⟨f, hfq⟩ := choose_lt (α := Int) each
    refine ⟨some a, l0, c0, (List.range (l0 * s)).map f, rfl, fun k u hu => ?_, by simp, by omega, fun k hk => ?_⟩
    · have hk : k < l0 * s := by
        have := (List.getElem?_eq_some_iff.1 hu).1
        rw [iz_length] at this
        simpa using this
      have hb := World.block_lt_of_cell? W _ (hfq k hk).1
      rw [add_block] at hb
      refine ⟨a, rfl, hb, ?_⟩
      rw [iz_iat (by simpa using hk)] at hu
      rw [(hfq k hk).1, ← hu]
      simp [iat, hk]
    · have hk' : k < l0 * s := by simpa using hk
      have := (hfq k hk').2
      simpa [iat, hk'] using this

/-- A struct of s ints that came in. -/
theorem aggF_in {P : Program} {H : Type} {enc : TypeId × Value → H} {W : World} {b0 : Nat} {t : TypeId} {fs : Array Field} {s : Nat} {v : Value} {d : DataW H} {p : List MemPlace}
    (he : P.underlying t = some (.struct fs)) (ce : P.cellsOf t = s) (hs : fs.size = s)
    (hf : ∀ (j : Nat) (f : Field), fs[j]? = some f → f.offset = j ∧ P.cellsOf f.type = 1 ∧ P.underlying f.type = some (.int .i64))
    (hv : Value.okWide P W .any b0 t v) (h : DataW.Trod enc P W 0 (fun _ => true) true t v d p) :
    ∃ zs : List Int, v = .agg (iz zs).toArray ∧ zs.length = s ∧ ∀ k, k < s → In64 (iat zs k) := by
  obtain ⟨cs, rfl, hsz⟩ := okWide_struct he hv
  obtain ⟨fuel, hfu⟩ := h
  obtain ⟨xs, n', _, _, _, hxl, hx⟩ := DataW.trod_struct he hfu
  rw [ce] at hsz
  have each : ∀ k, k < s → ∃ z : Int, cs[k]? = some (.int .i64 z) ∧ In64 z := fun k hk => by
    have hfj : fs[k]? = some fs[k] := by simp [hs, hk]
    obtain ⟨o, c, u⟩ := hf _ _ hfj
    have g := hx _ _ hfj
    rw [o, c, List.getElem?_eq_getElem (by omega)] at g
    obtain ⟨z, e1, _, wf⟩ := DataW.trod_int u g
    have hl : k < (Value.agg cs).cells.toList.length := by simp [Value.cells]; omega
    have : ((Value.agg cs).cells.toList.drop k).take 1 = [(Value.agg cs).cells.toList[k]] := by
      rw [List.drop_eq_getElem_cons hl, List.take_succ_cons, List.take_zero]
    rw [this] at e1
    refine ⟨z, ?_, int_in64 wf⟩
    simp [Value.cells] at e1
    rw [Array.getElem?_eq_getElem (by omega), e1]
  obtain ⟨f, hfq⟩ := choose_lt (α := Int) each
  refine ⟨(List.range s).map f, ?_, by simp, fun k hk => by simpa [iat, hk] using (hfq k hk).2⟩
  congr 1
  apply Array.ext
  · simp [iz, hsz]
  · intro i h1 h2
    have hi : i < s := by omega
    have := (hfq i hi).1
    rw [Array.getElem?_eq_getElem h1] at this
    simpa [iz] using this
end Go.Proofs.Ytdphbfapccnhlaa
