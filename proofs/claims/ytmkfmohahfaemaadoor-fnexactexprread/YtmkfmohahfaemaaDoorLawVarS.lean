/-
  A variable that is an array of strings: what it reads as when the call begins is what it holds; it reads so behind the call.
-/
import Derived.Test.YtmkfmohahfaemaaDoorLawRowA
import Derived.Test.YtmkfmohahfaemaaDoorExprTI
import Derived.ChangeVars
import Derived.Stop.LaidErr
namespace Go.Proofs.YtmkfmohahfaemaaDoor
open Go.ChangeShapes Go.WideShapes Go.ChangeAt Go.RowKit Go.Joins

section
variable {H : Type} {enc : TypeId × Value → H} {P : Program}
/-- an array of strings reads alike in every world -/
theorem trod_strs {W W' : World} {sp sp' : Nat → Bool} {b : Nat} {held : Bool} {t e : TypeId} {n : Nat} (ht : P.underlying t = some (.array n e)) (he : P.underlying e = some .string) (fuel : Nat) (cs : List Value) :
    DataW.trod enc P W b sp held fuel t cs = DataW.trod enc P W' b sp' held fuel t cs := by
  have hs : ∀ fuel cs, DataW.trod enc P W b sp held fuel e cs = DataW.trod enc P W' b sp' held fuel e cs := by
    have one : ∀ (W W' : World) (sp sp' : Nat → Bool) fuel cs x, DataW.trod enc P W b sp held fuel e cs = some x → DataW.trod enc P W' b sp' held fuel e cs = some x := by
      intro W W' sp sp' fuel cs x h
      obtain ⟨s, rfl, rfl, hz⟩ := DataW.trod_string he h
      cases fuel with
      | zero => simp [DataW.trod] at h
      | succ fuel => simp [DataW.trod, he, hz]
    exact fun fuel cs => Option.ext fun x => ⟨one _ _ _ _ fuel cs x, one _ _ _ _ fuel cs x⟩
  cases fuel with
  | zero => simp [DataW.trod]
  | succ fuel => simp only [DataW.trod, ht, hs]

/-- an array of strings that reads as these texts holds them -/
theorem strs_of_trod {W : World} {sp : Nat → Bool} {b : Nat} {held : Bool} {t e : TypeId} {n fuel : Nat} {cs : List Value} {ls : List (List UInt8)} {p : List MemPlace} (ht : P.underlying t = some (.array n e)) (he : P.underlying e = some .string) (hce : P.cellsOf e = 1)
    (h : DataW.trod enc P W b sp held fuel t cs = some (.agg (ls.map fun l => .lit (.string l)), p)) (k : Nat) (hk : k < n) : cs[k]? = some (.string ⟨(ls.getD k []).toArray⟩) := by
  cases fuel with
  | zero => simp [DataW.trod] at h
  | succ fuel =>
    simp only [DataW.trod, ht] at h
    split at h
    · obtain ⟨xs, hm, hx⟩ := Option.map_eq_some_iff.1 h
      obtain ⟨y, hy, hf⟩ := Lib.mapM_at hm k k (by simp [hk])
      obtain ⟨s, hc, rfl, _⟩ := DataW.trod_string he hf
      have hxs : xs.map (·.1) = ls.map fun l => (DataW.lit (.string l) : DataW H) := by
        have := congrArg Prod.fst hx
        simpa using this
      have h2 : (xs.map (·.1))[k]? = some (DataW.lit (.string s.data.toList) : DataW H) := by simp [hy]
      rw [hxs] at h2
      simp only [List.getElem?_map, Option.map_eq_some_iff, DataW.lit.injEq, Lit.string.injEq] at h2
      obtain ⟨l, hl, rfl⟩ := h2
      rw [hce] at hc
      have h1 : cs[k]? = some (.string s) := by
        have := congrArg (·[0]?) hc
        simpa [List.getElem?_take, List.getElem?_drop] using this
      rw [h1]
      simp only [List.getD, hl, Option.getD_some, Array.toArray_toList]
    · cases h
end
end Go.Proofs.YtmkfmohahfaemaaDoor
