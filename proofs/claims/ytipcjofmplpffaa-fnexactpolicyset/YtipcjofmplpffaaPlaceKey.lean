/-
  Maps whose keys are places (source, bits, key) and whose elements are labels.
-/
import Derived.Test.YtipcjofmplpffaaPolicyOkI
import Derived.Test.YtipcjofmplpffaaKey3
import Derived.Maps.RangeWalk
import Derived.Maps.OwnSet
import Derived.Maps.Ext
import Derived.DeepKeys4
namespace Go.Proofs.Ytipcjofmplpffaa
open Go.RowKit Go.WideMaps Go.Maps

abbrev Pl := Int × Int × Int
abbrev plV (p : Pl) : Value := .agg #[.int .i64 p.1, .int .i64 p.2.1, .int .i64 p.2.2]
def kp (p : Pl) : Lit := .string (keyBytes [.int .i64 p.1, .int .i64 p.2.1, .int .i64 p.2.2])
def plc (p : Pn) : Pl := (p.1, p.2.1, p.2.2.1)
def wfPl (p : Pl) : Prop := (Lit.int .i64 p.1).wf = true ∧ (Lit.int .i64 p.2.1).wf = true ∧ (Lit.int .i64 p.2.2).wf = true

set_option maxRecDepth 100000 in
theorem laidOut_prog : laidOutB Try.prog = true := by kernel_rfl
set_option maxRecDepth 100000 in
theorem place_row : (70 : TypeId) < Try.prog.types.size := of_decide_eq_true (by kernel_rfl)
set_option maxRecDepth 100000 in
theorem place_wide : (match Try.prog.underlying 70 with | some (.array _ _) | some (.struct _) => true | _ => false) = true := by rw [Try.underlying70]
set_option maxRecDepth 100000 in
theorem placeLaw : Keyed Try.prog 70 := Keyed.of_law (deep_law_laid laidOut_prog (m := 2) (by omega) place_row (by kernel_rfl) place_wide)
set_option maxRecDepth 100000 in
theorem placeKey : ∃ fs, Key3 Try.prog 70 3 fs := by
  refine ⟨_, ⟨Try.underlying70, Try.underlying3, by kernel_rfl, by kernel_rfl, by kernel_rfl, by kernel_rfl, by kernel_rfl, of_decide_eq_true (by kernel_rfl)⟩⟩
theorem keyOf_place {p : Pl} (h : wfPl p) : keyOf Try.prog 70 (plV p) = some (kp p) := by
  obtain ⟨fs, K⟩ := placeKey
  exact keyOf_three K h.1 h.2.1 h.2.2
theorem keyOf_place_inv {v : Value} {l : Lit} (h : keyOf Try.prog 70 v = some l) : ∃ p : Pl, v = plV p ∧ wfPl p ∧ l = kp p := by
  obtain ⟨fs, K⟩ := placeKey
  obtain ⟨a, b, c, rfl, hw, rfl⟩ := keyOf_three_inv K h
  exact ⟨(a, b, c), rfl, hw, rfl⟩
theorem kp_inj {p q : Pl} (hp : wfPl p) (hq : wfPl q) (h : kp p = kp q) : p = q := by
  have e := placeLaw.inj (keyOf_place hp) (h ▸ keyOf_place hq)
  obtain ⟨a, b, c⟩ := p
  obtain ⟨a', b', c'⟩ := q
  simpa using e
theorem kp_key (p : Pl) : WideAt.IsKeyLit (kp p) := trivial

theorem kp_same {p q : Pn} (hp : wfPl (plc p)) (hq : wfPl (plc q)) : kp (plc p) = kp (plc q) ↔ sameP p q := by
  constructor
  · intro h
    have := kp_inj hp hq h
    simp only [plc, Prod.mk.injEq] at this
    exact this
  · intro h
    unfold plc
    rw [h.1, h.2.1, h.2.2]

/-- The map D holds the labels of the puncts qs, and nothing else. -/
structure Tie (D : DataW Unit) (qs : List Pn) : Prop where
  keys : ∀ k, Maps.has D k = true ↔ ∃ q ∈ qs, kp (plc q) = k
  vals : ∀ q ∈ qs, ∀ z, D.atKey (kp (plc q)) z = .lit (.int .i64 q.2.2.2)
  wf : ∀ q ∈ qs, wfPl (plc q)
  one : qs.Pairwise (fun a b => ¬ sameP a b)

theorem Tie.none : Tie (.map []) [] := ⟨fun k => by simp [Maps.has], fun q hq => by simp at hq, fun q hq => by simp at hq, List.Pairwise.nil⟩
theorem Tie.put {D : DataW Unit} {qs : List Pn} (h : Tie D qs) (hm : IsMap D) {p : Pn} (hw : wfPl (plc p)) :
    Tie (D.put (kp (plc p)) (.lit (.int .i64 p.2.2.2))) (without qs p ++ [p]) := by
  refine ⟨fun k => ?_, fun q hq z => ?_, fun q hq => ?_, ?_⟩
  · by_cases hk : k = kp (plc p)
    · subst hk
      rw [has_put_same hm (kp_key _)]
      exact ⟨fun _ => ⟨p, by simp, rfl⟩, fun _ => rfl⟩
    · rw [has_put_other hk, h.keys]
      constructor
      · rintro ⟨q, hq, rfl⟩
        exact ⟨q, List.mem_append.2 (.inl (mem_without.2 ⟨hq, fun e => hk ((kp_same (h.wf q hq) hw).2 e)⟩)), rfl⟩
      · rintro ⟨q, hq, rfl⟩
        rcases List.mem_append.1 hq with hq | hq
        · exact ⟨q, (mem_without.1 hq).1, rfl⟩
        · obtain rfl := List.mem_singleton.1 hq
          exact absurd rfl hk
  · rcases List.mem_append.1 hq with hq | hq
    · obtain ⟨hq, hne⟩ := mem_without.1 hq
      rw [atKey_put_other (fun e => hne ((kp_same (h.wf q hq) hw).1 e))]
      exact h.vals q hq z
    · obtain rfl := List.mem_singleton.1 hq
      exact atKey_put_same hm (kp_key _) _ _
  · rcases List.mem_append.1 hq with hq | hq
    · exact h.wf q (mem_without.1 hq).1
    · obtain rfl := List.mem_singleton.1 hq
      exact hw
  · refine List.pairwise_append.2 ⟨h.one.filter _, List.pairwise_singleton _ _, fun a ha b hb => ?_⟩
    obtain rfl := List.mem_singleton.1 hb
    exact (mem_without.1 ha).2
theorem Tie.del {D : DataW Unit} {qs : List Pn} (h : Tie D qs) {p : Pn} (hw : wfPl (plc p)) : Tie (D.del (kp (plc p))) (without qs p) := by
  refine ⟨fun k => ?_, fun q hq z => ?_, fun q hq => h.wf q (mem_without.1 hq).1, h.one.filter _⟩
  · by_cases hk : k = kp (plc p)
    · subst hk
      rw [has_del_same]
      refine ⟨fun h => by simp at h, fun ⟨q, hq, e⟩ => ?_⟩
      obtain ⟨hq, hne⟩ := mem_without.1 hq
      exact absurd ((kp_same (h.wf q hq) hw).1 e) hne
    · rw [has_del_other hk, h.keys]
      constructor
      · rintro ⟨q, hq, rfl⟩
        exact ⟨q, mem_without.2 ⟨hq, fun e => hk ((kp_same (h.wf q hq) hw).2 e)⟩, rfl⟩
      · rintro ⟨q, hq, rfl⟩
        exact ⟨q, (mem_without.1 hq).1, rfl⟩
  · obtain ⟨hq, hne⟩ := mem_without.1 hq
    rw [atKey_del_other (fun e => hne ((kp_same (h.wf q hq) hw).1 e))]
    exact h.vals q hq z
/-- what a look-up finds -/
theorem Tie.look {D : DataW Unit} {qs : List Pn} (h : Tie D qs) {p : Pl} (hw : wfPl p) :
    (Maps.has D (kp p) = true ∧ ∃ q ∈ qs, plc q = p ∧ ∀ z, D.atKey (kp p) z = .lit (.int .i64 q.2.2.2)) ∨ (Maps.has D (kp p) = false ∧ ∀ q ∈ qs, plc q ≠ p) := by
  cases hh : Maps.has D (kp p) with
  | true =>
    obtain ⟨q, hq, e⟩ := (h.keys _).1 hh
    have := kp_inj (h.wf q hq) hw e
    subst this
    exact .inl ⟨rfl, q, hq, rfl, h.vals q hq⟩
  | false =>
    refine .inr ⟨rfl, fun q hq e => ?_⟩
    have := (h.keys (kp p)).2 ⟨q, hq, by rw [e]⟩
    rw [hh] at this
    cases this
/-- how many entries there are -/
theorem Tie.size {D : DataW Unit} {qs : List Pn} (h : Tie D qs) (ht : Tidy D) (hk : ∀ es, D = .map es → ∀ p ∈ es, WideAt.IsKeyLit p.1) : Maps.size D = qs.length := by
  obtain ⟨es, rfl, hp⟩ := ht
  have hk := hk es rfl
  rw [size_eq]
  have n1 : (es.map Prod.fst).Nodup := List.pairwise_map.2 hp
  have n2 : (qs.map fun q => kp (plc q)).Nodup := List.pairwise_map.2 (h.one.imp_of_mem fun ha hb hne e => hne ((kp_same (h.wf _ ha) (h.wf _ hb)).1 e))
  have hm : ∀ k, k ∈ es.map Prod.fst ↔ k ∈ qs.map fun q => kp (plc q) := fun k => by
    have := h.keys k
    rw [has_eq, List.any_eq_true] at this
    constructor
    · intro hx
      obtain ⟨p, hp, rfl⟩ := List.mem_map.1 hx
      obtain ⟨q, hq, e⟩ := this.1 ⟨p, hp, WideAt.sameKey_self (hk p hp)⟩
      exact List.mem_map.2 ⟨q, hq, e⟩
    · intro hx
      obtain ⟨q, hq, rfl⟩ := List.mem_map.1 hx
      obtain ⟨p, hp, e⟩ := this.2 ⟨q, hq, rfl⟩
      exact List.mem_map.2 ⟨p, hp, WideAt.sameKey_eq e⟩
  have := ((List.perm_ext_iff_of_nodup n1 n2).2 hm).length_eq
  simpa using this
end Go.Proofs.Ytipcjofmplpffaa
