/-
  append of structs onto a row of the call's own, in plain words: the element's type as one fact, the row's new value already opened.
-/
import Derived.Test.YtlmlckgnmkjkdaaAppRd
import Derived.Maps.AppendAt
namespace Go.Proofs.Ytlmlckgnmkjkdaa
open Go.RowKit

/-- t is a slice type of elements e, of so many cells and bytes -/
structure AppT (P : Program) (t e : TypeId) (z : Value) (size bytes : Nat) : Prop where
  ht : P.underlying t = some (.slice e)
  hi : ∃ i : TypeInfo, P.info? e = some i ∧ i.zero = some z ∧ i.size = size ∧ i.bytes = bytes
  hzs : z.cells.size = size
  hsz : 0 < size
  hb : bytes ≤ 67108864

theorem AppT.bytes {P : Program} {t e : TypeId} {z : Value} {size bytes k : Nat} (T : AppT P t e z size bytes) (h : k ≤ 2097152) : k * bytes ≤ 140737488355328 :=
  Nat.le_trans (Nat.mul_le_mul h T.hb) (by decide)

section
variable {P : Program} {t e : TypeId} {z : Value} {size bytes : Nat} {w : World} {ops : Array Oper} {rest : List Oper} {o : Oper} {a : Act} {Q : Exit → Act → World → Prop}
/-- what lay below the row's base lies as it lay -/
theorem row_below {w w' : World} {base n s : Nat} {e : TypeId} {v : Value} {cs : List Value} (hown : w.ownsRow base e s v n cs) (hg : w.grownBy w' v.ownBlock) (hbase : base ≤ w.heap.size) : Below base w w' :=
  (Below.refl base w).grown hg hbase (fun j hj => (hown.lt j hj).1)

theorem below_trans' {a b c : World} {B : Nat} (h : Below a.heap.size a b) (k : Below B b c) (hB : a.heap.size ≤ B := by omega) : Below a.heap.size a c := h.trans (k.mono hB)

theorem AppT.own (T : AppT P t e z size bytes) (hgd : o.guard = none) (s x : Operand) (ho : o.op = .call { callee := .builtin .append, args := #[s, x], argTypes := #[t, t] })
    (base : Nat) (v : Value) (n : Nat) (xs : List Value) (hs : a.eval s = v) (hown : w.ownsRow base e size v n xs)
    (g m c : Nat) (news : List Value) (hx : a.eval x = .slice (some ⟨g, 0, none⟩) m c) (hnew : Own w g e news) (hl : news.length = m * size) (h1 : ∀ u ∈ news, u.oneCell' = true)
    (hlen : Hid (n + m ≤ 2097152)) (hbase : base ≤ w.heap.size)
    (h : ∀ A' c' w', w'.ownsRow base e size (.slice A' (n + m) c') (n + m) (xs ++ news) → w.grownBy w' v.ownBlock → Below base w w' → wpList P ops Q rest (a.put o.dst (.slice A' (n + m) c')) w') : wpList P ops Q (o :: rest) a w := by
  obtain ⟨i, hi, hz, hsz, hby⟩ := T.hi
  refine wpList_append_own _ hgd s x t ho base e i z size bytes T.ht hi hz hsz hby T.hzs T.hsz v n xs hs hown ⟨g, 0, none⟩ m c news hx hl (news_own hnew) h1 (by have := hlen.out; unfold maxLen; omega) (T.bytes hlen.out) hbase ?_
  intro v' w' h2 h3 _
  obtain ⟨A', c', rfl, _⟩ := owns_rd h2
  exact h A' c' w' h2 h3 (row_below hown h3 hbase)

/-- .. and where the result lies -/
theorem AppT.at (T : AppT P t e z size bytes) (hgd : o.guard = none) (s x : Operand) (ho : o.op = .call { callee := .builtin .append, args := #[s, x], argTypes := #[t, t] })
    (base : Nat) (v : Value) (n : Nat) (xs : List Value) (hs : a.eval s = v) (hown : w.ownsRow base e size v n xs)
    (g m c : Nat) (news : List Value) (hx : a.eval x = .slice (some ⟨g, 0, none⟩) m c) (hnew : Own w g e news) (hl : news.length = m * size) (h1 : ∀ u ∈ news, u.oneCell' = true)
    (hlen : Hid (n + m ≤ 2097152)) (hbase : base ≤ w.heap.size)
    (h : ∀ A' c' w', w'.ownsRow base e size (.slice A' (n + m) c') (n + m) (xs ++ news) → w.grownBy w' v.ownBlock → Below base w w' → ((Value.slice A' (n + m) c').ownBlock = v.ownBlock ∨ (Value.slice A' (n + m) c').ownBlock = some w.heap.size) →
      wpList P ops Q rest (a.put o.dst (.slice A' (n + m) c')) w') : wpList P ops Q (o :: rest) a w := by
  obtain ⟨i, hi, hz, hsz, hby⟩ := T.hi
  refine wpList_append_own_at _ hgd s x t ho base e i z size bytes T.ht hi hz hsz hby T.hzs T.hsz v n xs hs hown ⟨g, 0, none⟩ m c news hx hl (news_own hnew) h1 (by have := hlen.out; unfold maxLen; omega) (T.bytes hlen.out) hbase ?_
  intro v' w' h2 h3 _ h5
  obtain ⟨A', c', rfl, _⟩ := owns_rd h2
  exact h A' c' w' h2 h3 (row_below hown h3 hbase) h5

/-- .. of a slice that reads as a list, nil too -/
theorem AppT.rd (T : AppT P t e z size bytes) (hgd : o.guard = none) (s x : Operand) (ho : o.op = .call { callee := .builtin .append, args := #[s, x], argTypes := #[t, t] })
    (base : Nat) (v : Value) (n : Nat) (xs : List Value) (hs : a.eval s = v) (hown : w.ownsRow base e size v n xs)
    (A : Option Addr) (m c : Nat) (news : List Value) (hx : a.eval x = .slice A m c) (hR : Rd w A news) (hf : SFit A m c) (hl : news.length = m * size) (h1 : ∀ u ∈ news, u.oneCell' = true)
    (hlen : Hid (n + m ≤ 2097152)) (hbase : base ≤ w.heap.size)
    (h : ∀ A' c' w', w'.ownsRow base e size (.slice A' (n + m) c') (n + m) (xs ++ news) → w.grownBy w' v.ownBlock → Below base w w' → wpList P ops Q rest (a.put o.dst (.slice A' (n + m) c')) w') : wpList P ops Q (o :: rest) a w := by
  obtain ⟨i, hi, hz, hsz, hby⟩ := T.hi
  refine wpList_append_rd hgd s x t ho base e i z size bytes T.ht hi hz hsz hby T.hzs T.hsz v n xs hs hown A m c news hx hl hR hf h1 (by have := hlen.out; unfold maxLen; omega) (T.bytes hlen.out) hbase ?_
  intro v' w' h2 h3
  obtain ⟨A', c', rfl, _⟩ := owns_rd h2
  exact h A' c' w' h2 h3 (row_below hown h3 hbase)

/-- .. as a step of a region that draws its order -/
theorem AppT.step {K : Act → World → Prop} {E : Prop} (T : AppT P t e z size bytes) (hgd : o.guard = none) (s x : Operand) (ho : o.op = .call { callee := .builtin .append, args := #[s, x], argTypes := #[t, t] })
    (base : Nat) (v : Value) (n : Nat) (xs : List Value) (hs : a.eval s = v) (hown : w.ownsRow base e size v n xs)
    (A : Option Addr) (m c : Nat) (news : List Value) (hx : a.eval x = .slice A m c) (hR : Rd w A news) (hf : SFit A m c) (hl : news.length = m * size) (h1 : ∀ u ∈ news, u.oneCell' = true)
    (hlen : Hid (n + m ≤ 2097152)) (hbase : base ≤ w.heap.size)
    (h : ∀ A' c' w', w'.ownsRow base e size (.slice A' (n + m) c') (n + m) (xs ++ news) → w.grownBy w' v.ownBlock → Below base w w' → K (a.put o.dst (.slice A' (n + m) c')) w') :
    if Region.wanted o (yielded ops a.tmps) = true then Oper.wp P o a w K Q else E := by
  obtain ⟨i, hi, hz, hsz, hby⟩ := T.hi
  cases A with
  | some ad =>
    refine step_append_own hgd s x t ho base e i z size bytes T.ht hi hz hsz hby T.hzs T.hsz v n xs hs hown ad m c news hx hl (rd_news hR) h1 (by have := hlen.out; unfold maxLen; omega) (T.bytes hlen.out) hbase ?_
    intro v' w' h2 h3 _
    obtain ⟨A', c', rfl, _⟩ := owns_rd h2
    exact h A' c' w' h2 h3 (row_below hown h3 hbase)
  | none =>
    have hc : c = 0 := hf.2 rfl
    have hm : m = 0 := by have := hf.1; omega
    subst hc hm
    have hn : news = [] := by cases news with
      | nil => rfl
      | cons _ _ => simp at hl
    subst hn
    have hw : Region.wanted o (yielded ops a.tmps) = true := by simp [Region.wanted, hgd]
    rw [if_pos hw]
    have hrun := run_append_owned_none (P := P) (w := w) base t o.type e i size T.ht hi v n xs hown
    obtain ⟨A', c', rfl, _⟩ := owns_rd hown
    unfold Oper.wp
    simp only [execOp, ho, resolve, invoke, builtin, Sem.run_bind, Sem.run_pure, Result.andThen_ok, List.map_toArray, List.map_cons, List.map_nil, hs, hx, hrun]
    exact h A' c' w (by simpa using hown) (World.grownBy.refl _ _) (Below.refl _ _)
end
theorem owns_apart {w w' : World} {base n s : Nat} {e : TypeId} {v : Value} {cs : List Value} {r : Option Nat} (h : w.ownsRow base e s v n cs) (hg : w.grownBy w' r) (hne : v.ownBlock ≠ r) : w'.ownsRow base e s v n cs := h.kept hg (.inr hne)
/-- rows apart stay apart when one grows -/
theorem apart_grown {w : World} {base n s k : Nat} {e : TypeId} {v v' u : Value} {cs : List Value} (hap : v.ownBlock ≠ u.ownBlock) (hu : w.ownsRow base e s u n cs) (hat : v'.ownBlock = v.ownBlock ∨ v'.ownBlock = some k) (hk : w.heap.size ≤ k := by simp) : v'.ownBlock ≠ u.ownBlock := by
  rcases hat with h | h
  · rw [h]; exact hap
  · rw [h]; intro h2
    have := (hu.lt _ h2.symm).2
    omega
/-- cells of one row, said otherwise -/
theorem owns_as {w : World} {base n s : Nat} {e : TypeId} {v : Value} {cs ds : List Value} (h : w.ownsRow base e s v n cs) (e1 : cs = ds) : w.ownsRow base e s v n ds := e1 ▸ h
end Go.Proofs.Ytlmlckgnmkjkdaa
