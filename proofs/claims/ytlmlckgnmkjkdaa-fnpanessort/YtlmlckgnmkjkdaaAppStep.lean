/-
  append onto a row of the call's own, as a step of a region that draws its order.
-/
import Derived.Test.YtlmlckgnmkjkdaaBase
import Derived.Deep.AppendLies
import Derived.Deep.RegionLaw
namespace Go.Proofs.Ytlmlckgnmkjkdaa
open Go.RowKit

theorem plain_add' (g off k : Nat) : (⟨g, off, none⟩ : Addr).add k = ⟨g, off + k, none⟩ := by
  unfold Addr.add
  split
  · simp_all
  · simp
theorem step_append_own {P : Program} {w : World} {ops : Array Oper} {o : Oper} {a : Act} {K : Act → World → Prop} {Q : Exit → Act → World → Prop} {E : Prop} (hgd : o.guard = none) (s x : Operand) (t : TypeId)
    (ho : o.op = .call { callee := .builtin .append, args := #[s, x], argTypes := #[t, t] })
    (base : Nat) (e : TypeId) (i : TypeInfo) (z : Value) (size bytes : Nat) (ht : P.underlying t = some (.slice e)) (hi : P.info? e = some i) (hz : i.zero = some z)
    (hsize : i.size = size) (hby : i.bytes = bytes) (hzs : z.cells.size = size) (hsz : 0 < size)
    (v : Value) (n : Nat) (xs : List Value) (hs : a.eval s = v) (hown : w.ownsRow base e size v n xs)
    (ad : Addr) (m c : Nat) (news : List Value) (hx : a.eval x = .slice (some ad) m c) (hl : news.length = m * size) (hnews : ∀ j u, news[j]? = some u → w.cell? (ad.add j) = some u) (h1 : ∀ u ∈ news, u.oneCell' = true)
    (h63 : n + m ≤ maxLen) (hbytes : (n + m) * bytes ≤ 140737488355328) (hbase : base ≤ w.heap.size)
    (h : ∀ v' w', w'.ownsRow base e size v' (n + m) (xs ++ news) → w.grownBy w' v.ownBlock → (v' = .slice none 0 0 ↔ v = .slice none 0 0 ∧ m = 0) → K (a.put o.dst v') w') :
    if Region.wanted o (yielded ops a.tmps) = true then Oper.wp P o a w K Q else E := by
  have hw : Region.wanted o (yielded ops a.tmps) = true := by simp [Region.wanted, hgd]
  rw [if_pos hw]
  obtain ⟨v', w', hr, h2, h3, h4⟩ := run_append_own (P := P) w base t o.type e i z size bytes ht hi hz hsize hby hzs hsz v n xs hown ad m c news hl hnews h1 h63 hbytes hbase
  unfold Oper.wp execOp
  simp only [ho, resolve, invoke, builtin, Sem.run_bind, Sem.run_pure, Result.andThen_ok, List.map_toArray, List.map_cons, List.map_nil, hs, hx, hr]
  exact h v' w' h2 h3 h4

/-- what was there when the region began stands -/
theorem app_below {v0 w w' : World} {e : TypeId} {size n : Nat} {v : Value} {xs : List Value} (hb : Below v0.heap.size v0 w) (hown : w.ownsRow v0.heap.size e size v n xs) (hg : w.grownBy w' v.ownBlock) : Below v0.heap.size v0 w' :=
  hb.grown hg hb.size (fun j hj => (hown.lt j hj).1)

theorem new_second (v0 : World) (o : Obj) (e : TypeId) (cs : List Value) : Own ((v0.alloc o).alloc (.cells cs.toArray e)) (v0.heap.size + 1) e cs := by
  have h := Own.new (v0.alloc o) e cs
  rwa [show (v0.alloc o).heap.size = v0.heap.size + 1 by simp] at h
/-- an empty row that was made -/
theorem owns_empty {w : World} {base g size : Nat} {e : TypeId} (h : Own w g e []) (hb : base ≤ g) : w.ownsRow base e size (.slice (some ⟨g, 0, none⟩) 0 0) 0 [] :=
  ⟨by simp, .inr ⟨g, 0, #[], rfl, hb, h, Nat.le_refl _, Nat.zero_le _, by simp, by simp⟩⟩
/-- the cells of a block that is known whole, in a world in which only another block has turned -/
theorem news_kept {w w' : World} {g : Nat} {e : TypeId} {cs : List Value} {row : Option Nat} (h : Own w g e cs) (hg : w.grownBy w' row) (hne : some g ≠ row) : ∀ j u, cs[j]? = some u → w'.cell? ((⟨g, 0, none⟩ : Addr).add j) = some u := by
  intro j u hj
  have ho : Own w' g e cs := (hg.block g h.lt hne).trans h
  rw [add_plain, ho.cell]
  exact hj
theorem news_own {w : World} {g : Nat} {e : TypeId} {cs : List Value} (h : Own w g e cs) : ∀ j u, cs[j]? = some u → w.cell? ((⟨g, 0, none⟩ : Addr).add j) = some u := by
  intro j u hj
  rw [add_plain, h.cell]
  exact hj
theorem iz_one (zs : List Int) : ∀ u ∈ iz zs, u.oneCell' = true := by
  intro u hu
  simp only [iz, List.mem_map] at hu
  obtain ⟨z, _, rfl⟩ := hu
  rfl
/-- the first and the last elements of a row of structs of M integers -/
theorem rd_head {w : World} {A : Addr} {zs : List Int} (h : Rd w (some A) (iz zs)) (k : Nat) : ∀ j u, (iz (zs.take k))[j]? = some u → w.cell? (A.add j) = some u := by
  intro j u hj
  have hjl : j < (iz (zs.take k)).length := (List.getElem?_eq_some_iff.1 hj).1
  have : (iz zs)[j]? = some u := by
    simp only [iz, List.length_map, List.length_take] at hjl
    rw [← hj]
    simp only [iz, List.getElem?_map]
    rw [List.getElem?_take_of_lt (by omega)]
  obtain ⟨ad, e, _, hc⟩ := h j u this
  cases e
  exact hc
theorem rd_tail {w : World} {g off : Nat} {zs : List Int} (h : Rd w (some ⟨g, off, none⟩) (iz zs)) (k : Nat) : ∀ j u, (iz (zs.drop k))[j]? = some u → w.cell? ((⟨g, off + k, none⟩ : Addr).add j) = some u := by
  intro j u hj
  have : (iz zs)[k + j]? = some u := by
    rw [← hj]
    simp only [iz, List.getElem?_map, List.getElem?_drop]
  obtain ⟨ad, e, _, hc⟩ := h (k + j) u this
  cases e
  rw [plain_add'] at hc ⊢
  rw [Nat.add_assoc]
  exact hc
end Go.Proofs.Ytlmlckgnmkjkdaa
