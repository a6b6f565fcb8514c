/-
  slices.SortFunc on rows of structs, in the words of the rows that a call owns.
-/
import Derived.Test.YtipcjofmplpffaaBase
import Derived.Shelf.SlSortCmp.NoneTotal
namespace Go.Proofs.Ytipcjofmplpffaa
open Go.RowKit Go.Lib Go.Sort

theorem flatM_get {α : Type} [Inhabited α] {enc : α → List Value} {k : Nat} (hk : ∀ x, (enc x).length = k) : ∀ (ts : List α) (t : Nat), t < ts.length * k → (ts.flatMap enc)[t]? = (enc ts[t / k]!)[t % k]?
  | [], t, h => by simp at h
  | x :: ts, t, h => by
    have k0 : 0 < k := by
      rcases Nat.eq_zero_or_pos k with h0 | h0
      · subst h0; simp at h
      · exact h0
    rw [List.flatMap_cons]
    by_cases ht : t < k
    · rw [List.getElem?_append_left (by rw [hk]; exact ht), Nat.div_eq_of_lt ht, Nat.mod_eq_of_lt ht]
      rfl
    · rw [List.getElem?_append_right (by rw [hk]; omega), hk, flatM_get hk ts (t - k) (by simp [Nat.add_mul] at h; omega)]
      have e : t = (t - k) + k := by omega
      have e1 : t / k = (t - k) / k + 1 := by rw [e, Nat.add_div_right _ k0]; simp
      have e2 : t % k = (t - k) % k := by rw [e, Nat.add_mod_right]; simp
      rw [e1, e2]
      simp
theorem flatM_length {α : Type} {enc : α → List Value} {k : Nat} (hk : ∀ x, (enc x).length = k) (ts : List α) : (ts.flatMap enc).length = ts.length * k := by
  induction ts with
  | nil => simp
  | cons x ts ih => rw [List.flatMap_cons, List.length_append, hk, ih, List.length_cons, Nat.add_mul]; omega
theorem flatK_list {α : Type} [Inhabited α] {enc : α → List Value} {k : Nat} (hk : ∀ x, (enc x).length = k) (ts : List α) : flatK enc k ts.toArray = (ts.flatMap enc).toArray := by
  refine ext_get! (by simp [flatM_length hk]) fun t ht => ?_
  have ht' : t < ts.length * k := by simpa using ht
  have k0 : 0 < k := by
    rcases Nat.eq_zero_or_pos k with h0 | h0
    · subst h0; simp at ht'
    · exact h0
  rw [get_flatK enc k ts.toArray t (by simpa using ht')]
  have h := flatM_get hk ts t ht'
  have hl : t % k < (enc ts[t / k]!).length := by rw [hk]; exact Nat.mod_lt _ k0
  have hf : t < (ts.flatMap enc).length := by rw [flatM_length hk]; exact ht'
  rw [List.getElem?_eq_getElem hf, List.getElem?_eq_getElem hl, Option.some.injEq] at h
  rw [getElem!_pos _ t (by simpa using hf)]
  simp only [List.getElem_toArray, h]
  rw [show ts.toArray[t / k]! = ts[t / k]! by simp]
  rw [getElem!_pos _ (t % k) hl]

theorem holdsK_block {α : Type} [Inhabited α] {enc : α → List Value} {k : Nat} (hk : ∀ x, (enc x).length = k) {w : World} {g : Nat} {cur : Array Value} {e : TypeId} {ss : List α} (hb : w.heap[g]? = some (.cells cur e (0, 0)))
    (ht : cur.toList.take (ss.length * k) = ss.flatMap enc) : HoldsK enc k w g 0 ss.toArray := by
  unfold HoldsK
  rw [flatK_list hk]
  intro j hj
  have hj' : j < (ss.flatMap enc).length := by simpa using hj
  refine ⟨?_, by simp [World.frozen?, hb]⟩
  have h1 : (cur.toList.take (ss.length * k))[j]? = (ss.flatMap enc)[j]? := by rw [ht]
  rw [List.getElem?_take_of_lt (by rw [← flatM_length hk]; exact hj'), List.getElem?_eq_getElem hj'] at h1
  simp only [World.cell?, hb, Nat.zero_add]
  rw [← Array.getElem?_toList, h1, getElem!_pos _ j (by simpa using hj')]
  simp
theorem heap_sortK {α : Type} [Inhabited α] {enc : α → List Value} {k : Nat} {w : World} {g n : Nat} {os : Array Obj} {cur : Array Value} {e : TypeId} {fr : Nat × Nat} (d : Array α) (hb : w.heap[g]? = some (.cells cur e fr)) :
    (sortWorldK enc k w g 0 n d os).heap[g]? = some (.cells (putCells id 0 (flatK enc k d) cur) e fr) := by
  have hg : g < w.heap.size := (Array.getElem?_eq_some_iff.1 hb).1
  unfold sortWorldK putRowK
  rw [heap_grow_old _ _ (by simpa using hg)]
  simp [putRow, mapBlock, Sort.ahead, Array.getElem?_modify, hb, onCells]
theorem grownBy_sortK {α : Type} [Inhabited α] {enc : α → List Value} {k : Nat} {w : World} {g n : Nat} {os : Array Obj} (d : Array α) : w.grownBy (sortWorldK enc k w g 0 n d os) (some g) := by
  unfold sortWorldK putRowK
  refine ⟨rfl, rfl, rfl, by simp, fun j hj hne => ?_⟩
  rw [heap_grow_old _ _ (by simpa using hj)]
  have : g ≠ j := fun e => hne (by rw [e])
  simp [putRow, mapBlock, Sort.ahead, Array.getElem?_modify, this]
theorem take_putFlat (cur : Array Value) (ts : List Value) (h : ts.length ≤ cur.size) : (putCells id 0 ts.toArray cur).toList.take ts.length = ts := by
  apply List.ext_getElem?
  intro j
  by_cases hj : j < ts.length
  · rw [List.getElem?_take_of_lt hj, Array.getElem?_toList]
    simp [putCells, hj, show j < cur.size by omega]
  · rw [List.getElem?_take_eq_none (by omega), List.getElem?_eq_none (by omega)]
theorem ownsRow_sortK {α : Type} [Inhabited α] {enc : α → List Value} {k : Nat} (hk : ∀ x, (enc x).length = k) {w : World} {base g cap n : Nat} {e : TypeId} {os : Array Obj} {cur : Array Value} {ss ts : List α} (hl : ts.length = ss.length) (hbase : base ≤ g)
    (hb : w.heap[g]? = some (.cells cur e (0, 0))) (h1 : ss.length ≤ cap) (h2 : cap ≤ maxLen) (h3 : cur.size = cap * k) :
    (sortWorldK enc k w g 0 n ts.toArray os).ownsRow base e k (.slice (some ⟨g, 0, none⟩) ss.length cap) ss.length (ts.flatMap enc) := by
  refine ⟨by rw [flatM_length hk, hl], .inr ⟨g, cap, _, rfl, hbase, heap_sortK _ hb, h1, h2, by simp [putCells, h3], ?_⟩⟩
  rw [flatK_list hk, ← hl, ← flatM_length hk]
  refine take_putFlat cur _ ?_
  rw [flatM_length hk, hl, h3]
  exact Nat.mul_le_mul_right k h1
theorem perm_of_permIn {α : Type} [Inhabited α] {d d' : Array α} (h : PermIn 0 d.size d d') : d'.toList.Perm d.toList := by
  obtain ⟨h1, _, h2⟩ := h
  rw [Array.toList_extract, Array.toList_extract] at h2
  simp only [List.extract_eq_take_drop, List.drop_zero, Nat.sub_zero] at h2
  rw [List.take_of_length_le (by simp [h1]), List.take_of_length_le (by simp)] at h2
  exact h2
theorem sorted_of {α : Type} [Inhabited α] {lt : α → α → Bool} {n : Nat} {d : Array α} (hn : d.size = n) (h : SortedIn lt 0 n d) : d.toList.Pairwise fun a b => lt b a = false := by
  rw [List.pairwise_iff_getElem]
  intro i j hi hj hij
  have := h i j (Nat.zero_le _) hij (by rw [← hn]; simpa using hj)
  rw [getElem!_pos d i (by simpa using hi), getElem!_pos d j (by simpa using hj)] at this
  simpa using this
end Go.Proofs.Ytipcjofmplpffaa
