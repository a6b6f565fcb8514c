/-
  A region in whatever order, by an invariant: what the slots hold of the operations that were listed, and what the world holds.
-/
import Derived.Test.YtdphbfapccnhlaaPairs
import Derived.Test.YtdphbfapccnhlaaOnly
namespace Go.Proofs.Ytdphbfapccnhlaa
open Go.RowKit

/-- L, and i too -/
def upd (L : Nat → Bool) (i : Nat) : Nat → Bool := fun j => if j = i then true else L j
theorem upd_at (L : Nat → Bool) (i : Nat) : upd L i i = true := by simp [upd]
theorem upd_ne {L : Nat → Bool} {i j : Nat} (h : j ≠ i) : upd L i j = L j := by simp [upd, h]
/-- how many of the first n are listed -/
def cnt (n : Nat) (L : Nat → Bool) : Nat := ((List.range n).filter L).length
theorem filter_more {l : List Nat} {L : Nat → Bool} {i : Nat} (hn : l.Nodup) (hi : i ∈ l) (hL : L i = false) : (l.filter (upd L i)).length = (l.filter L).length + 1 := by
  induction l with
  | nil => cases hi
  | cons x l ih =>
    rw [List.nodup_cons] at hn
    by_cases e : x = i
    · subst e
      have : l.filter (upd L x) = l.filter L := List.filter_congr fun y hy => upd_ne (by rintro rfl; exact hn.1 hy)
      simp [upd_at, hL, this]
    · have hi' : i ∈ l := by rcases List.mem_cons.1 hi with h | h; exact absurd h.symm e; exact h
      have := ih hn.2 hi'
      rw [List.filter_cons, List.filter_cons, upd_ne e]
      split <;> simp [this]
theorem cnt_upd {n i : Nat} {L : Nat → Bool} (hi : i < n) (hL : L i = false) : cnt n (upd L i) = cnt n L + 1 := filter_more List.nodup_range (List.mem_range.2 hi) hL
theorem cnt_le (n : Nat) (L : Nat → Bool) : cnt n L ≤ n := by
  have := List.length_filter_le L (List.range n)
  simpa [cnt] using this
theorem cnt_lt {n i : Nat} {L : Nat → Bool} (hi : i < n) (hL : L i = false) : cnt n L + 1 ≤ n := by
  rw [← cnt_upd hi hL]; exact cnt_le _ _

/-- each operation waits for earlier ones alone -/
def earlierB (ops : Array Oper) : Bool := (List.range ops.size).all fun i => ((ops[i]?).map fun o => o.after.all fun e => !Region.binds .any e || decide (e.on < i)).getD true
theorem earlierB_spec {ops : Array Oper} (h : earlierB ops = true) {i : Nat} {o : Oper} (hi : ops[i]? = some o) {e} (he : e ∈ o.after) (hb : Region.binds .any e = true) : e.on < i := by
  have hlt : i < ops.size := (Array.getElem?_eq_some_iff.1 hi).1
  have := List.all_eq_true.1 h i (List.mem_range.2 hlt)
  rw [hi] at this
  simp only [Option.map_some, Option.getD_some, Array.all_eq_true_iff_forall_mem, Bool.or_eq_true, Bool.not_eq_true', decide_eq_true_eq] at this
  rcases this e he with h' | h'
  · rw [hb] at h'; cases h'
  · exact h'

section
variable {P : Program} {ops : Array Oper} {Q : Exit → Act → World → Prop}
theorem wpOp_value {i : Nat} {o : Oper} {K : Act → World → Prop} {a : Act} {w w' : World} {v : Value} (hi : ops[i]? = some o) (hg : o.guard = none) (hr : (execOp a.eval o).run P w = .ok (.value v) w') (hK : K (a.put o.dst v) w') : wpOp P ops Q i K a w := by
  unfold wpOp
  have hw : Region.wanted o (yielded ops a.tmps) = true := by simp [Region.wanted, hg]
  simp only [hi, hw, if_true]
  left
  unfold Oper.wp
  rw [hr]
  exact hK
theorem wpOp_skip {i : Nat} {o : Oper} {K : Act → World → Prop} {a : Act} {w w' : World} (hi : ops[i]? = some o) (hg : o.guard = none) (hr : (execOp a.eval o).run P w = .ok .skip w') (hK : K (a.put o.dst undef) w') : wpOp P ops Q i K a w := by
  unfold wpOp
  have hw : Region.wanted o (yielded ops a.tmps) = true := by simp [Region.wanted, hg]
  simp only [hi, hw, if_true]
  left
  unfold Oper.wp
  rw [hr]
  exact hK
theorem wpOp_enter {i : Nat} {o : Oper} {K : Act → World → Prop} {a : Act} {w w' : World} {f : FuncId} {args : Array Value} (hi : ops[i]? = some o) (hg : o.guard = none) (hr : (execOp a.eval o).run P w = .ok (.enter f args) w')
    (hc : Calls P f args w' fun e w'' => ∃ v, e = .returned v ∧ K (a.put o.dst v) w'') : wpOp P ops Q i K a w := by
  unfold wpOp
  have hw : Region.wanted o (yielded ops a.tmps) = true := by simp [Region.wanted, hg]
  simp only [hi, hw, if_true]
  left
  unfold Oper.wp
  rw [hr]
  refine hc.mono ?_
  rintro e w'' ⟨v, rfl, hK⟩
  exact hK

theorem wpAny_inv (Inv : (Nat → Bool) → Act → World → Prop) (he : earlierB ops = true)
    (hstep : ∀ (L : Nat → Bool) (i : Nat) (o : Oper) (a : Act) (w : World), ops[i]? = some o → L i = false → (∀ e ∈ o.after, Region.binds .any e = true → L e.on = true) → Inv L a w → wpOp P ops Q i (Inv (upd L i)) a w)
    (hend : ∀ (L : Nat → Bool) (a : Act) (w : World), (∀ i, i < ops.size → L i = true) → Inv L a w → Q .normal a w) :
    ∀ (fuel : Nat) (listed : Array Bool) (a : Act) (w : World), listed.size = ops.size → ops.size ≤ fuel + cnt ops.size (fun j => listed.getD j false) → Inv (fun j => listed.getD j false) a w → wpAny P .any ops Q fuel listed a w := by
  have none_all : ∀ (listed : Array Bool), listed.size = ops.size → Region.ready .any ops listed = [] → ∀ i, i < ops.size → listed.getD i false = true := by
    intro listed hs hr i
    induction i using Nat.strongRecOn with
    | _ i ih =>
      intro hi
      cases hb : listed.getD i false with
      | true => rfl
      | false =>
        exfalso
        have ho : ops[i]? = some ops[i] := Array.getElem?_eq_getElem hi
        have : i ∈ Region.ready .any ops listed := by
          rw [mem_ready]
          refine ⟨?_, ops[i], ho, fun e hem hbe => ih e.on (earlierB_spec he ho hem hbe) (Nat.lt_trans (earlierB_spec he ho hem hbe) hi)⟩
          rw [Array.getD_eq_getD_getElem?] at hb ⊢
          rw [Array.getElem?_eq_getElem (by omega)] at hb ⊢
          exact hb
        rw [hr] at this
        cases this
  intro fuel
  induction fuel with
  | zero =>
    intro listed a w hs hf hI
    have hall : ∀ i, i < ops.size → listed.getD i false = true := by
      intro i hi
      cases hb : listed.getD i false with
      | true => rfl
      | false => have := cnt_lt (L := fun j => listed.getD j false) hi hb; omega
    refine ⟨?_, hend _ _ _ hall hI⟩
    cases hr : Region.ready .any ops listed with
    | nil => rfl
    | cons i l =>
      exfalso
      have hm : i ∈ Region.ready .any ops listed := by rw [hr]; exact List.mem_cons_self ..
      obtain ⟨h1, o, ho, _⟩ := mem_ready.1 hm
      have hi : i < ops.size := (Array.getElem?_eq_some_iff.1 ho).1
      have h2 := hall i hi
      rw [Array.getD_eq_getD_getElem?, Array.getElem?_eq_getElem (by omega)] at h1 h2
      simp only [Option.getD_some] at h1 h2
      rw [h1] at h2
      cases h2
  | succ fuel ih =>
    intro listed a w hs hf hI
    refine ⟨fun hr => hend _ _ _ (none_all listed hs hr) hI, fun i hm => ?_⟩
    obtain ⟨h1, o, ho, hall⟩ := mem_ready.1 hm
    have hi : i < ops.size := (Array.getElem?_eq_some_iff.1 ho).1
    have h1' : listed.getD i false = false := by
      rw [Array.getD_eq_getD_getElem?, Array.getElem?_eq_getElem (by omega)] at h1 ⊢
      exact h1
    have hfun : (fun j => (listed.setIfInBounds i true).getD j false) = upd (fun j => listed.getD j false) i := by
      funext j
      by_cases e : j = i
      · subst e
        rw [upd_at, Array.getD_eq_getD_getElem?, Array.getElem?_setIfInBounds_self_of_lt (by omega)]
        rfl
      · rw [upd_ne e, Array.getD_eq_getD_getElem?, Array.getElem?_setIfInBounds_ne (fun h => e h.symm), ← Array.getD_eq_getD_getElem?]
    refine wpOp_mono (fun a' w' hI' => ih _ a' w' (by simpa using hs) ?_ ?_) (hstep _ i o a w ho h1' hall hI)
    · rw [hfun, cnt_upd hi h1']; omega
    · rw [hfun]; exact hI'

theorem wp_region_inv {id : Nat} {a : Act} {w : World} (Inv : (Nat → Bool) → Act → World → Prop) (hm : P.follows .mixedOrders = true) (he : earlierB ops = true) (h0 : Inv (fun _ => false) a w.drew)
    (hstep : ∀ (L : Nat → Bool) (i : Nat) (o : Oper) (a : Act) (w : World), ops[i]? = some o → L i = false → (∀ e ∈ o.after, Region.binds .any e = true → L e.on = true) → Inv L a w → wpOp P ops Q i (Inv (upd L i)) a w)
    (hend : ∀ (L : Nat → Bool) (a : Act) (w : World), (∀ i, i < ops.size → L i = true) → Inv L a w → Q .normal a w) : (Code.region id ops true).wp P Q a w := by
  refine wp_region_any hm (wpAny_inv Inv he hstep hend ops.size _ a _ (by simp) (by omega) ?_)
  have : (fun j => (Array.replicate ops.size false).getD j false) = fun _ => false := by
    funext j
    rw [Array.getD_eq_getD_getElem?]
    by_cases h : j < ops.size
    · simp [h]
    · rw [Array.getElem?_eq_none (by simp; omega)]; rfl
  rw [this]
  exact h0
end

/-! ### what the slots hold -/

/-- Blocks other than g and r are as they were. -/
structure Ext (g r : Nat) (w w' : World) : Prop where
  size : w.heap.size ≤ w'.heap.size
  block : ∀ k, k < w.heap.size → k ≠ g → k ≠ r → w'.heap[k]? = w.heap[k]?
theorem Ext.refl (g r : Nat) (w : World) : Ext g r w w := ⟨Nat.le_refl _, fun _ _ _ _ => rfl⟩
theorem Ext.of {g r : Nat} {w w' : World} (h : w.grownBy w' (some g)) : Ext g r w w' := ⟨h.size, fun k hk hg _ => h.block k hk (by simpa using hg)⟩
theorem Ext.below {g r : Nat} {w w' : World} (h : Below w.heap.size w w') : Ext g r w w' := ⟨h.size, fun k hk _ _ => h.block k hk⟩
theorem Ext.set {g r j : Nat} {w : World} (u : Value) : Ext g r w (w.setCell ⟨r, j, none⟩ u) := ⟨by simp, fun k _ _ hr => Below.heap_setCell w ⟨r, j, none⟩ u k (by show k ≠ r; exact hr)⟩

inductive Kd where
  | is (v : Value)
  | nat (N : Nat)
  | int
  | lit (n : Nat)
  | cell
  | row (b s N : Nat)
def Kd.ok (lo : Nat) : Kd → World → Value → Prop
  | .is v, _, u => u = v
  | .nat N, _, u => ∃ r : Nat, r < N ∧ u = .int .i64 r
  | .int, _, u => ∃ z : Int, u = .int .i64 z
  | .lit n, w, u => ∃ h zs, u = .slice (some ⟨h, 0, none⟩) n n ∧ lo ≤ h ∧ zs.length = n ∧ Own w h 3 (iz zs)
  | .cell, w, u => ∃ h j zs, u = .pointer (some ⟨h, j, none⟩) ∧ lo ≤ h ∧ j < zs.length ∧ Own w h 3 (iz zs)
  | .row b s N, _, u => ∃ r : Nat, r < N ∧ u = .pointer (some ⟨b, r * s, none⟩)
theorem Kd.ok.mono {lo g r : Nat} {k : Kd} {w w' : World} {u : Value} (h : k.ok lo w u) (hE : Ext g r w w') (hg : g < lo) (hr : r < lo) : k.ok lo w' u := by
  cases k with
  | is v => exact h
  | nat N => exact h
  | int => exact h
  | lit n =>
    obtain ⟨h, zs, e, hl, hz, ho⟩ := h
    exact ⟨h, zs, e, hl, hz, (hE.block h ho.lt (by omega) (by omega)).trans ho⟩
  | cell =>
    obtain ⟨h, j, zs, e, hl, hz, ho⟩ := h
    exact ⟨h, j, zs, e, hl, hz, (hE.block h ho.lt (by omega) (by omega)).trans ho⟩
  | row b s N => exact h

/-- each operation writes a slot of its own, none of the kept ones -/
def slotsB (ops : Array Oper) (keep : List Nat) (N : Nat) : Bool :=
  (List.range ops.size).all fun i => match (ops[i]?).bind (·.dst) with
    | none => true
    | some d => decide (d < N) && !keep.contains d && (List.range ops.size).all fun j => decide (j = i) || ((ops[j]?).bind (·.dst) != some d)
theorem slotsB_spec {ops : Array Oper} {keep : List Nat} {N : Nat} (h : slotsB ops keep N = true) {i : Nat} {o : Oper} {d : Nat} (hi : ops[i]? = some o) (hd : o.dst = some d) :
    d < N ∧ d ∉ keep ∧ ∀ j o', ops[j]? = some o' → j ≠ i → o'.dst ≠ some d := by
  have hlt : i < ops.size := (Array.getElem?_eq_some_iff.1 hi).1
  have h1 := List.all_eq_true.1 h i (List.mem_range.2 hlt)
  simp only [hi, Option.bind_some, hd, Bool.and_eq_true, decide_eq_true_eq, Bool.not_eq_true', List.all_eq_true, List.mem_range, Bool.or_eq_true] at h1
  refine ⟨h1.1.1, by simpa using h1.1.2, fun j o' hj hne hd' => ?_⟩
  have hjl : j < ops.size := (Array.getElem?_eq_some_iff.1 hj).1
  rcases h1.2 j hjl with e | e
  · exact hne e
  · simp [hj, hd'] at e

structure RInv (ops : Array Oper) (kinds : List Kd) (keep : List (Nat × Value)) (N lo : Nat) (ds : List Deferred) (MEM : (Nat → Bool) → World → Prop) (L : Nat → Bool) (a : Act) (w : World) : Prop where
  size : a.tmps.size = N
  defers : a.defers = ds
  kept : ∀ p ∈ keep, a.tmps[p.1]? = some p.2
  vals : ∀ i o d k, ops[i]? = some o → o.dst = some d → L i = true → kinds[i]? = some k → ∃ v, a.tmps[d]? = some v ∧ k.ok lo w v
  mem : MEM L w
section
variable {ops : Array Oper} {kinds : List Kd} {keep : List (Nat × Value)} {N lo g r : Nat} {ds : List Deferred} {MEM : (Nat → Bool) → World → Prop} {L : Nat → Bool} {a : Act} {w w' : World}
theorem RInv.value (h : RInv ops kinds keep N lo ds MEM L a w) {i : Nat} {o : Oper} {d : Nat} {k : Kd} {v : Value} (hi : ops[i]? = some o) (hd : o.dst = some d) (hk : kinds[i]? = some k) (hb : slotsB ops (keep.map (·.1)) N = true)
    (hv : k.ok lo w' v) (hE : Ext g r w w') (hg : g < lo) (hr : r < lo) (hM : MEM (upd L i) w') : RInv ops kinds keep N lo ds MEM (upd L i) (a.put o.dst v) w' := by
  obtain ⟨hdN, hdk, hdo⟩ := slotsB_spec hb hi hd
  rw [hd]
  refine ⟨?_, h.defers, fun p hp => ?_, fun j o' d' k' hj hd' hL hk' => ?_, hM⟩
  · simp [Act.put, h.size]
  · have hne : d ≠ p.1 := fun e => hdk (by rw [e]; exact List.mem_map_of_mem hp)
    simp only [Act.put]
    rw [Array.getElem?_setIfInBounds_ne hne]
    exact h.kept p hp
  · by_cases e : j = i
    · subst e
      obtain rfl : o = o' := by rw [hi] at hj; injection hj
      obtain rfl : d = d' := by rw [hd] at hd'; injection hd'
      obtain rfl : k = k' := by rw [hk] at hk'; injection hk'
      refine ⟨v, ?_, hv⟩
      simp only [Act.put]
      rw [Array.getElem?_setIfInBounds_self_of_lt (by rw [h.size]; exact hdN)]
    · rw [upd_ne e] at hL
      obtain ⟨u, hu, hok⟩ := h.vals j o' d' k' hj hd' hL hk'
      refine ⟨u, ?_, hok.mono hE hg hr⟩
      have hne : d ≠ d' := fun e' => hdo j o' hj e (by rw [hd', e'])
      simp only [Act.put]
      rw [Array.getElem?_setIfInBounds_ne hne]
      exact hu
theorem RInv.none (h : RInv ops kinds keep N lo ds MEM L a w) {i : Nat} {o : Oper} (hi : ops[i]? = some o) (hd : o.dst = none) (hE : Ext g r w w') (hg : g < lo) (hr : r < lo) (hM : MEM (upd L i) w') (v : Value) : RInv ops kinds keep N lo ds MEM (upd L i) (a.put o.dst v) w' := by
  rw [hd]
  refine ⟨h.size, h.defers, h.kept, fun j o' d' k' hj hd' hL hk' => ?_, hM⟩
  by_cases e : j = i
  · subst e
    obtain rfl : o = o' := by rw [hi] at hj; injection hj
    rw [hd] at hd'; cases hd'
  · rw [upd_ne e] at hL
    obtain ⟨u, hu, hok⟩ := h.vals j o' d' k' hj hd' hL hk'
    exact ⟨u, hu, hok.mono hE hg hr⟩
/-- what slot d holds, once operation j is listed -/
theorem RInv.at (h : RInv ops kinds keep N lo ds MEM L a w) (j : Nat) {o : Oper} {d : Nat} {k : Kd} (hj : ops[j]? = some o) (hd : o.dst = some d) (hk : kinds[j]? = some k) (hL : L j = true) : ∃ v, a.tmps[d]? = some v ∧ k.ok lo w v := h.vals j o d k hj hd hL hk
theorem RInv.held (h : RInv ops kinds keep N lo ds MEM L a w) {s : Nat} {v : Value} (hp : (s, v) ∈ keep) : a.tmps[s]? = some v := h.kept _ hp
theorem eval_of {s : Nat} {v : Value} (h : a.tmps[s]? = some v) : a.eval (.tmp s) = v := by simp [Act.eval, Array.getD_eq_getD_getElem?, h]
end
theorem wp_region_rinv {P : Program} {ops : Array Oper} {Q : Exit → Act → World → Prop} {id : Nat} {a : Act} {w : World} (kinds : List Kd) (keep : List (Nat × Value)) (N lo : Nat) (ds : List Deferred) (MEM : (Nat → Bool) → World → Prop) (hm : P.follows .mixedOrders = true) (he : earlierB ops = true) (hsl : slotsB ops (keep.map (·.1)) N = true)
    (h0 : RInv ops kinds keep N lo ds MEM (fun _ => false) a w.drew)
    (hstep : ∀ (L : Nat → Bool) (i : Nat) (o : Oper) (a : Act) (w : World), ops[i]? = some o → L i = false → (∀ e ∈ o.after, Region.binds .any e = true → L e.on = true) → slotsB ops (keep.map (·.1)) N = true → RInv ops kinds keep N lo ds MEM L a w → wpOp P ops Q i (RInv ops kinds keep N lo ds MEM (upd L i)) a w)
    (hend : ∀ (L : Nat → Bool) (a : Act) (w : World), (∀ i, i < ops.size → L i = true) → RInv ops kinds keep N lo ds MEM L a w → Q .normal a w) : (Code.region id ops true).wp P Q a w :=
  wp_region_inv _ hm he h0 (fun L i o a w h1 h2 h3 h4 => hstep L i o a w h1 h2 h3 hsl h4) hend
/-- a frame, slot by slot -/
theorem act_list {a : Act} {N : Nat} {ds : List Deferred} (hs : a.tmps.size = N) (hd : a.defers = ds) : a = ⟨((List.range N).map fun i => a.eval (.tmp i)).toArray, ds⟩ := by
  obtain ⟨t, d⟩ := a
  simp only at hs hd
  subst hd
  congr 1
  apply Array.ext
  · simp [hs]
  · intro i h1 h2
    simp [Act.eval, h1]
theorem rinv_start {ops : Array Oper} {kinds : List Kd} {keep : List (Nat × Value)} {N lo : Nat} {ds : List Deferred} {MEM : (Nat → Bool) → World → Prop} {a : Act} {w : World} (hs : a.tmps.size = N) (hd : a.defers = ds) (hk : ∀ p ∈ keep, a.tmps[p.1]? = some p.2) (hM : MEM (fun _ => false) w) : RInv ops kinds keep N lo ds MEM (fun _ => false) a w :=
  ⟨hs, hd, hk, (fun _ _ _ _ _ _ h _ => absurd h (by simp)), hM⟩
end Go.Proofs.Ytdphbfapccnhlaa
