/-
  A region in whatever order that reckons a struct with calls that only read and make memory of their own, makes a new variable for it (whenever), and stores it there at the end: one walk in the order of the text. The variable's block may lie anywhere behind what there was.
-/
import Derived.Test.YtlmlckgnmkjkdaaBase
namespace Go.Proofs.Ytlmlckgnmkjkdaa
open Go.RowKit

section
variable {P : Program} {ops : Array Oper} {md : Region.Mode} {C0 : World → Prop} {C2 : Nat → World → Prop} {n d : Nat} {L : Nat → Array Bool → Act → Prop}

def ptr (b : Nat) : Value := .pointer (some ⟨b, 0, none⟩)

/-- The orders ahead of the making of the variable, f operations of the head being left. -/
def PreTo (P : Program) (md : Region.Mode) (ops : Array Oper) (C0 : World → Prop) (C2 : Nat → World → Prop) (n d : Nat) (L : Nat → Array Bool → Act → Prop) : Nat → Array Bool → Act → Prop
  | 0, listed, a => (∀ i ∈ Region.ready md ops listed, i = n) ∧ ∀ b, (∃ w, C2 b w) → L b (listed.setIfInBounds n true) (a.put (some d) (ptr b))
  | f + 1, listed, a => (∀ i ∈ Region.ready md ops listed, i ≠ n → i < n ∧ qOp P ops C0 i (PreTo P md ops C0 C2 n d L f (listed.setIfInBounds i true)) a) ∧
      ∀ b, (∃ w, C2 b w) → HeadTo P md ops (C2 b) (n + 1) (L b) (f + 1) (listed.setIfInBounds n true) (a.put (some d) (ptr b))

theorem PreTo.box : ∀ {f : Nat} {listed : Array Bool} {a : Act}, PreTo P md ops C0 C2 n d L f listed a → ∀ b, (∃ w, C2 b w) → HeadTo P md ops (C2 b) (n + 1) (L b) f (listed.setIfInBounds n true) (a.put (some d) (ptr b))
  | 0, _, _, h => h.2
  | _ + 1, _, _, h => h.2

theorem PreTo.any {g : Nat} {on : Oper} {Q' : Exit → Act → World → Prop} (hon : ops[n]? = some on) (hd : on.dst = some d) (hwt : ∀ tm, Region.wanted on tm = true)
    (hal : ∀ (a : Act) (w : World), C0 w → ∃ w', (execOp a.eval on).run P w = .ok (.value (ptr w.heap.size)) w' ∧ C2 w.heap.size w')
    (hL : ∀ b listed a w, C2 b w → L b listed a → wpAny P md ops Q' g listed a w) :
    ∀ (f : Nat) (listed : Array Bool) (a : Act) (w : World), C0 w → n ∈ Region.ready md ops listed → PreTo P md ops C0 C2 n d L f listed a → wpAny P md ops Q' (f + 1 + g) listed a w := by
  intro f
  induction f with
  | zero =>
    intro listed a w hw0 hn h
    rw [show 0 + 1 + g = g + 1 by omega]
    refine ⟨(fun h0 => by rw [h0] at hn; cases hn), fun i hi => ?_⟩
    have hin := h.1 i hi
    subst hin
    unfold wpOp
    simp only [hon, hwt, if_true]
    left
    unfold Oper.wp
    obtain ⟨w', e, hc⟩ := hal a w hw0
    rw [e]
    show wpAny P md ops Q' g _ (a.put on.dst _) w'
    rw [hd]
    exact hL _ _ _ _ hc (h.2 _ ⟨_, hc⟩)
  | succ f ih =>
    intro listed a w hw0 hn h
    rw [show f + 1 + 1 + g = (f + 1 + g) + 1 by omega]
    refine ⟨(fun h0 => by rw [h0] at hn; cases hn), fun i hi => ?_⟩
    by_cases hin : i = n
    · subst hin
      unfold wpOp
      simp only [hon, hwt, if_true]
      left
      unfold Oper.wp
      obtain ⟨w', e, hc⟩ := hal a w hw0
      rw [e]
      show wpAny P md ops Q' (f + 1 + g) _ (a.put on.dst _) w'
      rw [hd]
      exact HeadTo.any (fun listed a w hc hl => hL _ listed a w hc hl) (f + 1) _ _ _ hc (h.2 _ ⟨_, hc⟩)
    · exact wpOp_of_qOp hw0 (fun a' w' hw' h' => ih _ a' w' hw' (ready_mono hn (Ne.symm hin)) h') (h.1 i hi hin).2

theorem qOp_where {C : World → Prop} {j : Nat} {oj : Oper} {K : Act → Prop} {a : Act} (hj : ops[j]? = some oj) (h : qOp P ops C j K a) : qOp P ops C j (fun a' => (∃ u, a' = a.put oj.dst u) ∧ K a') a := by
  unfold qOp at *
  simp only [hj] at *
  split
  · rename_i hw
    simp only [hw, if_true] at h
    obtain ⟨v, h1, h2⟩ := h
    exact ⟨v, h1, ⟨v, rfl⟩, h2⟩
  · rename_i hw
    simp only [hw] at h
    exact ⟨⟨_, rfl⟩, h⟩

theorem PreTo.take {i : Nat} {oi on : Oper} {v : Value} (hi : ops[i]? = some oi) (hon : ops[n]? = some on) (hd : on.dst = some d) (hsel : ∀ (j : Nat) (o : Oper) cs b, ops[j]? = some o → o.op ≠ .select cs b)
    (hs : Region.sinkB md ops (n + 1) = true) (hc : Region.chainB md ops (n + 1) = true) (hn : n + 1 < ops.size) (hin : i < n) (hend : ∀ b listed a, L b listed a → ∀ j ∈ Region.ready md ops listed, n + 1 ≤ j)
    (hne : ∀ e ∈ on.after, Region.binds md e = true → e.on ≠ i) (f : Nat) : ∀ (listed : Array Bool) (a : Act), HeadInv md ops (n + 1) listed → n ∈ Region.ready md ops listed →
      (∀ j oj, ops[j]? = some oj → j ≠ i → listed.getD j true = false → (∀ e ∈ oj.after, Region.binds md e = true → e.on ≠ i) → oi.apart ops oj = true) →
      i ∈ Region.ready md ops listed → YieldsIn P ops C0 oi v a → (∀ b, YieldsIn P ops (C2 b) oi v a) →
      PreTo P md ops C0 C2 n d L f (listed.setIfInBounds i true) (a.put oi.dst v) → PreTo P md ops C0 C2 n d L (f + 1) listed a := by
  have part : ∀ (f : Nat) (listed : Array Bool) (a : Act), HeadInv md ops (n + 1) listed → n ∈ Region.ready md ops listed →
      (∀ j oj, ops[j]? = some oj → j ≠ i → listed.getD j true = false → (∀ e ∈ oj.after, Region.binds md e = true → e.on ≠ i) → oi.apart ops oj = true) →
      i ∈ Region.ready md ops listed → (∀ b, YieldsIn P ops (C2 b) oi v a) →
      PreTo P md ops C0 C2 n d L f (listed.setIfInBounds i true) (a.put oi.dst v) →
      ∀ b, (∃ w, C2 b w) → HeadTo P md ops (C2 b) (n + 1) (L b) (f + 1) (listed.setIfInBounds n true) (a.put (some d) (ptr b)) := by
    intro f listed a inv hnr hfree hr hy2 H b hb
    have hap := Oper.apart_spec (hfree n on hon (by omega) (mem_ready.1 hnr).1 hne)
    refine HeadTo.take (v := v) hi hsel hs hc hn (by omega) (hend b) f _ _ (inv.set hnr (by omega)) ?_ (ready_mono hr (by omega)) ((hy2 b).of_same (execOp_put (ops := ops) oi (fun cs b => hsel i oi cs b hi) a (some d) _ ?_) (wanted_put (ops := ops) oi a (some d) _ ?_)) ?_
    · intro j oj hj hji hun hno
      refine hfree j oj hj hji ?_ hno
      by_cases hjn : n = j
      · subst hjn; exact (mem_ready.1 hnr).1
      · rwa [getD_set_ne true hjn] at hun
    · intro d' hd'; exact hap.2.2 d' (hd.trans hd')
    · intro d' hd'; exact hap.2.2 d' (hd.trans hd')
    · have := H.box b hb
      rw [Array.setIfInBounds_comm _ _ (show i ≠ n by omega)] at this
      rwa [Act.put_comm a v (ptr b) (fun d' h' => by rw [← hd]; exact hap.2.1 d' h')] at this
  induction f with
  | zero =>
    intro listed a inv hnr hfree hr hy hy2 H
    refine ⟨fun j hj hjn => ?_, part 0 listed a inv hnr hfree hr hy2 H⟩
    have hjn' := in_head hs hc hn (show n < n + 1 by omega) inv hnr hj
    by_cases hji : j = i
    · subst hji; exact ⟨hin, hy.qOp hi H⟩
    · exact absurd (H.1 j (ready_mono hj hji)) hjn
  | succ f ih =>
    intro listed a inv hnr hfree hr hy hy2 H
    refine ⟨fun j hj hjn => ?_, part (f + 1) listed a inv hnr hfree hr hy2 H⟩
    have hjn' := in_head hs hc hn (show n < n + 1 by omega) inv hnr hj
    refine ⟨by omega, ?_⟩
    by_cases hji : j = i
    · subst hji; exact hy.qOp hi H
    obtain ⟨hjun, oj, hoj, hall⟩ := mem_ready.1 hj
    have hno : ∀ e ∈ oj.after, Region.binds md e = true → e.on ≠ i := fun e he hb heq => by
      have h1 := hall e he hb
      rw [heq, getD_both (mem_ready.1 hr).1] at h1
      cases h1
    have hapj := hfree j oj hoj hji hjun hno
    have hput := qOp_where hoj (qOp_put hoj hapj (fun cs b => hsel i oi cs b hi) (fun cs b => hsel j oj cs b hoj) hy (H.1 j (ready_mono hj hji) hjn).2)
    refine qOp_mono (fun a' h3 => ?_) hput
    obtain ⟨⟨u, hu⟩, h3a, h3b⟩ := h3
    refine ih _ a' (inv.set hj (by omega)) (ready_mono hnr (Ne.symm hjn)) ?_ (ready_mono hr (Ne.symm hji)) h3a (fun b => ?_) ?_
    · intro k ok hk hki hun hnk
      refine hfree k ok hk hki ?_ hnk
      by_cases hjk : j = k
      · subst hjk; exact hjun
      · rwa [getD_set_ne true hjk] at hun
    · subst hu
      exact (hy2 b).of_same (execOp_put (ops := ops) oi (fun cs b => hsel i oi cs b hi) a oj.dst u (Oper.apart_spec hapj).2.2) (wanted_put (ops := ops) oi a oj.dst u (Oper.apart_spec hapj).2.2)
    · rw [Array.setIfInBounds_comm _ _ hji]; exact h3b


/-- The worlds that have grown out of w1. -/
abbrev Gr (w1 : World) : World → Prop := fun w' => ∃ u : Bel w1, w' = u.w
/-- .. in which the variable has been made, in block b. -/
def Boxed (w : World) (t : TypeId) (zs : List Value) (b : Nat) (w' : World) : Prop := Below w.heap.size w w' ∧ w.heap.size ≤ b ∧ Own w' b t zs

theorem quietAt_mono {C C' : World → Prop} {o : Oper} {a : Act} {w : World} {v : Value} (h : ∀ w, C w → C' w) (hq : o.quietAt P a C w v) : o.quietAt P a C' w v := by
  unfold Oper.quietAt at *
  generalize (execOp a.eval o).run P w = r at *
  cases r with
  | ok nx w' =>
    cases nx <;> simp only [Oper.quietUpon] at hq ⊢
    case value => exact hq
    case skip => exact hq
    case enter f args => exact ⟨hq.1, hq.2.mono fun e w'' q => ⟨q.1, h _ q.2⟩⟩
  | halt x w' => exact hq

theorem yields_boxed {w : World} {t : TypeId} {zs : List Value} {o : Oper} {v : Value} {a : Act} (h : ∀ w1, Below w.heap.size w w1 → YieldsIn P ops (Gr w1) o v a) (b : Nat) : YieldsIn P ops (Boxed w t zs b) o v a := by
  rcases h w (Below.refl _ _) with ⟨hw, _⟩ | ⟨hw, hv⟩
  · refine .inl ⟨hw, fun w' hb => ?_⟩
    rcases h w' hb.1 with ⟨_, hq⟩ | ⟨hw', _⟩
    · refine quietAt_mono ?_ (hq w' ⟨⟨w', Below.refl _ _⟩, rfl⟩)
      rintro _ ⟨u, rfl⟩
      exact ⟨below_trans hb.1 u.ok, hb.2.1, hb.2.2.grow u.ok⟩
    · rw [hw] at hw'; cases hw'
  · exact .inr ⟨hw, hv⟩

/-- each operation writes a slot of its own -/
def dstsB : List Oper → Nat → Bool
  | [], _ => true
  | o :: l, s => (match o.dst with | some d => decide (d < s) && l.all (fun o' => o'.dst != some d) | none => false) && dstsB l s

theorem put_size (a : Act) (dst : Option Tmp) (v : Value) : (a.put dst v).tmps.size = a.tmps.size := by
  cases dst <;> simp [Act.put]
theorem put_other (a : Act) {dst : Option Tmp} {d : Nat} (v : Value) (h : dst ≠ some d) : (a.put dst v).tmps[d]? = a.tmps[d]? := by
  cases dst with
  | none => rfl
  | some d' =>
    have hne : d' ≠ d := fun e => h (by rw [e])
    simp [Act.put, Array.getElem?_setIfInBounds_ne hne]
theorem put_same (a : Act) {d : Nat} (v : Value) (h : d < a.tmps.size) : (a.put (some d) v).tmps[d]? = some v := by
  simp [Act.put, h]

theorem dst_kept {C : World → Prop} {F : Act} {d : Nat} : ∀ (l : List Oper) (a : Act), wpQuiet P ops C (fun a' => a' = F) l a → (∀ o ∈ l, o.dst ≠ some d) → F.tmps[d]? = a.tmps[d]?
  | [], a, h, _ => by have h' : a = F := h; rw [h']
  | o :: l, a, h, hd => by
    have hr := fun v => put_other a (d := d) v (hd o (List.mem_cons_self ..))
    unfold wpQuiet at h
    split at h
    · obtain ⟨v, _, h2⟩ := h
      rw [dst_kept l _ h2 (fun o' ho' => hd o' (List.mem_cons_of_mem _ ho')), hr]
    · rw [dst_kept l _ h (fun o' ho' => hd o' (List.mem_cons_of_mem _ ho')), hr]

theorem PreTo.lex {w : World} {t : TypeId} {zs : List Value} {on : Oper} {F : Act} {g : Nat} (hon : ops[n]? = some on) (hd : on.dst = some d) (haft : on.after = #[]) (hsel : Region.noSelect ops = true)
    (hs : Region.sinkB md ops (n + 1) = true) (hc : Region.chainB md ops (n + 1) = true) (hn : n + 1 < ops.size) (l : List Oper) :
    ∀ (k : Nat) (listed : Array Bool) (a : Act), (∀ j, j < l.length → l[j]? = ops[k + j]?) → k + l.length = n → HeadInv md ops (n + 1) listed → n ∈ Region.ready md ops listed →
    Region.lexHead md ops g (l.length + 1) k listed = true → dstsB l a.tmps.size = true → (∀ w1, Below w.heap.size w w1 → wpQuiet P ops (Gr w1) (fun a' => a' = F) l a) →
    PreTo P md ops (Gr w) (Boxed w t zs) n d (fun b listed' a' => Region.seqB md ops g (n + 1) listed' = true ∧ a' = F.put (some d) (ptr b)) l.length listed a := by
  induction l with
  | nil =>
    intro k listed a _ hk inv hnr hB _ hw
    obtain rfl : k = n := by simpa using hk
    obtain rfl : a = F := hw w (Below.refl _ _)
    simp only [List.length_nil, Region.lexHead, Bool.and_eq_true] at hB
    refine ⟨fun i hi => ?_, fun b _ => ⟨hB.2, rfl⟩⟩
    have h1 := in_head hs hc hn (show k < k + 1 by omega) inv hnr hi
    refine Classical.byContradiction fun hne => ?_
    have := seqB_ready hB.2 i (ready_mono hi hne)
    omega
  | cons o l ih =>
    intro k listed a hl hk inv hnr hB hD hw
    simp only [List.length_cons] at hk
    rw [List.length_cons, Region.lexHead] at hB
    simp only [Bool.and_eq_true, List.contains_iff_mem] at hB
    have h0 : ops[k]? = some o := by simpa using (hl 0 (by simp)).symm
    simp only [dstsB, Bool.and_eq_true] at hD
    obtain ⟨hD1, hD2⟩ := hD
    cases hdst : o.dst with
    | none => rw [hdst] at hD1; cases hD1
    | some d' =>
      rw [hdst] at hD1
      simp only [Bool.and_eq_true, decide_eq_true_eq] at hD1
      have hfar : ∀ o' ∈ l, o'.dst ≠ some d' := fun o' ho' => by
        have := List.all_eq_true.1 hD1.2 o' ho'
        simpa using this
      have each : ∀ w1, Below w.heap.size w w1 → ∃ v, F.tmps[d']? = some v ∧ YieldsIn P ops (Gr w1) o v a ∧ wpQuiet P ops (Gr w1) (fun a' => a' = F) l (a.put o.dst v) := fun w1 hb => by
        have hq : qOp P ops (Gr w1) k (wpQuiet P ops (Gr w1) (fun a' => a' = F) l) a := by unfold qOp; simp only [h0]; exact hw w1 hb
        obtain ⟨v, hy, hK⟩ := yieldsIn_of_qOp h0 hq
        refine ⟨v, ?_, hy, hK⟩
        rw [dst_kept l _ hK hfar, hdst, put_same a v hD1.1]
      obtain ⟨v, hFv, _, _⟩ := each w (Below.refl _ _)
      have all : ∀ w1, Below w.heap.size w w1 → YieldsIn P ops (Gr w1) o v a ∧ wpQuiet P ops (Gr w1) (fun a' => a' = F) l (a.put o.dst v) := fun w1 hb => by
        obtain ⟨v', h1, h2, h3⟩ := each w1 hb
        rw [hFv] at h1
        obtain rfl : v = v' := by injection h1
        exact ⟨h2, h3⟩
      refine PreTo.take h0 hon hd (Region.noSelect_spec hsel) hs hc hn (by omega) (fun _ _ _ hL => seqB_ready hL.1) (fun e he => by rw [haft] at he; simp at he) l.length listed a inv hnr (Region.free_spec h0 hB.1.2) hB.1.1 (all w (Below.refl _ _)).1 (yields_boxed fun w1 hb => (all w1 hb).1) ?_
      refine ih (k + 1) _ _ (fun j hj => ?_) (by omega) (inv.set hB.1.1 (by omega)) (ready_mono hnr (by omega)) hB.2 (by rw [put_size]; exact hD2) (fun w1 hb => (all w1 hb).2)
      have := hl (j + 1) (by simp only [List.length_cons]; omega)
      rw [List.getElem?_cons_succ] at this
      rw [this]; congr 1; omega

/-- THE HEAD, A NEW VARIABLE, THEN THE TAIL. -/
theorem wp_region_box {id : Nat} {Q : Exit → Act → World → Prop} {a : Act} {w : World} {l : List Oper} {on : Oper} (n d : Nat) (t : TypeId) (zs : List Value) (hm : P.follows .mixedOrders = true)
    (hB : Region.lexTailB .any l.toArray (n + 1) = true) (hon : l[n]? = some on) (hd : on.dst = some d) (hg : on.guard = none) (haft : on.after = #[]) (hD : dstsB (l.take n) a.tmps.size = true)
    (hal : ∀ (a : Act) (w : World), (execOp a.eval on).run P w = .ok (.value (ptr w.heap.size)) (w.alloc (.cells zs.toArray t)))
    (hF : ∃ F : Act, (∀ w1, Below w.heap.size w w1 → wpQuiet P l.toArray (Gr w1) (fun a' => a' = F) (l.take n) a) ∧
      ∀ b w', w.heap.size ≤ b → Own w' b t zs → Below w.heap.size w w' → wpList P l.toArray Q (l.drop (n + 1)) (F.put (some d) (ptr b)) w') : (Code.region id l.toArray true).wp P Q a w := by
  obtain ⟨F, hwalk, hrest⟩ := hF
  simp only [Region.lexTailB, Bool.and_eq_true, decide_eq_true_eq] at hB
  obtain ⟨⟨⟨⟨hsel, hn⟩, hs⟩, hc⟩, hlex⟩ := hB
  have hn' : n + 1 < l.length := by simpa using hn
  have htl : (l.take n).length = n := by rw [List.length_take]; omega
  have hon' : l.toArray[n]? = some on := by simpa using hon
  have inv0 : HeadInv .any l.toArray (n + 1) (Array.replicate l.toArray.size false) :=
    ⟨by simp, fun j oj _ hl => (by rw [getD_replicate_false] at hl; cases hl), fun t _ ht => getD_in (by simpa using ht) (getD_replicate_false _ _)⟩
  have hr0 : n ∈ Region.ready .any l.toArray (Array.replicate l.toArray.size false) :=
    mem_ready.2 ⟨getD_in (by simp; omega) (getD_replicate_false _ _), on, hon', fun e he => by rw [haft] at he; simp at he⟩
  have H := PreTo.lex (P := P) (md := .any) (w := w) (t := t) (zs := zs) (F := F) (g := l.toArray.size - (n + 1)) hon' hd haft hsel hs hc hn (l.take n) 0 _ a (fun j hj => by
    rw [htl] at hj
    simp [hj]) (by omega) inv0 hr0 (by rw [htl]; exact hlex) hD hwalk
  refine wp_region_any hm ?_
  have hend := PreTo.any (Q' := Q) (g := l.toArray.size - (n + 1)) hon' hd (fun tm => by simp [Region.wanted, hg])
    (fun a w1 ⟨u, hu⟩ => ⟨_, hal a w1, by subst hu; exact ⟨below_trans u.ok (below_alloc _ _), u.ok.size, Own.new _ _ _⟩⟩)
    (fun b listed a' w' hb hL => by
      have hdl : (l.drop (n + 1)).length = l.toArray.size - (n + 1) := by simp
      have := wpAny_of_seq (P := P) (ops := l.toArray) (md := .any) (Q' := Q) (l.drop (n + 1)) (n + 1) listed a' w' (fun j => by simp [List.getElem?_drop]) (by rw [hdl]; exact hL.1) (by rw [hL.2]; exact hrest b w' hb.2.1 hb.2.2 hb.1)
      rwa [hdl] at this) _ _ a { w with drawn := w.drawn + 1 } ⟨⟨w.drew, (Below.refl _ _).drew⟩, rfl⟩ hr0 H
  rw [htl, show n + 1 + (l.toArray.size - (n + 1)) = l.toArray.size by omega] at hend
  exact hend
end
end Go.Proofs.Ytlmlckgnmkjkdaa
