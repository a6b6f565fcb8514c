import Derived.Test.YtlmlckgnmkjkdaaPairs
import Derived.Test.YtlmlckgnmkjkdaaFlat
import Derived.Test.YtlmlckgnmkjkdaaJoinH
import Derived.Test.YtlmlckgnmkjkdaaExprS
import Derived.Test.YtlmlckgnmkjkdaaExprE
import Derived.Test.YtlmlckgnmkjkdaaAggKindI
import Derived.Test.YtlmlckgnmkjkdaaBase
import Derived.Test.YtlmlckgnmkjkdaaCmpOr
import Derived.Test.YtlmlckgnmkjkdaaOwnsS
import Derived.Test.YtlmlckgnmkjkdaaPaneA
import Derived.Test.YtlmlckgnmkjkdaaDoneI
import Derived.Deep.RegionHeld3
import Derived.Test.YtlmlckgnmkjkdaaAggOkMath
import Derived.Test.YtlmlckgnmkjkdaaTopS
import Derived.Test.YtlmlckgnmkjkdaaAggI
import Derived.Test.YtlmlckgnmkjkdaaWideS
import Derived.Test.YtlmlckgnmkjkdaaBoxTail
import Derived.Test.YtlmlckgnmkjkdaaIntsW
import Derived.Deep.DeepCutAuto
import Derived.Deep.CutBlock
import Derived.Test.YtlmlckgnmkjkdaaAggS

/-
  Windows: a list of pairs (from, to); what is valid, what meets, what an addition makes.
-/
namespace Go.Proofs.Ytlmlckgnmkjkdaa

abbrev Wn := Int × Int
/-- a valid definition -/
def defOk (k s t : Int) : Prop := 1 ≤ k ∧ k ≤ 3 ∧ 1 ≤ s ∧ s ≤ 100 ∧ (k ≠ 2 → t = 0) ∧ (k = 2 → 1 ≤ t ∧ t ≤ s ∧ s ≤ 8 * t)
/-- a valid window -/
def winOk (x : Wn) : Prop := 0 ≤ x.1 ∧ x.1 < x.2 ∧ x.2 ≤ 1100
def wat (ws : List Wn) (k : Nat) : Wn := ws.getD k (0, 0)
theorem wat_elo (ws : List Wn) (k : Nat) : elo ws k = (wat ws k).1 := rfl
theorem wat_ehi (ws : List Wn) (k : Nat) : ehi ws k = (wat ws k).2 := rfl
/-- the first k are valid and in order -/
def sessTo (ws : List Wn) (k : Nat) : Prop := ∀ i, i < k → winOk (wat ws i) ∧ (0 < i → (wat ws (i - 1)).2 ≤ (wat ws i).1)
def sessOk (ws : List Wn) : Prop := ws.length ≤ 300 ∧ sessTo ws ws.length
theorem sessTo_succ {ws : List Wn} {k : Nat} (h : sessTo ws k) (h1 : winOk (wat ws k)) (h2 : 0 < k → (wat ws (k - 1)).2 ≤ (wat ws k).1) : sessTo ws (k + 1) := fun i hi => by
  by_cases e : i = k
  · subst e; exact ⟨h1, h2⟩
  · exact h i (by omega)
theorem sess_no1 {ws : List Wn} (h : ¬ ws.length ≤ 300) : ¬ sessOk ws := fun q => h q.1
theorem sess_no2 {ws : List Wn} {k : Nat} (hk : k < ws.length) (h : ¬ winOk (wat ws k)) : ¬ sessOk ws := fun q => h (q.2 k hk).1
theorem sess_no3 {ws : List Wn} {k : Nat} (hk : k < ws.length) (h0 : 0 < k) (h : ¬ (wat ws (k - 1)).2 ≤ (wat ws k).1) : ¬ sessOk ws := fun q => h ((q.2 k hk).2 h0)
/-- two windows overlap -/
def meets (a b : Wn) : Prop := a.1 < b.2 ∧ b.1 < a.2
instance (a b : Wn) : Decidable (meets a b) := inferInstanceAs (Decidable (_ ∧ _))
def merge2 (a b : Wn) : Wn := (min a.1 b.1, max a.2 b.2)
/-- one session more is looked at: (before, the window, behind) -/
def addStep (q : List Wn × Wn × List Wn) (s : Wn) : List Wn × Wn × List Wn :=
  if meets s q.2.1 then (q.1, merge2 s q.2.1, q.2.2) else if s.2 ≤ q.2.1.1 then (q.1 ++ [s], q.2.1, q.2.2) else (q.1, q.2.1, q.2.2 ++ [s])
def addTo (ws : List Wn) (x : Wn) (k : Nat) : List Wn × Wn × List Wn := (ws.take k).foldl addStep ([], x, [])
def addAll (ws : List Wn) (x : Wn) : List Wn := (addTo ws x ws.length).1 ++ (addTo ws x ws.length).2.1 :: (addTo ws x ws.length).2.2
def addOk (ws : List Wn) (x : Wn) : Prop := sessOk ws ∧ winOk x ∧ (addAll ws x).length ≤ 300
theorem addTo_zero (ws : List Wn) (x : Wn) : addTo ws x 0 = ([], x, []) := by simp [addTo]
theorem addTo_succ {ws : List Wn} {x : Wn} {k : Nat} (h : k < ws.length) : addTo ws x (k + 1) = addStep (addTo ws x k) (wat ws k) := by
  unfold addTo
  rw [List.take_succ_eq_append_getElem h, List.foldl_append]
  simp [wat, h]
theorem addTo_len {ws : List Wn} {x : Wn} : ∀ {k : Nat}, k ≤ ws.length → (addTo ws x k).1.length + (addTo ws x k).2.2.length ≤ k
  | 0, _ => by rw [addTo_zero]; simp
  | k + 1, h => by
    have ih := addTo_len (ws := ws) (x := x) (k := k) (by omega)
    rw [addTo_succ (by omega)]
    unfold addStep
    split
    · show (addTo ws x k).1.length + (addTo ws x k).2.2.length ≤ _; omega
    · split
      · show (_ ++ [_]).length + _ ≤ _; simp; omega
      · show _ + (_ ++ [_]).length ≤ _; simp; omega
/-- the first window that contains t, from k on: none before it -/
def inWin (t : Int) (x : Wn) : Prop := x.1 ≤ t ∧ t < x.2
end Go.Proofs.Ytlmlckgnmkjkdaa

/-
  Sessions as sets: what is covered and what is joined determine a list of sessions; an addition unites both. So the order of additions does not matter.
-/
namespace Go.Proofs.Ytlmlckgnmkjkdaa

/-- valid windows, each ending before the later ones begin -/
def Srt (ws : List Wn) : Prop := (∀ x ∈ ws, winOk x) ∧ ws.Pairwise fun a b => a.2 ≤ b.1
/-- time t is covered -/
def Cov (ws : List Wn) (t : Int) : Prop := ∃ x ∈ ws, x.1 ≤ t ∧ t < x.2
/-- the times p - 1 and p lie in one window -/
def Jnd (ws : List Wn) (p : Int) : Prop := ∃ x ∈ ws, x.1 < p ∧ p < x.2

theorem Srt.tail {x : Wn} {ws : List Wn} (h : Srt (x :: ws)) : Srt ws := ⟨fun y hy => h.1 y (List.mem_cons_of_mem _ hy), (List.pairwise_cons.1 h.2).2⟩
theorem Srt.head {x : Wn} {ws : List Wn} (h : Srt (x :: ws)) : winOk x := h.1 x (List.mem_cons_self ..)
theorem Srt.after {x : Wn} {ws : List Wn} (h : Srt (x :: ws)) {y : Wn} (hy : y ∈ ws) : x.2 ≤ y.1 := (List.pairwise_cons.1 h.2).1 y hy
theorem cov_cons {x : Wn} {ws : List Wn} {t : Int} : Cov (x :: ws) t ↔ (x.1 ≤ t ∧ t < x.2) ∨ Cov ws t := by simp [Cov]
theorem jnd_cons {x : Wn} {ws : List Wn} {t : Int} : Jnd (x :: ws) t ↔ (x.1 < t ∧ t < x.2) ∨ Jnd ws t := by simp [Jnd]
theorem cov_append {a b : List Wn} {t : Int} : Cov (a ++ b) t ↔ Cov a t ∨ Cov b t := by
  simp only [Cov, List.mem_append]
  constructor
  · rintro ⟨x, h | h, k⟩
    · exact .inl ⟨x, h, k⟩
    · exact .inr ⟨x, h, k⟩
  · rintro (⟨x, h, k⟩ | ⟨x, h, k⟩)
    · exact ⟨x, .inl h, k⟩
    · exact ⟨x, .inr h, k⟩
theorem jnd_append {a b : List Wn} {t : Int} : Jnd (a ++ b) t ↔ Jnd a t ∨ Jnd b t := by
  simp only [Jnd, List.mem_append]
  constructor
  · rintro ⟨x, h | h, k⟩
    · exact .inl ⟨x, h, k⟩
    · exact .inr ⟨x, h, k⟩
  · rintro (⟨x, h, k⟩ | ⟨x, h, k⟩)
    · exact ⟨x, .inl h, k⟩
    · exact ⟨x, .inr h, k⟩

/-- the two sets determine the list -/
theorem srt_unique : ∀ {u v : List Wn}, Srt u → Srt v → (∀ t, Cov u t ↔ Cov v t) → (∀ p, Jnd u p ↔ Jnd v p) → u = v
  | [], [], _, _, _, _ => rfl
  | [], y :: ys, _, hv, hc, _ => by
    have hy := hv.head
    have := (hc y.1).2 (cov_cons.2 (.inl ⟨Int.le_refl _, hy.2.1⟩))
    obtain ⟨_, h, _⟩ := this
    cases h
  | x :: xs, [], hu, _, hc, _ => by
    have hx := hu.head
    have := (hc x.1).1 (cov_cons.2 (.inl ⟨Int.le_refl _, hx.2.1⟩))
    obtain ⟨_, h, _⟩ := this
    cases h
  | x :: xs, y :: ys, hu, hv, hc, hj => by
    have hx := hu.head
    have hy := hv.head
    have covLe : ∀ {z : Wn} {zs : List Wn} {t : Int}, Srt (z :: zs) → Cov (z :: zs) t → z.1 ≤ t := by
      intro z zs t hz h
      rcases cov_cons.1 h with h | ⟨q, hq, h1, _⟩
      · exact h.1
      · have := hz.after hq
        have := hz.head.2.1
        omega
    have e1 : x.1 = y.1 := by
      have a := covLe hv ((hc x.1).1 (cov_cons.2 (.inl ⟨Int.le_refl _, hx.2.1⟩)))
      have b := covLe hu ((hc y.1).2 (cov_cons.2 (.inl ⟨Int.le_refl _, hy.2.1⟩)))
      omega
    have cutNo : ∀ {z : Wn} {zs : List Wn}, Srt (z :: zs) → ¬ Jnd (z :: zs) z.2 := by
      intro z zs hz h
      rcases jnd_cons.1 h with h | ⟨q, hq, h1, _⟩
      · omega
      · have := hz.after hq
        omega
    have e2 : x.2 = y.2 := by
      rcases Int.lt_trichotomy x.2 y.2 with h | h | h
      · have := (hj x.2).2 (jnd_cons.2 (.inl ⟨by have := hx.2.1; omega, h⟩))
        exact absurd this (cutNo hu)
      · exact h
      · have := (hj y.2).1 (jnd_cons.2 (.inl ⟨by have := hy.2.1; omega, h⟩))
        exact absurd this (cutNo hv)
    have e : x = y := Prod.ext e1 e2
    subst e
    have restC : ∀ {zs : List Wn} {t : Int}, Srt (x :: zs) → (Cov zs t ↔ Cov (x :: zs) t ∧ x.2 ≤ t) := by
      intro zs t hz
      rw [cov_cons]
      constructor
      · rintro ⟨q, hq, h1, h2⟩
        exact ⟨.inr ⟨q, hq, h1, h2⟩, by have := hz.after hq; omega⟩
      · rintro ⟨h | h, h2⟩
        · omega
        · exact h
    have restJ : ∀ {zs : List Wn} {t : Int}, Srt (x :: zs) → (Jnd zs t ↔ Jnd (x :: zs) t ∧ x.2 ≤ t) := by
      intro zs t hz
      rw [jnd_cons]
      constructor
      · rintro ⟨q, hq, h1, h2⟩
        exact ⟨.inr ⟨q, hq, h1, h2⟩, by have := hz.after hq; omega⟩
      · rintro ⟨h | h, h2⟩
        · omega
        · exact h
    have := srt_unique hu.tail hv.tail (fun t => by rw [restC hu, restC hv, hc t]) (fun p => by rw [restJ hu, restJ hv, hj p])
    rw [this]

/-! ### an addition -/

/-- what is there while sessions are looked at one by one -/
def out3 (q : List Wn × Wn × List Wn) : List Wn := q.1 ++ q.2.1 :: q.2.2
theorem merge_cov {a b : Wn} (h : meets a b) {t : Int} : ((merge2 a b).1 ≤ t ∧ t < (merge2 a b).2) ↔ (a.1 ≤ t ∧ t < a.2) ∨ (b.1 ≤ t ∧ t < b.2) := by
  unfold meets at h
  simp only [merge2]
  omega
theorem merge_jnd {a b : Wn} (h : meets a b) {t : Int} : ((merge2 a b).1 < t ∧ t < (merge2 a b).2) ↔ (a.1 < t ∧ t < a.2) ∨ (b.1 < t ∧ t < b.2) := by
  unfold meets at h
  simp only [merge2]
  omega
theorem step_cov (q : List Wn × Wn × List Wn) (s : Wn) (t : Int) : Cov (out3 (addStep q s)) t ↔ Cov (out3 q) t ∨ (s.1 ≤ t ∧ t < s.2) := by
  unfold addStep
  split
  · rename_i h
    simp only [out3, cov_append, cov_cons, merge_cov h]
    grind
  · split
    · simp only [out3, cov_append, cov_cons]
      have : ¬ Cov [] t := by rintro ⟨_, h, _⟩; cases h
      grind
    · simp only [out3, cov_append, cov_cons]
      have : ¬ Cov [] t := by rintro ⟨_, h, _⟩; cases h
      grind
theorem step_jnd (q : List Wn × Wn × List Wn) (s : Wn) (t : Int) : Jnd (out3 (addStep q s)) t ↔ Jnd (out3 q) t ∨ (s.1 < t ∧ t < s.2) := by
  unfold addStep
  split
  · rename_i h
    simp only [out3, jnd_append, jnd_cons, merge_jnd h]
    grind
  · split
    · simp only [out3, jnd_append, jnd_cons]
      have : ¬ Jnd [] t := by rintro ⟨_, h, _⟩; cases h
      grind
    · simp only [out3, jnd_append, jnd_cons]
      have : ¬ Jnd [] t := by rintro ⟨_, h, _⟩; cases h
      grind
theorem fold_cov (ws : List Wn) : ∀ (q : List Wn × Wn × List Wn) (t : Int), Cov (out3 (ws.foldl addStep q)) t ↔ Cov (out3 q) t ∨ Cov ws t := by
  induction ws with
  | nil => intro q t; have : ¬ Cov [] t := by { rintro ⟨_, h, _⟩; cases h }; simp [this]
  | cons s ws ih => intro q t; rw [List.foldl_cons, ih, step_cov, cov_cons]; grind
theorem fold_jnd (ws : List Wn) : ∀ (q : List Wn × Wn × List Wn) (t : Int), Jnd (out3 (ws.foldl addStep q)) t ↔ Jnd (out3 q) t ∨ Jnd ws t := by
  induction ws with
  | nil => intro q t; have : ¬ Jnd [] t := by { rintro ⟨_, h, _⟩; cases h }; simp [this]
  | cons s ws ih => intro q t; rw [List.foldl_cons, ih, step_jnd, jnd_cons]; grind
theorem addAll_eq (ws : List Wn) (x : Wn) : addAll ws x = out3 (ws.foldl addStep ([], x, [])) := by
  unfold addAll addTo out3
  rw [List.take_length]
theorem add_cov (ws : List Wn) (x : Wn) (t : Int) : Cov (addAll ws x) t ↔ Cov ws t ∨ (x.1 ≤ t ∧ t < x.2) := by
  rw [addAll_eq, fold_cov]
  have : Cov (out3 ([], x, [])) t ↔ (x.1 ≤ t ∧ t < x.2) := by simp [out3, Cov]
  rw [this]; grind
theorem add_jnd (ws : List Wn) (x : Wn) (t : Int) : Jnd (addAll ws x) t ↔ Jnd ws t ∨ (x.1 < t ∧ t < x.2) := by
  rw [addAll_eq, fold_jnd]
  have : Jnd (out3 ([], x, [])) t ↔ (x.1 < t ∧ t < x.2) := by simp [out3, Jnd]
  rw [this]; grind
end Go.Proofs.Ytlmlckgnmkjkdaa

/-
  Sessions: an addition keeps a list valid; what was there lies in one session; sessions of many windows do not hang on their order or on how they are grouped.
-/
namespace Go.Proofs.Ytlmlckgnmkjkdaa

theorem winOk_merge {a b : Wn} (ha : winOk a) (hb : winOk b) : winOk (merge2 a b) := by
  unfold winOk at *
  simp only [merge2]
  omega
/-- how the three parts lie while the sessions of ws are still to be looked at -/
structure Lies (q : List Wn × Wn × List Wn) (ws : List Wn) : Prop where
  okh : ∀ a ∈ q.1, winOk a
  okw : winOk q.2.1
  okt : ∀ a ∈ q.2.2, winOk a
  sh : q.1.Pairwise fun a b => a.2 ≤ b.1
  st : q.2.2.Pairwise fun a b => a.2 ≤ b.1
  hw : ∀ a ∈ q.1, a.2 ≤ q.2.1.1
  wt : ∀ b ∈ q.2.2, q.2.1.2 ≤ b.1
  hs : ∀ a ∈ q.1, ∀ s ∈ ws, a.2 ≤ s.1
  ts : ∀ b ∈ q.2.2, ∀ s ∈ ws, b.2 ≤ s.1
theorem pw_snoc {l : List Wn} {x : Wn} (h : l.Pairwise fun a b => a.2 ≤ b.1) (hx : ∀ a ∈ l, a.2 ≤ x.1) : (l ++ [x]).Pairwise fun a b => a.2 ≤ b.1 := by
  rw [List.pairwise_append]
  refine ⟨h, List.pairwise_singleton .., fun a ha b hb => ?_⟩
  rw [List.mem_singleton.1 hb]
  exact hx a ha
theorem lies_step {q : List Wn × Wn × List Wn} {s : Wn} {ws : List Wn} (h : Lies q (s :: ws)) (hw : Srt (s :: ws)) : Lies (addStep q s) ws := by
  obtain ⟨hd, w, tl⟩ := q
  have hs := hw.head
  have hsm : s ∈ s :: ws := List.mem_cons_self ..
  have okh := h.okh
  have okw := h.okw
  have okt := h.okt
  have sh := h.sh
  have st := h.st
  have hhw := h.hw
  have hwt := h.wt
  have hhs := h.hs
  have hts := h.ts
  simp only at okh okw okt sh st hhw hwt hhs hts
  -- nothing lies behind the window if s meets it or lies ahead of it
  have tnil : s.1 < w.2 → tl = [] := fun hlt => by
    cases tl with
    | nil => rfl
    | cons b bs =>
      exfalso
      have h1 := hwt b (List.mem_cons_self ..)
      have h2 := hts b (List.mem_cons_self ..) s hsm
      have h3 := (okt b (List.mem_cons_self ..)).2.1
      omega
  unfold addStep
  simp only
  split
  · rename_i hm
    have hm' := hm
    unfold meets at hm'
    have ht := tnil hm'.1
    subst ht
    exact ⟨okh, winOk_merge hs okw, okt, sh, st, (fun a ha => by have h1 := hhw a ha; have h2 := hhs a ha s hsm; simp only [merge2]; omega), (fun b hb => by cases hb), (fun a ha x hx => hhs a ha x (List.mem_cons_of_mem _ hx)), (fun b hb => by cases hb)⟩
  · rename_i hm
    have hm' : ¬ (s.1 < w.2 ∧ w.1 < s.2) := hm
    split
    · rename_i hle
      have ht := tnil (by have := hs.2.1; have := okw.2.1; omega)
      subst ht
      refine ⟨fun a ha => ?_, okw, okt, pw_snoc sh (fun a ha => hhs a ha s hsm), st, fun a ha => ?_, (fun b hb => by cases hb), fun a ha x hx => ?_, (fun b hb => by cases hb)⟩
      · rcases List.mem_append.1 ha with h1 | h1
        · exact okh a h1
        · rw [List.mem_singleton.1 h1]; exact hs
      · rcases List.mem_append.1 ha with h1 | h1
        · exact hhw a h1
        · rw [List.mem_singleton.1 h1]; exact hle
      · rcases List.mem_append.1 ha with h1 | h1
        · exact hhs a h1 x (List.mem_cons_of_mem _ hx)
        · rw [List.mem_singleton.1 h1]; exact hw.after hx
    · rename_i hle
      refine ⟨okh, okw, fun a ha => ?_, sh, pw_snoc st (fun a ha => hts a ha s hsm), hhw, fun b hb => ?_, (fun a ha x hx => hhs a ha x (List.mem_cons_of_mem _ hx)), fun b hb x hx => ?_⟩
      · rcases List.mem_append.1 ha with h1 | h1
        · exact okt a h1
        · rw [List.mem_singleton.1 h1]; exact hs
      · rcases List.mem_append.1 hb with h1 | h1
        · exact hwt b h1
        · rw [List.mem_singleton.1 h1]
          show w.2 ≤ s.1
          omega
      · rcases List.mem_append.1 hb with h1 | h1
        · exact hts b h1 x (List.mem_cons_of_mem _ hx)
        · rw [List.mem_singleton.1 h1]; exact hw.after hx
theorem lies_fold : ∀ {ws : List Wn} {q : List Wn × Wn × List Wn}, Lies q ws → Srt ws → Lies (ws.foldl addStep q) []
  | [], _, h, _ => h
  | _ :: ws, _, h, hw => lies_fold (ws := ws) (lies_step h hw) hw.tail
theorem lies_srt {q : List Wn × Wn × List Wn} (h : Lies q []) : Srt (out3 q) := by
  obtain ⟨hd, w, tl⟩ := q
  refine ⟨fun x hx => ?_, ?_⟩
  · rcases List.mem_append.1 hx with h1 | h1
    · exact h.okh x h1
    · rcases List.mem_cons.1 h1 with h2 | h2
      · rw [h2]; exact h.okw
      · exact h.okt x h2
  · unfold out3
    rw [List.pairwise_append]
    refine ⟨h.sh, List.pairwise_cons.2 ⟨h.wt, h.st⟩, fun a ha b hb => ?_⟩
    rcases List.mem_cons.1 hb with h2 | h2
    · rw [h2]; exact h.hw a ha
    · have h3 := h.hw a ha
      have h4 := h.wt b h2
      have h5 := h.okw.2.1
      simp only at h3 h4 h5
      omega
theorem add_srt {ws : List Wn} {x : Wn} (hw : Srt ws) (hx : winOk x) : Srt (addAll ws x) := by
  rw [addAll_eq]
  exact lies_srt (lies_fold ⟨(fun a ha => by cases ha), hx, (fun a ha => by cases ha), List.Pairwise.nil, List.Pairwise.nil, (fun a ha => by cases ha), (fun a ha => by cases ha), (fun a ha => by cases ha), (fun a ha => by cases ha)⟩ hw)
theorem add_length (ws : List Wn) (x : Wn) : (addAll ws x).length ≤ ws.length + 1 := by
  have := addTo_len (ws := ws) (x := x) (Nat.le_refl _)
  unfold addAll
  simp only [List.length_append, List.length_cons]
  omega

/-- y lies in one of the windows -/
def Within (y : Wn) (ws : List Wn) : Prop := ∃ z ∈ ws, z.1 ≤ y.1 ∧ y.2 ≤ z.2
theorem within_step {q : List Wn × Wn × List Wn} {s y : Wn} (h : Within y (out3 q)) : Within y (out3 (addStep q s)) := by
  obtain ⟨hd, w, tl⟩ := q
  obtain ⟨z, hz, h1, h2⟩ := h
  unfold addStep
  simp only
  have hz' : z ∈ hd ∨ z = w ∨ z ∈ tl := by simpa [out3] using hz
  split
  · rcases hz' with h | rfl | h
    · exact ⟨z, by simp [out3, h], h1, h2⟩
    · exact ⟨merge2 s z, by simp [out3], by simp only [merge2]; omega, by simp only [merge2]; omega⟩
    · exact ⟨z, by simp [out3, h], h1, h2⟩
  · split
    · rcases hz' with h | h | h <;> exact ⟨z, by simp [out3, h], h1, h2⟩
    · rcases hz' with h | h | h <;> exact ⟨z, by simp [out3, h], h1, h2⟩
theorem within_new (q : List Wn × Wn × List Wn) (s : Wn) : Within s (out3 (addStep q s)) := by
  obtain ⟨hd, w, tl⟩ := q
  unfold addStep
  simp only
  split
  · exact ⟨merge2 s w, by simp [out3], by simp only [merge2]; omega, by simp only [merge2]; omega⟩
  · split
    · exact ⟨s, by simp [out3], Int.le_refl _, Int.le_refl _⟩
    · exact ⟨s, by simp [out3], Int.le_refl _, Int.le_refl _⟩
theorem within_fold : ∀ (ws : List Wn) (q : List Wn × Wn × List Wn) (y : Wn), (Within y (out3 q) ∨ y ∈ ws) → Within y (out3 (ws.foldl addStep q))
  | [], q, y, h => by
    rcases h with h | h
    · exact h
    · cases h
  | s :: ws, q, y, h => by
    rw [List.foldl_cons]
    refine within_fold ws _ y ?_
    rcases h with h | h
    · exact .inl (within_step h)
    · rcases List.mem_cons.1 h with h | h
      · rw [h]; exact .inl (within_new q s)
      · exact .inr h
/-- after an addition the window, and every session that was there, lies in one session -/
theorem add_within {ws : List Wn} {x y : Wn} (h : y ∈ ws ∨ y = x) : Within y (addAll ws x) := by
  rw [addAll_eq]
  refine within_fold ws _ y ?_
  rcases h with h | h
  · exact .inr h
  · rw [h]; exact .inl ⟨x, by simp [out3], Int.le_refl _, Int.le_refl _⟩

/-! ### many additions -/

def addMany (ws xs : List Wn) : List Wn := xs.foldl addAll ws
theorem many_cons (ws : List Wn) (x : Wn) (xs : List Wn) : addMany ws (x :: xs) = addMany (addAll ws x) xs := rfl
theorem many_snoc (ws : List Wn) (xs : List Wn) (x : Wn) : addMany ws (xs ++ [x]) = addAll (addMany ws xs) x := by simp [addMany]
theorem many_srt : ∀ {xs ws : List Wn}, Srt ws → (∀ x ∈ xs, winOk x) → Srt (addMany ws xs)
  | [], _, h, _ => h
  | x :: xs, _, h, hx => many_srt (xs := xs) (add_srt h (hx x (List.mem_cons_self ..))) (fun y hy => hx y (List.mem_cons_of_mem _ hy))
theorem many_cov : ∀ (xs ws : List Wn) (t : Int), Cov (addMany ws xs) t ↔ Cov ws t ∨ Cov xs t
  | [], ws, t => by have : ¬ Cov [] t := by { rintro ⟨_, h, _⟩; cases h }; simp [addMany, this]
  | x :: xs, ws, t => by rw [many_cons, many_cov xs, add_cov, cov_cons]; grind
theorem many_jnd : ∀ (xs ws : List Wn) (t : Int), Jnd (addMany ws xs) t ↔ Jnd ws t ∨ Jnd xs t
  | [], ws, t => by have : ¬ Jnd [] t := by { rintro ⟨_, h, _⟩; cases h }; simp [addMany, this]
  | x :: xs, ws, t => by rw [many_cons, many_jnd xs, add_jnd, jnd_cons]; grind
theorem many_length : ∀ (xs ws : List Wn), (addMany ws xs).length ≤ ws.length + xs.length
  | [], ws => by simp [addMany]
  | x :: xs, ws => by
    rw [many_cons]
    have h1 := many_length xs (addAll ws x)
    have h2 := add_length ws x
    simp only [List.length_cons]
    omega
theorem srt_nil : Srt [] := ⟨fun x hx => (by cases hx), List.Pairwise.nil⟩
/-- the order does not matter -/
theorem many_reverse {xs : List Wn} (hx : ∀ x ∈ xs, winOk x) : addMany [] xs.reverse = addMany [] xs := by
  refine srt_unique (many_srt srt_nil (fun x h => hx x (List.mem_reverse.1 h))) (many_srt srt_nil hx) (fun t => ?_) (fun p => ?_)
  · rw [many_cov, many_cov]; simp [Cov]
  · rw [many_jnd, many_jnd]; simp [Jnd]
/-- nor does the grouping -/
theorem many_join {xs ys : List Wn} (hx : ∀ x ∈ xs, winOk x) (hy : ∀ y ∈ ys, winOk y) : addMany (addMany [] xs) (addMany [] ys) = addMany [] (xs ++ ys) := by
  have h1 := many_srt srt_nil hx
  have h2 := many_srt srt_nil hy
  have h3 : ∀ x ∈ xs ++ ys, winOk x := fun x h => by
    rcases List.mem_append.1 h with h | h
    · exact hx x h
    · exact hy x h
  refine srt_unique (many_srt h1 h2.1) (many_srt srt_nil h3) (fun t => ?_) (fun p => ?_)
  · have e : ¬ Cov [] t := by rintro ⟨_, h, _⟩; cases h
    rw [many_cov, many_cov, many_cov, many_cov, cov_append]; grind
  · have e : ¬ Jnd [] p := by rintro ⟨_, h, _⟩; cases h
    rw [many_jnd, many_jnd, many_jnd, many_jnd, jnd_append]; grind
/-- every window that was added lies in one session -/
theorem many_within : ∀ (xs ws : List Wn) (y : Wn), (Within y ws ∨ y ∈ xs) → Within y (addMany ws xs)
  | [], ws, y, h => by
    rcases h with h | h
    · exact h
    · cases h
  | x :: xs, ws, y, h => by
    rw [many_cons]
    refine many_within xs _ y ?_
    rcases h with ⟨z, hz, h1, h2⟩ | h
    · obtain ⟨u, hu, h3, h4⟩ := add_within (ws := ws) (x := x) (y := z) (.inl hz)
      exact .inl ⟨u, hu, by omega, by omega⟩
    · rcases List.mem_cons.1 h with h | h
      · rw [h]; exact .inl (add_within (.inr rfl))
      · exact .inr h

/-! ### the word of the model for a valid list -/
theorem srt_of_sessTo {ws : List Wn} (h : sessTo ws ws.length) : Srt ws := by
  have hget : ∀ i, (hi : i < ws.length) → wat ws i = ws[i] := fun i hi => by simp [wat, hi]
  have chain : ∀ i j, i < j → (hj : j < ws.length) → (wat ws i).2 ≤ (wat ws j).1 := by
    intro i j hij
    induction j with
    | zero => omega
    | succ j ih =>
      intro hj
      have h1 := (h (j + 1) hj).2 (by omega)
      simp only [Nat.add_sub_cancel] at h1
      by_cases e : i = j
      · rw [e]; exact h1
      · have h2 := ih (by omega) (by omega)
        have h3 := (h j (by omega)).1.2.1
        omega
  refine ⟨fun x hx => ?_, ?_⟩
  · obtain ⟨i, hi, e⟩ := List.getElem_of_mem hx
    rw [← e, ← hget i hi]
    exact (h i hi).1
  · rw [List.pairwise_iff_getElem]
    intro i j hi hj hij
    rw [← hget i hi, ← hget j hj]
    exact chain i j hij hj
theorem sessTo_of_srt {ws : List Wn} (h : Srt ws) : sessTo ws ws.length := by
  have hget : ∀ i, (hi : i < ws.length) → wat ws i = ws[i] := fun i hi => by simp [wat, hi]
  intro i hi
  refine ⟨by rw [hget i hi]; exact h.1 _ (List.getElem_mem hi), fun h0 => ?_⟩
  rw [hget i hi, hget (i - 1) (by omega)]
  exact List.pairwise_iff_getElem.1 h.2 (i - 1) i (by omega) hi (by omega)
theorem sessOk_iff (ws : List Wn) : sessOk ws ↔ ws.length ≤ 300 ∧ Srt ws := ⟨fun h => ⟨h.1, srt_of_sessTo h.2⟩, fun h => ⟨h.1, sessTo_of_srt h.2⟩⟩
end Go.Proofs.Ytlmlckgnmkjkdaa

/-
  What the laws' own helpers on Win (a struct of 2 ints) return. By kitgen.py.
-/
namespace Go.Proofs.Ytlmlckgnmkjkdaa
open Go.RowKit
set_option maxHeartbeats 400000 in
theorem toWin_any (x0 x1 : Int) (w : World) :
    Calls Try.prog 32 #[.agg #[.int .i64 x0, .int .i64 x1]] w fun e w' => e = .returned (.agg #[.int .i64 x0, .int .i64 x1]) ∧ Below w.heap.size w w' := by
  go_enter Try.func32, Try.ntmps32
  go_wp2
  refine bodyPost_ret (v := .agg #[.int .i64 x0, .int .i64 x1]) (by simp [results, Try.results32, go_sem]) rfl ⟨rfl, ?_⟩
  exact below_trans (below_trans (below_alloc _ _) (below_alloc _ _)) (below_alloc _ _)
theorem info_Win : (Try.prog.info? 68).map (fun i => (i.zero, i.size, i.bytes)) = some (some (.agg #[.int .i64 0, .int .i64 0]), 2, 16) := by kernel_rfl
theorem made_zeros_Win (n : Nat) : madeCells (Value.agg #[.int .i64 0, .int .i64 0]).cells (n * 2) = (iz (List.replicate (n * 2) 0)).toArray := by
  apply Array.ext
  · simp [madeCells, iz]
  · intro i h1 h2
    have h : i % 2 = 0 ∨ i % 2 = 1 := by omega
    simp [madeCells, iz, Value.cells]
    rcases h with h | h <;> simp [h]
end Go.Proofs.Ytlmlckgnmkjkdaa

/-
  Windows: the small functions of the model and of the program: what they return.
-/
namespace Go.Proofs.Ytlmlckgnmkjkdaa
open Go.RowKit

/-- a time -/
def isT (t : Int) : Prop := 0 ≤ t ∧ t ≤ 1000
set_option maxHeartbeats 400000 in
theorem l05Time_any (t : Int) (w : World) : Calls Try.prog 67 #[.int .i64 t] w fun e w' => e = .returned (.bool (tf (isT t))) ∧ w = w' := by
  by_cases h0 : 0 ≤ t
  · by_cases h1 : t ≤ 1000
    · go_enter Try.func67, Try.ntmps67
      go_wp2
      go_ret
      first | exact ⟨ret_bool (tf_yes (by unfold isT; omega)), rfl⟩ | exact ⟨ret_bool (tf_no (by unfold isT; omega)), rfl⟩
    · go_enter Try.func67, Try.ntmps67
      go_wp2
      go_ret
      first | exact ⟨ret_bool (tf_yes (by unfold isT; omega)), rfl⟩ | exact ⟨ret_bool (tf_no (by unfold isT; omega)), rfl⟩
  · go_enter Try.func67, Try.ntmps67
    go_wp2
    go_ret
    first | exact ⟨ret_bool (tf_yes (by unfold isT; omega)), rfl⟩ | exact ⟨ret_bool (tf_no (by unfold isT; omega)), rfl⟩
set_option maxHeartbeats 400000 in
theorem isTime_any (t : Int) (w : World) : Calls Try.prog 70 #[.int .i64 t] w fun e w' => e = .returned (.bool (tf (isT t))) ∧ w = w' := by
  by_cases h0 : 0 ≤ t
  · by_cases h1 : t ≤ 1000
    · go_enter Try.func70, Try.ntmps70
      go_wp2
      go_ret
      first | exact ⟨ret_bool (tf_yes (by unfold isT; omega)), rfl⟩ | exact ⟨ret_bool (tf_no (by unfold isT; omega)), rfl⟩
    · go_enter Try.func70, Try.ntmps70
      go_wp2
      go_ret
      first | exact ⟨ret_bool (tf_yes (by unfold isT; omega)), rfl⟩ | exact ⟨ret_bool (tf_no (by unfold isT; omega)), rfl⟩
  · go_enter Try.func70, Try.ntmps70
    go_wp2
    go_ret
    first | exact ⟨ret_bool (tf_yes (by unfold isT; omega)), rfl⟩ | exact ⟨ret_bool (tf_no (by unfold isT; omega)), rfl⟩
set_option maxHeartbeats 400000 in
theorem l06Win_any (a b : Int) (w : World) : Calls Try.prog 72 #[.agg #[.int .i64 a, .int .i64 b]] w fun e w' => e = .returned (.bool (tf (winOk (a, b)))) ∧ Below w.heap.size w w' := by
  by_cases h0 : 0 ≤ a
  · by_cases h1 : a < b
    · by_cases h2 : b ≤ 1100
      · go_enter Try.func72, Try.ntmps72
        go_wp2
        go_ret
        first | exact ⟨ret_bool (tf_yes (by unfold winOk; omega)), below_alloc _ _⟩ | exact ⟨ret_bool (tf_no (by unfold winOk; omega)), below_alloc _ _⟩
      · go_enter Try.func72, Try.ntmps72
        go_wp2
        go_ret
        first | exact ⟨ret_bool (tf_yes (by unfold winOk; omega)), below_alloc _ _⟩ | exact ⟨ret_bool (tf_no (by unfold winOk; omega)), below_alloc _ _⟩
    · go_enter Try.func72, Try.ntmps72
      go_wp2
      go_ret
      first | exact ⟨ret_bool (tf_yes (by unfold winOk; omega)), below_alloc _ _⟩ | exact ⟨ret_bool (tf_no (by unfold winOk; omega)), below_alloc _ _⟩
  · go_enter Try.func72, Try.ntmps72
    go_wp2
    go_ret
    first | exact ⟨ret_bool (tf_yes (by unfold winOk; omega)), below_alloc _ _⟩ | exact ⟨ret_bool (tf_no (by unfold winOk; omega)), below_alloc _ _⟩
set_option maxHeartbeats 400000 in
theorem isWin_any (a b : Int) (w : World) : Calls Try.prog 75 #[.agg #[.int .i64 a, .int .i64 b]] w fun e w' => e = .returned (.bool (tf (winOk (a, b)))) ∧ Below w.heap.size w w' := by
  by_cases h0 : 0 ≤ a
  · by_cases h1 : a < b
    · by_cases h2 : b ≤ 1100
      · go_enter Try.func75, Try.ntmps75
        go_wp2
        go_ret
        first | exact ⟨ret_bool (tf_yes (by unfold winOk; omega)), below_alloc _ _⟩ | exact ⟨ret_bool (tf_no (by unfold winOk; omega)), below_alloc _ _⟩
      · go_enter Try.func75, Try.ntmps75
        go_wp2
        go_ret
        first | exact ⟨ret_bool (tf_yes (by unfold winOk; omega)), below_alloc _ _⟩ | exact ⟨ret_bool (tf_no (by unfold winOk; omega)), below_alloc _ _⟩
    · go_enter Try.func75, Try.ntmps75
      go_wp2
      go_ret
      first | exact ⟨ret_bool (tf_yes (by unfold winOk; omega)), below_alloc _ _⟩ | exact ⟨ret_bool (tf_no (by unfold winOk; omega)), below_alloc _ _⟩
  · go_enter Try.func75, Try.ntmps75
    go_wp2
    go_ret
    first | exact ⟨ret_bool (tf_yes (by unfold winOk; omega)), below_alloc _ _⟩ | exact ⟨ret_bool (tf_no (by unfold winOk; omega)), below_alloc _ _⟩
set_option maxHeartbeats 1000000 in
theorem specWinOk_any (k s t : Int) (w : World) : Calls Try.prog 56 #[.agg #[.int .i64 k, .int .i64 s, .int .i64 t]] w fun e w' => e = .returned (.bool (tf (defOk k s t))) ∧ Below w.heap.size w w' := by
  by_cases h0 : k < 1
  · go_enter Try.func56, Try.ntmps56
    go_wp2
    go_ret
    first | exact ⟨ret_bool (tf_yes (by unfold defOk; omega)), below_alloc _ _⟩ | exact ⟨ret_bool (tf_no (by unfold defOk; omega)), below_alloc _ _⟩ | exact ⟨ret_bool ((show (t == 0) = false by simpa using ‹¬ t = 0›).trans (tf_no (by unfold defOk; omega))), below_alloc _ _⟩
  · by_cases h1 : 3 < k
    · go_enter Try.func56, Try.ntmps56
      go_wp2
      go_ret
      first | exact ⟨ret_bool (tf_yes (by unfold defOk; omega)), below_alloc _ _⟩ | exact ⟨ret_bool (tf_no (by unfold defOk; omega)), below_alloc _ _⟩ | exact ⟨ret_bool ((show (t == 0) = false by simpa using ‹¬ t = 0›).trans (tf_no (by unfold defOk; omega))), below_alloc _ _⟩
    · by_cases h2 : s < 1
      · go_enter Try.func56, Try.ntmps56
        go_wp2
        go_ret
        first | exact ⟨ret_bool (tf_yes (by unfold defOk; omega)), below_alloc _ _⟩ | exact ⟨ret_bool (tf_no (by unfold defOk; omega)), below_alloc _ _⟩ | exact ⟨ret_bool ((show (t == 0) = false by simpa using ‹¬ t = 0›).trans (tf_no (by unfold defOk; omega))), below_alloc _ _⟩
      · by_cases h3 : 100 < s
        · go_enter Try.func56, Try.ntmps56
          go_wp2
          go_ret
          first | exact ⟨ret_bool (tf_yes (by unfold defOk; omega)), below_alloc _ _⟩ | exact ⟨ret_bool (tf_no (by unfold defOk; omega)), below_alloc _ _⟩ | exact ⟨ret_bool ((show (t == 0) = false by simpa using ‹¬ t = 0›).trans (tf_no (by unfold defOk; omega))), below_alloc _ _⟩
        · by_cases h4 : k = 2
          · by_cases h5 : 1 ≤ t
            · by_cases h6 : t ≤ s
              · by_cases h7 : s ≤ 8 * t
                · go_enter Try.func56, Try.ntmps56
                  go_wp2
                  go_ret
                  first | exact ⟨ret_bool (tf_yes (by unfold defOk; omega)), below_alloc _ _⟩ | exact ⟨ret_bool (tf_no (by unfold defOk; omega)), below_alloc _ _⟩ | exact ⟨ret_bool ((show (t == 0) = false by simpa using ‹¬ t = 0›).trans (tf_no (by unfold defOk; omega))), below_alloc _ _⟩
                · go_enter Try.func56, Try.ntmps56
                  go_wp2
                  go_ret
                  first | exact ⟨ret_bool (tf_yes (by unfold defOk; omega)), below_alloc _ _⟩ | exact ⟨ret_bool (tf_no (by unfold defOk; omega)), below_alloc _ _⟩ | exact ⟨ret_bool ((show (t == 0) = false by simpa using ‹¬ t = 0›).trans (tf_no (by unfold defOk; omega))), below_alloc _ _⟩
              · go_enter Try.func56, Try.ntmps56
                go_wp2
                go_ret
                first | exact ⟨ret_bool (tf_yes (by unfold defOk; omega)), below_alloc _ _⟩ | exact ⟨ret_bool (tf_no (by unfold defOk; omega)), below_alloc _ _⟩ | exact ⟨ret_bool ((show (t == 0) = false by simpa using ‹¬ t = 0›).trans (tf_no (by unfold defOk; omega))), below_alloc _ _⟩
            · go_enter Try.func56, Try.ntmps56
              go_wp2
              go_ret
              first | exact ⟨ret_bool (tf_yes (by unfold defOk; omega)), below_alloc _ _⟩ | exact ⟨ret_bool (tf_no (by unfold defOk; omega)), below_alloc _ _⟩ | exact ⟨ret_bool ((show (t == 0) = false by simpa using ‹¬ t = 0›).trans (tf_no (by unfold defOk; omega))), below_alloc _ _⟩
          · by_cases h5 : t = 0
            · go_enter Try.func56, Try.ntmps56
              go_wp2
              go_ret
              first | exact ⟨ret_bool (tf_yes (by unfold defOk; omega)), below_alloc _ _⟩ | exact ⟨ret_bool (tf_no (by unfold defOk; omega)), below_alloc _ _⟩ | exact ⟨ret_bool ((show (t == 0) = false by simpa using ‹¬ t = 0›).trans (tf_no (by unfold defOk; omega))), below_alloc _ _⟩
            · go_enter Try.func56, Try.ntmps56
              go_wp2
              go_ret
              first | exact ⟨ret_bool (tf_yes (by unfold defOk; omega)), below_alloc _ _⟩ | exact ⟨ret_bool (tf_no (by unfold defOk; omega)), below_alloc _ _⟩ | exact ⟨ret_bool ((show (t == 0) = false by simpa using ‹¬ t = 0›).trans (tf_no (by unfold defOk; omega))), below_alloc _ _⟩
set_option maxHeartbeats 1000000 in
theorem implWinOk_any (k s t : Int) (w : World) : Calls Try.prog 99 #[.agg #[.int .i64 k, .int .i64 s, .int .i64 t]] w fun e w' => e = .returned (.bool (tf (defOk k s t))) ∧ Below w.heap.size w w' := by
  by_cases h0 : s < 1
  · go_enter Try.func99, Try.ntmps99
    go_wp2
    go_ret
    first | exact ⟨ret_bool (tf_yes (by unfold defOk; omega)), below_alloc _ _⟩ | exact ⟨ret_bool (tf_no (by unfold defOk; omega)), below_alloc _ _⟩ | exact ⟨ret_bool ((show (t == 0) = false by simpa using ‹¬ t = 0›).trans (tf_no (by unfold defOk; omega))), below_alloc _ _⟩
  · by_cases h1 : 100 < s
    · go_enter Try.func99, Try.ntmps99
      go_wp2
      go_ret
      first | exact ⟨ret_bool (tf_yes (by unfold defOk; omega)), below_alloc _ _⟩ | exact ⟨ret_bool (tf_no (by unfold defOk; omega)), below_alloc _ _⟩ | exact ⟨ret_bool ((show (t == 0) = false by simpa using ‹¬ t = 0›).trans (tf_no (by unfold defOk; omega))), below_alloc _ _⟩
    · by_cases h2 : k = 1
      · by_cases h3 : t = 0
        · go_enter Try.func99, Try.ntmps99
          go_wp2
          go_ret
          first | exact ⟨ret_bool (tf_yes (by unfold defOk; omega)), below_alloc _ _⟩ | exact ⟨ret_bool (tf_no (by unfold defOk; omega)), below_alloc _ _⟩ | exact ⟨ret_bool ((show (t == 0) = false by simpa using ‹¬ t = 0›).trans (tf_no (by unfold defOk; omega))), below_alloc _ _⟩
        · go_enter Try.func99, Try.ntmps99
          go_wp2
          go_ret
          first | exact ⟨ret_bool (tf_yes (by unfold defOk; omega)), below_alloc _ _⟩ | exact ⟨ret_bool (tf_no (by unfold defOk; omega)), below_alloc _ _⟩ | exact ⟨ret_bool ((show (t == 0) = false by simpa using ‹¬ t = 0›).trans (tf_no (by unfold defOk; omega))), below_alloc _ _⟩
      · by_cases h3 : k = 3
        · by_cases h4 : t = 0
          · go_enter Try.func99, Try.ntmps99
            go_wp2
            go_ret
            first | exact ⟨ret_bool (tf_yes (by unfold defOk; omega)), below_alloc _ _⟩ | exact ⟨ret_bool (tf_no (by unfold defOk; omega)), below_alloc _ _⟩ | exact ⟨ret_bool ((show (t == 0) = false by simpa using ‹¬ t = 0›).trans (tf_no (by unfold defOk; omega))), below_alloc _ _⟩
          · go_enter Try.func99, Try.ntmps99
            go_wp2
            go_ret
            first | exact ⟨ret_bool (tf_yes (by unfold defOk; omega)), below_alloc _ _⟩ | exact ⟨ret_bool (tf_no (by unfold defOk; omega)), below_alloc _ _⟩ | exact ⟨ret_bool ((show (t == 0) = false by simpa using ‹¬ t = 0›).trans (tf_no (by unfold defOk; omega))), below_alloc _ _⟩
        · by_cases h4 : k = 2
          · by_cases h5 : 1 ≤ t
            · by_cases h6 : t ≤ s
              · by_cases h7 : s ≤ 8 * t
                · go_enter Try.func99, Try.ntmps99
                  go_wp2
                  go_ret
                  first | exact ⟨ret_bool (tf_yes (by unfold defOk; omega)), below_alloc _ _⟩ | exact ⟨ret_bool (tf_no (by unfold defOk; omega)), below_alloc _ _⟩ | exact ⟨ret_bool ((show (t == 0) = false by simpa using ‹¬ t = 0›).trans (tf_no (by unfold defOk; omega))), below_alloc _ _⟩
                · go_enter Try.func99, Try.ntmps99
                  go_wp2
                  go_ret
                  first | exact ⟨ret_bool (tf_yes (by unfold defOk; omega)), below_alloc _ _⟩ | exact ⟨ret_bool (tf_no (by unfold defOk; omega)), below_alloc _ _⟩ | exact ⟨ret_bool ((show (t == 0) = false by simpa using ‹¬ t = 0›).trans (tf_no (by unfold defOk; omega))), below_alloc _ _⟩
              · go_enter Try.func99, Try.ntmps99
                go_wp2
                go_ret
                first | exact ⟨ret_bool (tf_yes (by unfold defOk; omega)), below_alloc _ _⟩ | exact ⟨ret_bool (tf_no (by unfold defOk; omega)), below_alloc _ _⟩ | exact ⟨ret_bool ((show (t == 0) = false by simpa using ‹¬ t = 0›).trans (tf_no (by unfold defOk; omega))), below_alloc _ _⟩
            · go_enter Try.func99, Try.ntmps99
              go_wp2
              go_ret
              first | exact ⟨ret_bool (tf_yes (by unfold defOk; omega)), below_alloc _ _⟩ | exact ⟨ret_bool (tf_no (by unfold defOk; omega)), below_alloc _ _⟩ | exact ⟨ret_bool ((show (t == 0) = false by simpa using ‹¬ t = 0›).trans (tf_no (by unfold defOk; omega))), below_alloc _ _⟩
          · go_enter Try.func99, Try.ntmps99
            go_wp2
            go_ret
            first | exact ⟨ret_bool (tf_yes (by unfold defOk; omega)), below_alloc _ _⟩ | exact ⟨ret_bool (tf_no (by unfold defOk; omega)), below_alloc _ _⟩ | exact ⟨ret_bool ((show (t == 0) = false by simpa using ‹¬ t = 0›).trans (tf_no (by unfold defOk; omega))), below_alloc _ _⟩
end Go.Proofs.Ytlmlckgnmkjkdaa

/-
  QueryOk, the model's and the program's: what they return. WRITTEN BY tools/genquery.py.
-/
namespace Go.Proofs.Ytlmlckgnmkjkdaa
open Go.RowKit

def queryOk (fs ms : List (Int × Int)) (k s t q kk : Int) : Prop := (0 ≤ depthOf fs) ∧ (0 ≤ depthOf ms) ∧ defOk k s t ∧ kindOk q kk

set_option maxHeartbeats 1000000 in
theorem queryWinOk_any (k s t : Int) (w : World) :
    Calls Try.prog 61 #[.agg #[.int .i64 k, .int .i64 s, .int .i64 t]] w fun e w' => e = .returned (.bool (tf (defOk k s t))) ∧ Below w.heap.size w w' := by
  obtain ⟨b, HB⟩ : ∃ b, Hid (tf (defOk k s t) = b) := ⟨_, Lib.hid rfl⟩
  have o1 := Own.new w 40 [.int .i64 k, .int .i64 s, .int .i64 t]
  have hb := below_alloc w (.cells #[.int .i64 k, .int .i64 s, .int .i64 t] 40)
  have c0 := o1.cell 0
  have c1 := o1.cell 1
  have c2 := o1.cell 2
  simp only [List.getElem?_cons_zero, List.getElem?_cons_succ] at c0 c1 c2
  clear o1
  have HW := Lib.hid (fun W => as_bool HB.out (implWinOk_any k s t W))
  have hr : Ending.returned (.bool (tf (defOk k s t))) = .returned (.bool b) := ret_bool HB.out
  rw [hr]
  clear hr
  by_cases h2 : k = 2
  · subst h2
    go_enter Try.func61, Try.ntmps61
    go_wp2_with fail
    refine (HW.out _).mono ?_
    rintro e w1 ⟨rfl, h1⟩
    replace hb := below_trans hb h1
    go_wp2
    go_ret
    exact ⟨rfl, hb⟩
  · have t2 : (k == 2) = false := by simpa using h2
    by_cases h13 : k = 1 ∨ k = 3
    · by_cases ht : t = 0
      · subst ht
        rcases h13 with rfl | rfl
        · clear t2 h2
          go_enter Try.func61, Try.ntmps61
          go_wp2_with fail
          refine (HW.out _).mono ?_
          rintro e w1 ⟨rfl, h1⟩
          replace hb := below_trans hb h1
          go_wp2
          go_ret
          exact ⟨rfl, hb⟩
        · clear t2 h2
          go_enter Try.func61, Try.ntmps61
          go_wp2_with fail
          refine (HW.out _).mono ?_
          rintro e w1 ⟨rfl, h1⟩
          replace hb := below_trans hb h1
          go_wp2
          go_ret
          exact ⟨rfl, hb⟩
      · have t3 : (t != 0) = true := by simpa using ht
        have HF := Lib.hid (tf_no (show ¬ defOk k s t from fun h => by unfold defOk at h; omega))
        clear ht
        rcases h13 with rfl | rfl
        · clear t2 h2
          go_enter Try.func61, Try.ntmps61
          go_wp2
          go_ret
          exact ⟨ret_bool (HF.out.trans HB.out), hb⟩
        · clear t2 h2
          go_enter Try.func61, Try.ntmps61
          go_wp2
          go_ret
          exact ⟨ret_bool (HF.out.trans HB.out), hb⟩
    · have t1 : (k == 1) = false := by simp; omega
      have t4 : (k == 3) = false := by simp; omega
      have HF := Lib.hid (tf_no (show ¬ defOk k s t from fun h => by unfold defOk at h; omega))
      clear h2 h13
      go_enter Try.func61, Try.ntmps61
      go_wp2
      go_ret
      exact ⟨ret_bool (HF.out.trans HB.out), hb⟩

set_option maxHeartbeats 4000000 in
theorem specQueryOk_any (k s t q kk : Int) (F : Option Addr) (n cf : Nat) (fs : List (Int × Int)) (M : Option Addr) (m cm : Nat) (ms : List (Int × Int)) (w : World)
    (hF : Rd w F (ez fs)) (hz : fs.length = n) (hn : n ≤ 1048576) (hM : Rd w M (ez ms)) (hy : ms.length = m) (hm : m ≤ 1048576) :
    Calls Try.prog 17 #[qv (.slice F n cf) (.slice M m cm) k s t q kk] w fun e w' => e = .returned (.bool (tf (queryOk fs ms k s t q kk))) ∧ Below w.heap.size w w' := by
  have HF := Lib.hid (fun W (h : Below w.heap.size w W) => specExprOk_any F cf fs W (hF.below h) (by rw [hz]; omega))
  have HM := Lib.hid (fun W (h : Below w.heap.size w W) => specExprOk_any M cm ms W (hM.below h) (by rw [hy]; omega))
  rw [hz] at HF
  rw [hy] at HM
  clear hF hM hz hy
  have o1 := Own.new w 42 (qc (.slice F n cf) (.slice M m cm) k s t q kk)
  have hb := below_alloc w (.cells (qc (.slice F n cf) (.slice M m cm) k s t q kk).toArray 42)
  obtain ⟨a0, a1, a2, a3, a4, a5, a6⟩ := o1.seven
  by_cases h0 : 0 ≤ depthOf fs
  · have H0 := Lib.hid (decide_eq_true h0)
    by_cases h1 : 0 ≤ depthOf ms
    · have H1 := Lib.hid (decide_eq_true h1)
      by_cases h2 : defOk k s t
      · have H2 := Lib.hid ((tf_yes h2).symm)
        by_cases h3 : kindOk q kk
        · have H3 := Lib.hid ((tf_yes h3).symm)
          have H := Lib.hid (show queryOk fs ms k s t q kk from ⟨h0, h1, h2, h3⟩)
          clear h0 h1 h2 h3
          go_enter Try.func17, Try.ntmps17
          go_wp2_with fail
          refine (as_bool (R := fun w' => _ = w') H0.out (HF.out _ hb)).mono ?_
          rintro e _ ⟨rfl, rfl⟩
          go_wp2_with fail
          refine (as_bool (R := fun w' => _ = w') H1.out (HM.out _ hb)).mono ?_
          rintro e _ ⟨rfl, rfl⟩
          go_wp2_with fail
          refine (as_bool H2.out (specWinOk_any k s t _)).mono ?_
          clear a0 a1 a2 a3 a4 a5 a6
          rintro e w3 ⟨rfl, hb1⟩
          replace o1 := o1.grow hb1
          replace hb := below_trans hb hb1
          clear hb1
          obtain ⟨a0, a1, a2, a3, a4, a5, a6⟩ := o1.seven
          go_wp2_with fail
          refine (as_bool (R := fun w' => _ = w') H3.out (specAggKind_any q kk _)).mono ?_
          rintro e _ ⟨rfl, rfl⟩
          go_wp2
          go_ret
          exact ⟨ret_bool (tf_yes H.out), hb⟩
        · have H3 := Lib.hid ((tf_no h3).symm)
          have H := Lib.hid (show ¬ queryOk fs ms k s t q kk from fun h => h3 h.2.2.2)
          clear h0 h1 h2 h3
          go_enter Try.func17, Try.ntmps17
          go_wp2_with fail
          refine (as_bool (R := fun w' => _ = w') H0.out (HF.out _ hb)).mono ?_
          rintro e _ ⟨rfl, rfl⟩
          go_wp2_with fail
          refine (as_bool (R := fun w' => _ = w') H1.out (HM.out _ hb)).mono ?_
          rintro e _ ⟨rfl, rfl⟩
          go_wp2_with fail
          refine (as_bool H2.out (specWinOk_any k s t _)).mono ?_
          clear a0 a1 a2 a3 a4 a5 a6
          rintro e w3 ⟨rfl, hb1⟩
          replace o1 := o1.grow hb1
          replace hb := below_trans hb hb1
          clear hb1
          obtain ⟨a0, a1, a2, a3, a4, a5, a6⟩ := o1.seven
          go_wp2_with fail
          refine (as_bool (R := fun w' => _ = w') H3.out (specAggKind_any q kk _)).mono ?_
          rintro e _ ⟨rfl, rfl⟩
          go_wp2
          go_ret
          exact ⟨ret_bool (tf_no H.out), hb⟩
      · have H2 := Lib.hid ((tf_no h2).symm)
        have H := Lib.hid (show ¬ queryOk fs ms k s t q kk from fun h => h2 h.2.2.1)
        clear h0 h1 h2
        go_enter Try.func17, Try.ntmps17
        go_wp2_with fail
        refine (as_bool (R := fun w' => _ = w') H0.out (HF.out _ hb)).mono ?_
        rintro e _ ⟨rfl, rfl⟩
        go_wp2_with fail
        refine (as_bool (R := fun w' => _ = w') H1.out (HM.out _ hb)).mono ?_
        rintro e _ ⟨rfl, rfl⟩
        go_wp2_with fail
        refine (as_bool H2.out (specWinOk_any k s t _)).mono ?_
        clear a0 a1 a2 a3 a4 a5 a6
        rintro e w3 ⟨rfl, hb1⟩
        replace o1 := o1.grow hb1
        replace hb := below_trans hb hb1
        clear hb1
        obtain ⟨a0, a1, a2, a3, a4, a5, a6⟩ := o1.seven
        go_wp2
        go_ret
        exact ⟨ret_bool (tf_no H.out), hb⟩
    · have H1 := Lib.hid (decide_eq_false h1)
      have H := Lib.hid (show ¬ queryOk fs ms k s t q kk from fun h => h1 h.2.1)
      clear h0 h1
      go_enter Try.func17, Try.ntmps17
      go_wp2_with fail
      refine (as_bool (R := fun w' => _ = w') H0.out (HF.out _ hb)).mono ?_
      rintro e _ ⟨rfl, rfl⟩
      go_wp2_with fail
      refine (as_bool (R := fun w' => _ = w') H1.out (HM.out _ hb)).mono ?_
      rintro e _ ⟨rfl, rfl⟩
      go_wp2
      go_ret
      exact ⟨ret_bool (tf_no H.out), hb⟩
  · have H0 := Lib.hid (decide_eq_false h0)
    have H := Lib.hid (show ¬ queryOk fs ms k s t q kk from fun h => h0 h.1)
    clear h0
    go_enter Try.func17, Try.ntmps17
    go_wp2_with fail
    refine (as_bool (R := fun w' => _ = w') H0.out (HF.out _ hb)).mono ?_
    rintro e _ ⟨rfl, rfl⟩
    go_wp2
    go_ret
    exact ⟨ret_bool (tf_no H.out), hb⟩

set_option maxHeartbeats 4000000 in
theorem implQueryOk_any (k s t q kk : Int) (F : Option Addr) (n cf : Nat) (fs : List (Int × Int)) (M : Option Addr) (m cm : Nat) (ms : List (Int × Int)) (w : World)
    (hF : Rd w F (ez fs)) (hz : fs.length = n) (hn : n ≤ 1048576) (hM : Rd w M (ez ms)) (hy : ms.length = m) (hm : m ≤ 1048576) :
    Calls Try.prog 19 #[qv (.slice F n cf) (.slice M m cm) k s t q kk] w fun e w' => e = .returned (.bool (tf (queryOk fs ms k s t q kk))) ∧ Below w.heap.size w w' := by
  have HF := Lib.hid (fun W (h : Below w.heap.size w W) => implExprOk_any F cf fs W (hF.below h) (by rw [hz]; omega))
  have HM := Lib.hid (fun W (h : Below w.heap.size w W) => implExprOk_any M cm ms W (hM.below h) (by rw [hy]; omega))
  rw [hz] at HF
  rw [hy] at HM
  clear hF hM hz hy
  have o1 := Own.new w 42 (qc (.slice F n cf) (.slice M m cm) k s t q kk)
  have hb := below_alloc w (.cells (qc (.slice F n cf) (.slice M m cm) k s t q kk).toArray 42)
  obtain ⟨a0, a1, a2, a3, a4, a5, a6⟩ := o1.seven
  by_cases h0 : 0 ≤ depthOf fs
  · have H0 := Lib.hid (decide_eq_true h0)
    by_cases h1 : 0 ≤ depthOf ms
    · have H1 := Lib.hid (decide_eq_true h1)
      by_cases h2 : defOk k s t
      · have H2 := Lib.hid ((tf_yes h2).symm)
        by_cases h3 : kindOk q kk
        · have H3 := Lib.hid ((tf_yes h3).symm)
          have H := Lib.hid (show queryOk fs ms k s t q kk from ⟨h0, h1, h2, h3⟩)
          clear h0 h1 h2 h3
          go_enter Try.func19, Try.ntmps19
          go_wp2_with fail
          refine (as_bool H0.out (HF.out _ hb)).mono ?_
          clear a0 a1 a2 a3 a4 a5 a6
          rintro e w1 ⟨rfl, hb1⟩
          replace o1 := o1.grow hb1
          replace hb := below_trans hb hb1
          clear hb1
          obtain ⟨a0, a1, a2, a3, a4, a5, a6⟩ := o1.seven
          go_wp2_with fail
          refine (as_bool H1.out (HM.out _ hb)).mono ?_
          clear a0 a1 a2 a3 a4 a5 a6
          rintro e w2 ⟨rfl, hb1⟩
          replace o1 := o1.grow hb1
          replace hb := below_trans hb hb1
          clear hb1
          obtain ⟨a0, a1, a2, a3, a4, a5, a6⟩ := o1.seven
          go_wp2_with fail
          refine (as_bool H2.out (queryWinOk_any k s t _)).mono ?_
          clear a0 a1 a2 a3 a4 a5 a6
          rintro e w3 ⟨rfl, hb1⟩
          replace o1 := o1.grow hb1
          replace hb := below_trans hb hb1
          clear hb1
          obtain ⟨a0, a1, a2, a3, a4, a5, a6⟩ := o1.seven
          go_wp2_with fail
          refine (as_bool (R := fun w' => _ = w') H3.out (implAggKind_any q kk _)).mono ?_
          rintro e _ ⟨rfl, rfl⟩
          go_wp2
          go_ret
          exact ⟨ret_bool (tf_yes H.out), hb⟩
        · have H3 := Lib.hid ((tf_no h3).symm)
          have H := Lib.hid (show ¬ queryOk fs ms k s t q kk from fun h => h3 h.2.2.2)
          clear h0 h1 h2 h3
          go_enter Try.func19, Try.ntmps19
          go_wp2_with fail
          refine (as_bool H0.out (HF.out _ hb)).mono ?_
          clear a0 a1 a2 a3 a4 a5 a6
          rintro e w1 ⟨rfl, hb1⟩
          replace o1 := o1.grow hb1
          replace hb := below_trans hb hb1
          clear hb1
          obtain ⟨a0, a1, a2, a3, a4, a5, a6⟩ := o1.seven
          go_wp2_with fail
          refine (as_bool H1.out (HM.out _ hb)).mono ?_
          clear a0 a1 a2 a3 a4 a5 a6
          rintro e w2 ⟨rfl, hb1⟩
          replace o1 := o1.grow hb1
          replace hb := below_trans hb hb1
          clear hb1
          obtain ⟨a0, a1, a2, a3, a4, a5, a6⟩ := o1.seven
          go_wp2_with fail
          refine (as_bool H2.out (queryWinOk_any k s t _)).mono ?_
          clear a0 a1 a2 a3 a4 a5 a6
          rintro e w3 ⟨rfl, hb1⟩
          replace o1 := o1.grow hb1
          replace hb := below_trans hb hb1
          clear hb1
          obtain ⟨a0, a1, a2, a3, a4, a5, a6⟩ := o1.seven
          go_wp2_with fail
          refine (as_bool (R := fun w' => _ = w') H3.out (implAggKind_any q kk _)).mono ?_
          rintro e _ ⟨rfl, rfl⟩
          go_wp2
          go_ret
          exact ⟨ret_bool (tf_no H.out), hb⟩
      · have H2 := Lib.hid ((tf_no h2).symm)
        have H := Lib.hid (show ¬ queryOk fs ms k s t q kk from fun h => h2 h.2.2.1)
        clear h0 h1 h2
        go_enter Try.func19, Try.ntmps19
        go_wp2_with fail
        refine (as_bool H0.out (HF.out _ hb)).mono ?_
        clear a0 a1 a2 a3 a4 a5 a6
        rintro e w1 ⟨rfl, hb1⟩
        replace o1 := o1.grow hb1
        replace hb := below_trans hb hb1
        clear hb1
        obtain ⟨a0, a1, a2, a3, a4, a5, a6⟩ := o1.seven
        go_wp2_with fail
        refine (as_bool H1.out (HM.out _ hb)).mono ?_
        clear a0 a1 a2 a3 a4 a5 a6
        rintro e w2 ⟨rfl, hb1⟩
        replace o1 := o1.grow hb1
        replace hb := below_trans hb hb1
        clear hb1
        obtain ⟨a0, a1, a2, a3, a4, a5, a6⟩ := o1.seven
        go_wp2_with fail
        refine (as_bool H2.out (queryWinOk_any k s t _)).mono ?_
        clear a0 a1 a2 a3 a4 a5 a6
        rintro e w3 ⟨rfl, hb1⟩
        replace o1 := o1.grow hb1
        replace hb := below_trans hb hb1
        clear hb1
        obtain ⟨a0, a1, a2, a3, a4, a5, a6⟩ := o1.seven
        go_wp2
        go_ret
        exact ⟨ret_bool (tf_no H.out), hb⟩
    · have H1 := Lib.hid (decide_eq_false h1)
      have H := Lib.hid (show ¬ queryOk fs ms k s t q kk from fun h => h1 h.2.1)
      clear h0 h1
      go_enter Try.func19, Try.ntmps19
      go_wp2_with fail
      refine (as_bool H0.out (HF.out _ hb)).mono ?_
      clear a0 a1 a2 a3 a4 a5 a6
      rintro e w1 ⟨rfl, hb1⟩
      replace o1 := o1.grow hb1
      replace hb := below_trans hb hb1
      clear hb1
      obtain ⟨a0, a1, a2, a3, a4, a5, a6⟩ := o1.seven
      go_wp2_with fail
      refine (as_bool H1.out (HM.out _ hb)).mono ?_
      clear a0 a1 a2 a3 a4 a5 a6
      rintro e w2 ⟨rfl, hb1⟩
      replace o1 := o1.grow hb1
      replace hb := below_trans hb hb1
      clear hb1
      obtain ⟨a0, a1, a2, a3, a4, a5, a6⟩ := o1.seven
      go_wp2
      go_ret
      exact ⟨ret_bool (tf_no H.out), hb⟩
  · have H0 := Lib.hid (decide_eq_false h0)
    have H := Lib.hid (show ¬ queryOk fs ms k s t q kk from fun h => h0 h.1)
    clear h0
    go_enter Try.func19, Try.ntmps19
    go_wp2_with fail
    refine (as_bool H0.out (HF.out _ hb)).mono ?_
    clear a0 a1 a2 a3 a4 a5 a6
    rintro e w1 ⟨rfl, hb1⟩
    replace o1 := o1.grow hb1
    replace hb := below_trans hb hb1
    clear hb1
    obtain ⟨a0, a1, a2, a3, a4, a5, a6⟩ := o1.seven
    go_wp2
    go_ret
    exact ⟨ret_bool (tf_no H.out), hb⟩
end Go.Proofs.Ytlmlckgnmkjkdaa

/-
  Sources and keys: the small functions of the model and of the program.
-/
namespace Go.Proofs.Ytlmlckgnmkjkdaa
open Go.RowKit

set_option maxHeartbeats 400000 in
theorem l04Src_any (a : Int) (w : World) :
    Calls Try.prog 65 #[.int .i64 a] w fun e w' => e = .returned (.bool (decide (0 ≤ a) && decide (a < 4))) ∧ w = w' := by
  go_enter Try.func65, Try.ntmps65
  go_wp2
  all_goals (go_ret; refine ⟨ret_bool ?_, rfl⟩; simp [*]; try omega)
set_option maxHeartbeats 400000 in
theorem l04Key_any (a : Int) (w : World) :
    Calls Try.prog 66 #[.int .i64 a] w fun e w' => e = .returned (.bool (decide (0 ≤ a) && decide (a ≤ 15))) ∧ w = w' := by
  go_enter Try.func66, Try.ntmps66
  go_wp2
  all_goals (go_ret; refine ⟨ret_bool ?_, rfl⟩; simp [*]; try omega)
theorem l04Src_is {a : Int} {b : Bool} (h : decide (0 ≤ a ∧ a < 4) = b) (w : World) : Calls Try.prog 65 #[.int .i64 a] w fun e w' => e = .returned (.bool b) ∧ w = w' :=
  as_bool (R := fun w' => w = w') (by rw [← h]; simp) (l04Src_any a w)
theorem l04Key_is {a : Int} {b : Bool} (h : decide (0 ≤ a ∧ a ≤ 15) = b) (w : World) : Calls Try.prog 66 #[.int .i64 a] w fun e w' => e = .returned (.bool b) ∧ w = w' :=
  as_bool (R := fun w' => w = w') (by rw [← h]; simp) (l04Key_any a w)
set_option maxHeartbeats 400000 in
theorem isSource_any (a : Int) (w : World) :
    Calls Try.prog 68 #[.int .i64 a] w fun e w' => e = .returned (.bool (decide (0 ≤ a) && decide (a < 4))) ∧ w = w' := by
  go_enter Try.func68, Try.ntmps68
  go_wp2
  all_goals (go_ret; refine ⟨ret_bool ?_, rfl⟩; simp [*]; try omega)
set_option maxHeartbeats 400000 in
theorem isKey_any (a : Int) (w : World) :
    Calls Try.prog 69 #[.int .i64 a] w fun e w' => e = .returned (.bool (decide (0 ≤ a) && decide (a ≤ 15))) ∧ w = w' := by
  go_enter Try.func69, Try.ntmps69
  go_wp2
  all_goals (go_ret; refine ⟨ret_bool ?_, rfl⟩; simp [*]; try omega)
theorem isSource_is {a : Int} {b : Bool} (h : decide (0 ≤ a ∧ a < 4) = b) (w : World) : Calls Try.prog 68 #[.int .i64 a] w fun e w' => e = .returned (.bool b) ∧ w = w' :=
  as_bool (R := fun w' => w = w') (by rw [← h]; simp) (isSource_any a w)
theorem isKey_is {a : Int} {b : Bool} (h : decide (0 ≤ a ∧ a ≤ 15) = b) (w : World) : Calls Try.prog 69 #[.int .i64 a] w fun e w' => e = .returned (.bool b) ∧ w = w' :=
  as_bool (R := fun w' => w = w') (by rw [← h]; simp) (isKey_any a w)
end Go.Proofs.Ytlmlckgnmkjkdaa

/-
  ElemOk, the model's and the program's: what they return. WRITTEN BY tools/genpane.py.
-/
namespace Go.Proofs.Ytlmlckgnmkjkdaa
open Go.RowKit

theorem Own.fourth {w : World} {g : Nat} {t : TypeId} {c0 c1 c2 c3 : Value} (h : Own w g t [c0, c1, c2, c3]) : w.cell? ⟨g, 0, none⟩ = some c0 ∧ w.cell? ⟨g, 1, none⟩ = some c1 ∧ w.cell? ⟨g, 2, none⟩ = some c2 ∧ w.cell? ⟨g, 3, none⟩ = some c3 :=
  ⟨h.cell 0, h.cell 1, h.cell 2, h.cell 3⟩
def elemOk (s k t : Int) : Prop := (0 ≤ s ∧ s < 4) ∧ (0 ≤ k ∧ k ≤ 15) ∧ isT t
abbrev elv (s k v t : Int) : Value := .agg #[.int .i64 s, .int .i64 k, .int .i64 v, .int .i64 t]

set_option maxHeartbeats 1000000 in
theorem specElemOk_any (s k v t : Int) (w : World) :
    Calls Try.prog 21 #[elv s k v t] w fun e w' => e = .returned (.bool (tf (elemOk s k t))) ∧ Below w.heap.size w w' := by
  have o1 := Own.new w 49 [.int .i64 s, .int .i64 k, .int .i64 v, .int .i64 t]
  have hb := below_alloc w (.cells #[.int .i64 s, .int .i64 k, .int .i64 v, .int .i64 t] 49)
  obtain ⟨c0, c1, c2, c3⟩ := o1.fourth
  clear o1
  by_cases h1 : 0 ≤ s ∧ s < 4
  · have H1 := Lib.hid (decide_eq_true h1)
    by_cases h2 : 0 ≤ k ∧ k ≤ 15
    · have H2 := Lib.hid (decide_eq_true h2)
      by_cases h3 : isT t
      · have H3 := Lib.hid (tf_yes h3).symm
        have H := Lib.hid (show elemOk s k t from ⟨h1, h2, h3⟩)
        clear h1 h2 h3
        go_enter Try.func21, Try.ntmps21
        go_wp2_with (first | (go_at_call 65; refine (l04Src_is H1.out _).mono ?_; rintro e w' ⟨rfl, rfl⟩) | (go_at_call 66; refine (l04Key_is H2.out _).mono ?_; rintro e w' ⟨rfl, rfl⟩) | (go_at_call 67; refine (as_bool (R := fun w' => _ = w') H3.out (l05Time_any t _)).mono ?_; rintro e w' ⟨rfl, rfl⟩))
        go_ret
        exact ⟨ret_bool (tf_yes H.out), hb⟩
      · have H3 := Lib.hid (tf_no h3).symm
        have H := Lib.hid (show ¬ elemOk s k t from fun h => h3 h.2.2)
        clear h1 h2 h3
        go_enter Try.func21, Try.ntmps21
        go_wp2_with (first | (go_at_call 65; refine (l04Src_is H1.out _).mono ?_; rintro e w' ⟨rfl, rfl⟩) | (go_at_call 66; refine (l04Key_is H2.out _).mono ?_; rintro e w' ⟨rfl, rfl⟩) | (go_at_call 67; refine (as_bool (R := fun w' => _ = w') H3.out (l05Time_any t _)).mono ?_; rintro e w' ⟨rfl, rfl⟩))
        go_ret
        exact ⟨ret_bool (tf_no H.out), hb⟩
    · have H2 := Lib.hid (decide_eq_false h2)
      have H := Lib.hid (show ¬ elemOk s k t from fun h => h2 h.2.1)
      clear h1 h2
      go_enter Try.func21, Try.ntmps21
      go_wp2_with (first | (go_at_call 65; refine (l04Src_is H1.out _).mono ?_; rintro e w' ⟨rfl, rfl⟩) | (go_at_call 66; refine (l04Key_is H2.out _).mono ?_; rintro e w' ⟨rfl, rfl⟩))
      go_ret
      exact ⟨ret_bool (tf_no H.out), hb⟩
  · have H1 := Lib.hid (decide_eq_false h1)
    have H := Lib.hid (show ¬ elemOk s k t from fun h => h1 h.1)
    clear h1
    go_enter Try.func21, Try.ntmps21
    go_wp2_with (go_at_call 65; refine (l04Src_is H1.out _).mono ?_; rintro e w' ⟨rfl, rfl⟩)
    go_ret
    exact ⟨ret_bool (tf_no H.out), hb⟩

set_option maxHeartbeats 1000000 in
theorem implElemOk_any (s k v t : Int) (w : World) :
    Calls Try.prog 23 #[elv s k v t] w fun e w' => e = .returned (.bool (tf (elemOk s k t))) ∧ Below w.heap.size w w' := by
  have o1 := Own.new w 49 [.int .i64 s, .int .i64 k, .int .i64 v, .int .i64 t]
  have hb := below_alloc w (.cells #[.int .i64 s, .int .i64 k, .int .i64 v, .int .i64 t] 49)
  obtain ⟨c0, c1, c2, c3⟩ := o1.fourth
  clear o1
  by_cases h1 : 0 ≤ s ∧ s < 4
  · have H1 := Lib.hid (decide_eq_true h1)
    by_cases h2 : 0 ≤ k ∧ k ≤ 15
    · have H2 := Lib.hid (decide_eq_true h2)
      by_cases h3 : isT t
      · have H3 := Lib.hid (tf_yes h3).symm
        have H := Lib.hid (show elemOk s k t from ⟨h1, h2, h3⟩)
        clear h1 h2 h3
        go_enter Try.func23, Try.ntmps23
        go_wp2_with (first | (go_at_call 68; refine (isSource_is H1.out _).mono ?_; rintro e w' ⟨rfl, rfl⟩) | (go_at_call 69; refine (isKey_is H2.out _).mono ?_; rintro e w' ⟨rfl, rfl⟩) | (go_at_call 70; refine (as_bool (R := fun w' => _ = w') H3.out (isTime_any t _)).mono ?_; rintro e w' ⟨rfl, rfl⟩))
        go_ret
        exact ⟨ret_bool (tf_yes H.out), hb⟩
      · have H3 := Lib.hid (tf_no h3).symm
        have H := Lib.hid (show ¬ elemOk s k t from fun h => h3 h.2.2)
        clear h1 h2 h3
        go_enter Try.func23, Try.ntmps23
        go_wp2_with (first | (go_at_call 68; refine (isSource_is H1.out _).mono ?_; rintro e w' ⟨rfl, rfl⟩) | (go_at_call 69; refine (isKey_is H2.out _).mono ?_; rintro e w' ⟨rfl, rfl⟩) | (go_at_call 70; refine (as_bool (R := fun w' => _ = w') H3.out (isTime_any t _)).mono ?_; rintro e w' ⟨rfl, rfl⟩))
        go_ret
        exact ⟨ret_bool (tf_no H.out), hb⟩
    · have H2 := Lib.hid (decide_eq_false h2)
      have H := Lib.hid (show ¬ elemOk s k t from fun h => h2 h.2.1)
      clear h1 h2
      go_enter Try.func23, Try.ntmps23
      go_wp2_with (first | (go_at_call 68; refine (isSource_is H1.out _).mono ?_; rintro e w' ⟨rfl, rfl⟩) | (go_at_call 69; refine (isKey_is H2.out _).mono ?_; rintro e w' ⟨rfl, rfl⟩))
      go_ret
      exact ⟨ret_bool (tf_no H.out), hb⟩
  · have H1 := Lib.hid (decide_eq_false h1)
    have H := Lib.hid (show ¬ elemOk s k t from fun h => h1 h.1)
    clear h1
    go_enter Try.func23, Try.ntmps23
    go_wp2_with (go_at_call 68; refine (isSource_is H1.out _).mono ?_; rintro e w' ⟨rfl, rfl⟩)
    go_ret
    exact ⟨ret_bool (tf_no H.out), hb⟩
end Go.Proofs.Ytlmlckgnmkjkdaa

/-
  SessOk, the model's and the program's: what they return.
-/
namespace Go.Proofs.Ytlmlckgnmkjkdaa
open Go.RowKit

theorem l06Win_is {a b : Int} {B : Bool} (h : tf (winOk (a, b)) = B) (w : World) :
    Calls Try.prog 72 #[.agg #[.int .i64 a, .int .i64 b]] w fun e w' => e = .returned (.bool B) ∧ Below w.heap.size w w' := as_bool h (l06Win_any a b w)
theorem isWin_is {a b : Int} {B : Bool} (h : tf (winOk (a, b)) = B) (w : World) :
    Calls Try.prog 75 #[.agg #[.int .i64 a, .int .i64 b]] w fun e w' => e = .returned (.bool B) ∧ Below w.heap.size w w' := as_bool h (isWin_any a b w)
/-- the cells of window k, in every world grown from wr -/
theorem win_cells {w wr : World} {A : Option Addr} {ws : List Wn} (h : Rd w A (ez ws)) (hbel : Below w.heap.size w wr) {k : Nat} (hk : k < ws.length) :
    ∃ b off, A = some ⟨b, off, none⟩ ∧ (∀ u : Bel wr, u.w.cell? ⟨b, off + k * 2, none⟩ = some (.int .i64 (wat ws k).1)) ∧ (∀ u : Bel wr, u.w.cell? ⟨b, off + k * 2 + 1, none⟩ = some (.int .i64 (wat ws k).2)) := by
  obtain ⟨b, off, rfl, hc⟩ := h.edge hk
  exact ⟨b, off, rfl, fun u => (hc _ (below_trans hbel u.ok)).1, fun u => (hc _ (below_trans hbel u.ok)).2⟩
theorem box_win {wr : World} {a b : Int} {t : TypeId} (u : Bel (wr.alloc (.cells #[.int .i64 a, .int .i64 b] t))) : u.w.cell? ⟨wr.heap.size, 0, none⟩ = some (.int .i64 a) ∧ u.w.cell? ⟨wr.heap.size, 1, none⟩ = some (.int .i64 b) :=
  ((Own.new wr t [.int .i64 a, .int .i64 b]).grow u.ok).two

end Go.Proofs.Ytlmlckgnmkjkdaa

/-
  What the small functions of the lattice layer return: bits, labels, equality of rows.
-/
namespace Go.Proofs.Ytlmlckgnmkjkdaa
open Go.RowKit

theorem bit_of (x a : Nat) (hx : x < 18446744073709551616) : (bits .and .u64 ((x : Int) / 2 ^ a) 1 == 1) = x.testBit a := by
  have e1 : ((x : Int) / 2 ^ a) = ((x / 2 ^ a : Nat) : Int) := by
    rw [Int.natCast_ediv]; simp
  have hlt : x / 2 ^ a < 18446744073709551616 := Nat.lt_of_le_of_lt (Nat.div_le_self _ _) hx
  have e2 : bits .and .u64 ((x / 2 ^ a : Nat) : Int) ((1 : Nat) : Int) = ((x / 2 ^ a &&& 1 : Nat) : Int) := u64_and_nat _ _ hlt (by omega)
  rw [e1]
  rw [show (1 : Int) = ((1 : Nat) : Int) from rfl, e2, Nat.testBit, Nat.shiftRight_eq_div_pow, Nat.and_one_is_mod, Nat.one_and_eq_mod_two]
  rcases Nat.mod_two_eq_zero_or_one (x / 2 ^ a) with h | h <;> rw [h] <;> decide

theorem pow_wrap (a : Nat) (ha : a < 64) : IntKind.u64.wrap (2 ^ a) = ((2 ^ a : Nat) : Int) := by
  have h : 2 ^ a < 2 ^ 64 := Nat.pow_lt_pow_right (by omega) ha
  rw [show ((2 : Int) ^ a) = ((2 ^ a : Nat) : Int) by simp]
  generalize 2 ^ a = n at *
  simp only [IntKind.wrap, IntKind.bits, IntKind.signed]
  simp
  omega

set_option maxHeartbeats 400000 in
theorem isLabel_any (n a : Int) (w : World) :
    Calls Try.prog 76 #[.int .i64 n, .int .i64 a] w fun e w' => e = .returned (.bool (decide (0 ≤ a) && decide (a < n))) ∧ w = w' := by
  go_enter Try.func76, Try.ntmps76
  go_wp2
  all_goals (go_ret; refine ⟨ret_bool ?_, rfl⟩; simp [*]; try omega)

theorem sub_wrap (m : Nat) (h0 : 0 < m) (h : m < 18446744073709551616) : IntKind.u64.wrap ((m : Int) - 1) = ((m - 1 : Nat) : Int) := by
  simp only [IntKind.wrap, IntKind.bits, IntKind.signed]
  simp
  omega

end Go.Proofs.Ytlmlckgnmkjkdaa

/-
  PaneOk, the model's and the program's: what they return. WRITTEN BY tools/genpane.py.
-/
namespace Go.Proofs.Ytlmlckgnmkjkdaa
open Go.RowKit

def paneOk (q k f t l n : Int) (m : Nat) (o : Bool) : Prop := (0 ≤ q ∧ q < 4) ∧ (0 ≤ k ∧ k ≤ 15) ∧ winOk (f, t) ∧ (0 ≤ l ∧ l < 16) ∧ (1 ≤ n ∧ n ≤ 1000000) ∧ m ≤ 4 ∧ o = decide (m = 0)
theorem isLabel_dec {a : Int} {b : Bool} (h : decide (0 ≤ a ∧ a < 16) = b) (w : World) : Calls Try.prog 76 #[.int .i64 16, .int .i64 a] w fun e w' => e = .returned (.bool b) ∧ w = w' :=
  as_bool (R := fun w' => w = w') (by rw [← h]; simp) (isLabel_any 16 a w)
set_option maxHeartbeats 400000 in
theorem isQuery_any (a : Int) (w : World) :
    Calls Try.prog 74 #[.int .i64 a] w fun e w' => e = .returned (.bool (decide (0 ≤ a) && decide (a < 4))) ∧ w = w' := by
  go_enter Try.func74, Try.ntmps74
  go_wp2
  all_goals (go_ret; refine ⟨ret_bool ?_, rfl⟩; simp [*]; try omega)
theorem isQuery_is {a : Int} {b : Bool} (h : decide (0 ≤ a ∧ a < 4) = b) (w : World) : Calls Try.prog 74 #[.int .i64 a] w fun e w' => e = .returned (.bool b) ∧ w = w' :=
  as_bool (R := fun w' => w = w') (by rw [← h]; simp) (isQuery_any a w)

set_option maxHeartbeats 4000000 in
theorem specPaneOk_any (q k f t l n : Int) (A : Option Addr) (m c : Nat) (o : Bool) (w : World) (hm : m ≤ 9223372036854775807) :
    Calls Try.prog 25 #[pav q k f t l n (.slice A m c) o] w fun e w' => e = .returned (.bool (tf (paneOk q k f t l n m o))) ∧ Below w.heap.size w w' := by
  have o1 := Own.new w 31 (pac q k f t l n (.slice A m c) o)
  have hb := below_alloc w (.cells (pac q k f t l n (.slice A m c) o).toArray 31)
  obtain ⟨a0, a1, a2, a3, a4, a5, a6, a7⟩ := o1.eight
  have HM := Lib.hid hm
  clear hm
  by_cases h0 : 0 ≤ q
  · skip
    by_cases h1 : q < 4
    · skip
      by_cases h2 : 0 ≤ k ∧ k ≤ 15
      · have H2 := Lib.hid (decide_eq_true h2)
        by_cases h3 : winOk (f, t)
        · have H3 := Lib.hid ((tf_yes h3).symm)
          by_cases h4 : 0 ≤ l
          · skip
            by_cases h5 : l < 16
            · skip
              by_cases h6 : 1 ≤ n
              · skip
                by_cases h7 : n ≤ 1000000
                · skip
                  by_cases h8 : m ≤ 4
                  · skip
                    have HP := Lib.hid (And.intro (show (0 ≤ q ∧ q < 4) ∧ (0 ≤ k ∧ k ≤ 15) from by omega) (And.intro h3 (show (0 ≤ l ∧ l < 16) ∧ (1 ≤ n ∧ n ≤ 1000000) ∧ m ≤ 4 from by omega)))
                    clear h2 h3
                    by_cases e0 : m = 0
                    · subst e0
                      cases o with
                      | true =>
                        have H := Lib.hid (show paneOk q k f t l n 0 true from ⟨HP.out.1.1, HP.out.1.2, HP.out.2.1, HP.out.2.2.1, HP.out.2.2.2.1, HP.out.2.2.2.2, rfl⟩)
                        clear HP
                        go_enter Try.func25, Try.ntmps25
                        go_wp2_with (first | (go_at_call 66; refine (l04Key_is H2.out _).mono ?_; rintro e w' ⟨rfl, rfl⟩))
                        refine (l06Win_is H3.out _).mono ?_
                        clear a0 a1 a2 a3 a4 a5 a6 a7
                        rintro e w1 ⟨rfl, hb1⟩
                        replace hb := below_trans hb hb1
                        obtain ⟨a0, a1, a2, a3, a4, a5, a6, a7⟩ := (o1.grow hb1).eight
                        clear o1
                        go_wp2
                        go_ret
                        exact ⟨ret_bool (tf_yes H.out), hb⟩
                      | false =>
                        have H := Lib.hid (show ¬ paneOk q k f t l n 0 false from fun h => by have := h.2.2.2.2.2.2; simp at this)
                        clear HP
                        go_enter Try.func25, Try.ntmps25
                        go_wp2_with (first | (go_at_call 66; refine (l04Key_is H2.out _).mono ?_; rintro e w' ⟨rfl, rfl⟩))
                        refine (l06Win_is H3.out _).mono ?_
                        clear a0 a1 a2 a3 a4 a5 a6 a7
                        rintro e w1 ⟨rfl, hb1⟩
                        replace hb := below_trans hb hb1
                        obtain ⟨a0, a1, a2, a3, a4, a5, a6, a7⟩ := (o1.grow hb1).eight
                        clear o1
                        go_wp2
                        go_ret
                        exact ⟨ret_bool (tf_no H.out), hb⟩
                    · have t0 : ((m : Int) == 0) = false := by simpa using e0
                      cases o with
                      | true =>
                        have H := Lib.hid (show ¬ paneOk q k f t l n m true from fun h => by have := h.2.2.2.2.2.2; simp [e0] at this)
                        clear HP e0
                        go_enter Try.func25, Try.ntmps25
                        go_wp2_with (first | (go_at_call 66; refine (l04Key_is H2.out _).mono ?_; rintro e w' ⟨rfl, rfl⟩))
                        refine (l06Win_is H3.out _).mono ?_
                        clear a0 a1 a2 a3 a4 a5 a6 a7
                        rintro e w1 ⟨rfl, hb1⟩
                        replace hb := below_trans hb hb1
                        obtain ⟨a0, a1, a2, a3, a4, a5, a6, a7⟩ := (o1.grow hb1).eight
                        clear o1
                        go_wp2
                        go_ret
                        exact ⟨ret_bool (tf_no H.out), hb⟩
                      | false =>
                        have H := Lib.hid (show paneOk q k f t l n m false from ⟨HP.out.1.1, HP.out.1.2, HP.out.2.1, HP.out.2.2.1, HP.out.2.2.2.1, HP.out.2.2.2.2, by simp [e0]⟩)
                        clear HP e0
                        go_enter Try.func25, Try.ntmps25
                        go_wp2_with (first | (go_at_call 66; refine (l04Key_is H2.out _).mono ?_; rintro e w' ⟨rfl, rfl⟩))
                        refine (l06Win_is H3.out _).mono ?_
                        clear a0 a1 a2 a3 a4 a5 a6 a7
                        rintro e w1 ⟨rfl, hb1⟩
                        replace hb := below_trans hb hb1
                        obtain ⟨a0, a1, a2, a3, a4, a5, a6, a7⟩ := (o1.grow hb1).eight
                        clear o1
                        go_wp2
                        go_ret
                        exact ⟨ret_bool (tf_yes H.out), hb⟩
                  · have H := Lib.hid (show ¬ paneOk q k f t l n m o from fun h => by unfold paneOk at h; omega)
                    clear h2 h3
                    go_enter Try.func25, Try.ntmps25
                    go_wp2_with (first | (go_at_call 66; refine (l04Key_is H2.out _).mono ?_; rintro e w' ⟨rfl, rfl⟩))
                    refine (l06Win_is H3.out _).mono ?_
                    clear a0 a1 a2 a3 a4 a5 a6 a7
                    rintro e w1 ⟨rfl, hb1⟩
                    replace hb := below_trans hb hb1
                    obtain ⟨a0, a1, a2, a3, a4, a5, a6, a7⟩ := (o1.grow hb1).eight
                    clear o1
                    go_wp2
                    go_ret
                    exact ⟨ret_bool (tf_no H.out), hb⟩
                · have H := Lib.hid (show ¬ paneOk q k f t l n m o from fun h => by unfold paneOk at h; omega)
                  clear h2 h3
                  go_enter Try.func25, Try.ntmps25
                  go_wp2_with (first | (go_at_call 66; refine (l04Key_is H2.out _).mono ?_; rintro e w' ⟨rfl, rfl⟩))
                  refine (l06Win_is H3.out _).mono ?_
                  clear a0 a1 a2 a3 a4 a5 a6 a7
                  rintro e w1 ⟨rfl, hb1⟩
                  replace hb := below_trans hb hb1
                  obtain ⟨a0, a1, a2, a3, a4, a5, a6, a7⟩ := (o1.grow hb1).eight
                  clear o1
                  go_wp2
                  go_ret
                  exact ⟨ret_bool (tf_no H.out), hb⟩
              · have H := Lib.hid (show ¬ paneOk q k f t l n m o from fun h => by unfold paneOk at h; omega)
                clear h2 h3
                go_enter Try.func25, Try.ntmps25
                go_wp2_with (first | (go_at_call 66; refine (l04Key_is H2.out _).mono ?_; rintro e w' ⟨rfl, rfl⟩))
                refine (l06Win_is H3.out _).mono ?_
                clear a0 a1 a2 a3 a4 a5 a6 a7
                rintro e w1 ⟨rfl, hb1⟩
                replace hb := below_trans hb hb1
                obtain ⟨a0, a1, a2, a3, a4, a5, a6, a7⟩ := (o1.grow hb1).eight
                clear o1
                go_wp2
                go_ret
                exact ⟨ret_bool (tf_no H.out), hb⟩
            · have H := Lib.hid (show ¬ paneOk q k f t l n m o from fun h => by unfold paneOk at h; omega)
              clear h2 h3
              go_enter Try.func25, Try.ntmps25
              go_wp2_with (first | (go_at_call 66; refine (l04Key_is H2.out _).mono ?_; rintro e w' ⟨rfl, rfl⟩))
              refine (l06Win_is H3.out _).mono ?_
              clear a0 a1 a2 a3 a4 a5 a6 a7
              rintro e w1 ⟨rfl, hb1⟩
              replace hb := below_trans hb hb1
              obtain ⟨a0, a1, a2, a3, a4, a5, a6, a7⟩ := (o1.grow hb1).eight
              clear o1
              go_wp2
              go_ret
              exact ⟨ret_bool (tf_no H.out), hb⟩
          · have H := Lib.hid (show ¬ paneOk q k f t l n m o from fun h => by unfold paneOk at h; omega)
            clear h2 h3
            go_enter Try.func25, Try.ntmps25
            go_wp2_with (first | (go_at_call 66; refine (l04Key_is H2.out _).mono ?_; rintro e w' ⟨rfl, rfl⟩))
            refine (l06Win_is H3.out _).mono ?_
            clear a0 a1 a2 a3 a4 a5 a6 a7
            rintro e w1 ⟨rfl, hb1⟩
            replace hb := below_trans hb hb1
            obtain ⟨a0, a1, a2, a3, a4, a5, a6, a7⟩ := (o1.grow hb1).eight
            clear o1
            go_wp2
            go_ret
            exact ⟨ret_bool (tf_no H.out), hb⟩
        · have H3 := Lib.hid ((tf_no h3).symm)
          have H := Lib.hid (show ¬ paneOk q k f t l n m o from fun h => h3 h.2.2.1)
          clear h2 h3
          go_enter Try.func25, Try.ntmps25
          go_wp2_with (first | (go_at_call 66; refine (l04Key_is H2.out _).mono ?_; rintro e w' ⟨rfl, rfl⟩))
          refine (l06Win_is H3.out _).mono ?_
          clear a0 a1 a2 a3 a4 a5 a6 a7
          rintro e w1 ⟨rfl, hb1⟩
          replace hb := below_trans hb hb1
          obtain ⟨a0, a1, a2, a3, a4, a5, a6, a7⟩ := (o1.grow hb1).eight
          clear o1
          go_wp2
          go_ret
          exact ⟨ret_bool (tf_no H.out), hb⟩
      · have H2 := Lib.hid (decide_eq_false h2)
        have H := Lib.hid (show ¬ paneOk q k f t l n m o from fun h => by unfold paneOk at h; omega)
        clear h2
        go_enter Try.func25, Try.ntmps25
        go_wp2_with (first | (go_at_call 66; refine (l04Key_is H2.out _).mono ?_; rintro e w' ⟨rfl, rfl⟩))
        go_ret
        exact ⟨ret_bool (tf_no H.out), hb⟩
    · have H := Lib.hid (show ¬ paneOk q k f t l n m o from fun h => by unfold paneOk at h; omega)
      go_enter Try.func25, Try.ntmps25
      go_wp2
      go_ret
      exact ⟨ret_bool (tf_no H.out), hb⟩
  · have H := Lib.hid (show ¬ paneOk q k f t l n m o from fun h => by unfold paneOk at h; omega)
    go_enter Try.func25, Try.ntmps25
    go_wp2
    go_ret
    exact ⟨ret_bool (tf_no H.out), hb⟩

set_option maxHeartbeats 4000000 in
theorem implPaneOk_any (q k f t l n : Int) (A : Option Addr) (m c : Nat) (o : Bool) (w : World) (hm : m ≤ 9223372036854775807) :
    Calls Try.prog 27 #[pav q k f t l n (.slice A m c) o] w fun e w' => e = .returned (.bool (tf (paneOk q k f t l n m o))) ∧ Below w.heap.size w w' := by
  have o1 := Own.new w 31 (pac q k f t l n (.slice A m c) o)
  have hb := below_alloc w (.cells (pac q k f t l n (.slice A m c) o).toArray 31)
  obtain ⟨a0, a1, a2, a3, a4, a5, a6, a7⟩ := o1.eight
  have HM := Lib.hid hm
  clear hm
  by_cases h0 : 0 ≤ q ∧ q < 4
  · have H0 := Lib.hid (decide_eq_true h0)
    by_cases h1 : 0 ≤ k ∧ k ≤ 15
    · have H1 := Lib.hid (decide_eq_true h1)
      by_cases h2 : winOk (f, t)
      · have H2 := Lib.hid ((tf_yes h2).symm)
        by_cases h3 : 0 ≤ l ∧ l < 16
        · have H3 := Lib.hid (decide_eq_true h3)
          by_cases h4 : 1 ≤ n
          · skip
            by_cases h5 : n ≤ 1000000
            · skip
              by_cases h6 : m ≤ 4
              · skip
                have HP := Lib.hid (And.intro (show (0 ≤ q ∧ q < 4) ∧ (0 ≤ k ∧ k ≤ 15) from by omega) (And.intro h2 (show (0 ≤ l ∧ l < 16) ∧ (1 ≤ n ∧ n ≤ 1000000) ∧ m ≤ 4 from by omega)))
                clear h0 h1 h2 h3
                by_cases e0 : m = 0
                · subst e0
                  cases o with
                  | true =>
                    have H := Lib.hid (show paneOk q k f t l n 0 true from ⟨HP.out.1.1, HP.out.1.2, HP.out.2.1, HP.out.2.2.1, HP.out.2.2.2.1, HP.out.2.2.2.2, rfl⟩)
                    clear HP
                    go_enter Try.func27, Try.ntmps27
                    go_wp2_with (first | (go_at_call 74; refine (isQuery_is H0.out _).mono ?_; rintro e w' ⟨rfl, rfl⟩) | (go_at_call 69; refine (isKey_is H1.out _).mono ?_; rintro e w' ⟨rfl, rfl⟩))
                    refine (isWin_is H2.out _).mono ?_
                    clear a0 a1 a2 a3 a4 a5 a6 a7
                    rintro e w1 ⟨rfl, hb1⟩
                    replace hb := below_trans hb hb1
                    obtain ⟨a0, a1, a2, a3, a4, a5, a6, a7⟩ := (o1.grow hb1).eight
                    clear o1
                    go_wp2_with (first | (go_at_call 76; refine (isLabel_dec H3.out _).mono ?_; rintro e w' ⟨rfl, rfl⟩))
                    go_ret
                    exact ⟨ret_bool (tf_yes H.out), hb⟩
                  | false =>
                    have H := Lib.hid (show ¬ paneOk q k f t l n 0 false from fun h => by have := h.2.2.2.2.2.2; simp at this)
                    clear HP
                    go_enter Try.func27, Try.ntmps27
                    go_wp2_with (first | (go_at_call 74; refine (isQuery_is H0.out _).mono ?_; rintro e w' ⟨rfl, rfl⟩) | (go_at_call 69; refine (isKey_is H1.out _).mono ?_; rintro e w' ⟨rfl, rfl⟩))
                    refine (isWin_is H2.out _).mono ?_
                    clear a0 a1 a2 a3 a4 a5 a6 a7
                    rintro e w1 ⟨rfl, hb1⟩
                    replace hb := below_trans hb hb1
                    obtain ⟨a0, a1, a2, a3, a4, a5, a6, a7⟩ := (o1.grow hb1).eight
                    clear o1
                    go_wp2_with (first | (go_at_call 76; refine (isLabel_dec H3.out _).mono ?_; rintro e w' ⟨rfl, rfl⟩))
                    go_ret
                    exact ⟨ret_bool (tf_no H.out), hb⟩
                · have t0 : ((m : Int) == 0) = false := by simpa using e0
                  cases o with
                  | true =>
                    have H := Lib.hid (show ¬ paneOk q k f t l n m true from fun h => by have := h.2.2.2.2.2.2; simp [e0] at this)
                    clear HP e0
                    go_enter Try.func27, Try.ntmps27
                    go_wp2_with (first | (go_at_call 74; refine (isQuery_is H0.out _).mono ?_; rintro e w' ⟨rfl, rfl⟩) | (go_at_call 69; refine (isKey_is H1.out _).mono ?_; rintro e w' ⟨rfl, rfl⟩))
                    refine (isWin_is H2.out _).mono ?_
                    clear a0 a1 a2 a3 a4 a5 a6 a7
                    rintro e w1 ⟨rfl, hb1⟩
                    replace hb := below_trans hb hb1
                    obtain ⟨a0, a1, a2, a3, a4, a5, a6, a7⟩ := (o1.grow hb1).eight
                    clear o1
                    go_wp2_with (first | (go_at_call 76; refine (isLabel_dec H3.out _).mono ?_; rintro e w' ⟨rfl, rfl⟩))
                    go_ret
                    exact ⟨ret_bool (tf_no H.out), hb⟩
                  | false =>
                    have H := Lib.hid (show paneOk q k f t l n m false from ⟨HP.out.1.1, HP.out.1.2, HP.out.2.1, HP.out.2.2.1, HP.out.2.2.2.1, HP.out.2.2.2.2, by simp [e0]⟩)
                    clear HP e0
                    go_enter Try.func27, Try.ntmps27
                    go_wp2_with (first | (go_at_call 74; refine (isQuery_is H0.out _).mono ?_; rintro e w' ⟨rfl, rfl⟩) | (go_at_call 69; refine (isKey_is H1.out _).mono ?_; rintro e w' ⟨rfl, rfl⟩))
                    refine (isWin_is H2.out _).mono ?_
                    clear a0 a1 a2 a3 a4 a5 a6 a7
                    rintro e w1 ⟨rfl, hb1⟩
                    replace hb := below_trans hb hb1
                    obtain ⟨a0, a1, a2, a3, a4, a5, a6, a7⟩ := (o1.grow hb1).eight
                    clear o1
                    go_wp2_with (first | (go_at_call 76; refine (isLabel_dec H3.out _).mono ?_; rintro e w' ⟨rfl, rfl⟩))
                    go_ret
                    exact ⟨ret_bool (tf_yes H.out), hb⟩
              · have H := Lib.hid (show ¬ paneOk q k f t l n m o from fun h => by unfold paneOk at h; omega)
                clear h0 h1 h2 h3
                go_enter Try.func27, Try.ntmps27
                go_wp2_with (first | (go_at_call 74; refine (isQuery_is H0.out _).mono ?_; rintro e w' ⟨rfl, rfl⟩) | (go_at_call 69; refine (isKey_is H1.out _).mono ?_; rintro e w' ⟨rfl, rfl⟩))
                refine (isWin_is H2.out _).mono ?_
                clear a0 a1 a2 a3 a4 a5 a6 a7
                rintro e w1 ⟨rfl, hb1⟩
                replace hb := below_trans hb hb1
                obtain ⟨a0, a1, a2, a3, a4, a5, a6, a7⟩ := (o1.grow hb1).eight
                clear o1
                go_wp2_with (first | (go_at_call 76; refine (isLabel_dec H3.out _).mono ?_; rintro e w' ⟨rfl, rfl⟩))
                go_ret
                exact ⟨ret_bool (tf_no H.out), hb⟩
            · have H := Lib.hid (show ¬ paneOk q k f t l n m o from fun h => by unfold paneOk at h; omega)
              clear h0 h1 h2 h3
              go_enter Try.func27, Try.ntmps27
              go_wp2_with (first | (go_at_call 74; refine (isQuery_is H0.out _).mono ?_; rintro e w' ⟨rfl, rfl⟩) | (go_at_call 69; refine (isKey_is H1.out _).mono ?_; rintro e w' ⟨rfl, rfl⟩))
              refine (isWin_is H2.out _).mono ?_
              clear a0 a1 a2 a3 a4 a5 a6 a7
              rintro e w1 ⟨rfl, hb1⟩
              replace hb := below_trans hb hb1
              obtain ⟨a0, a1, a2, a3, a4, a5, a6, a7⟩ := (o1.grow hb1).eight
              clear o1
              go_wp2_with (first | (go_at_call 76; refine (isLabel_dec H3.out _).mono ?_; rintro e w' ⟨rfl, rfl⟩))
              go_ret
              exact ⟨ret_bool (tf_no H.out), hb⟩
          · have H := Lib.hid (show ¬ paneOk q k f t l n m o from fun h => by unfold paneOk at h; omega)
            clear h0 h1 h2 h3
            go_enter Try.func27, Try.ntmps27
            go_wp2_with (first | (go_at_call 74; refine (isQuery_is H0.out _).mono ?_; rintro e w' ⟨rfl, rfl⟩) | (go_at_call 69; refine (isKey_is H1.out _).mono ?_; rintro e w' ⟨rfl, rfl⟩))
            refine (isWin_is H2.out _).mono ?_
            clear a0 a1 a2 a3 a4 a5 a6 a7
            rintro e w1 ⟨rfl, hb1⟩
            replace hb := below_trans hb hb1
            obtain ⟨a0, a1, a2, a3, a4, a5, a6, a7⟩ := (o1.grow hb1).eight
            clear o1
            go_wp2_with (first | (go_at_call 76; refine (isLabel_dec H3.out _).mono ?_; rintro e w' ⟨rfl, rfl⟩))
            go_ret
            exact ⟨ret_bool (tf_no H.out), hb⟩
        · have H3 := Lib.hid (decide_eq_false h3)
          have H := Lib.hid (show ¬ paneOk q k f t l n m o from fun h => by unfold paneOk at h; omega)
          clear h0 h1 h2 h3
          go_enter Try.func27, Try.ntmps27
          go_wp2_with (first | (go_at_call 74; refine (isQuery_is H0.out _).mono ?_; rintro e w' ⟨rfl, rfl⟩) | (go_at_call 69; refine (isKey_is H1.out _).mono ?_; rintro e w' ⟨rfl, rfl⟩))
          refine (isWin_is H2.out _).mono ?_
          clear a0 a1 a2 a3 a4 a5 a6 a7
          rintro e w1 ⟨rfl, hb1⟩
          replace hb := below_trans hb hb1
          obtain ⟨a0, a1, a2, a3, a4, a5, a6, a7⟩ := (o1.grow hb1).eight
          clear o1
          go_wp2_with (first | (go_at_call 76; refine (isLabel_dec H3.out _).mono ?_; rintro e w' ⟨rfl, rfl⟩))
          go_ret
          exact ⟨ret_bool (tf_no H.out), hb⟩
      · have H2 := Lib.hid ((tf_no h2).symm)
        have H := Lib.hid (show ¬ paneOk q k f t l n m o from fun h => h2 h.2.2.1)
        clear h0 h1 h2
        go_enter Try.func27, Try.ntmps27
        go_wp2_with (first | (go_at_call 74; refine (isQuery_is H0.out _).mono ?_; rintro e w' ⟨rfl, rfl⟩) | (go_at_call 69; refine (isKey_is H1.out _).mono ?_; rintro e w' ⟨rfl, rfl⟩))
        refine (isWin_is H2.out _).mono ?_
        clear a0 a1 a2 a3 a4 a5 a6 a7
        rintro e w1 ⟨rfl, hb1⟩
        replace hb := below_trans hb hb1
        obtain ⟨a0, a1, a2, a3, a4, a5, a6, a7⟩ := (o1.grow hb1).eight
        clear o1
        go_wp2
        go_ret
        exact ⟨ret_bool (tf_no H.out), hb⟩
    · have H1 := Lib.hid (decide_eq_false h1)
      have H := Lib.hid (show ¬ paneOk q k f t l n m o from fun h => by unfold paneOk at h; omega)
      clear h0 h1
      go_enter Try.func27, Try.ntmps27
      go_wp2_with (first | (go_at_call 74; refine (isQuery_is H0.out _).mono ?_; rintro e w' ⟨rfl, rfl⟩) | (go_at_call 69; refine (isKey_is H1.out _).mono ?_; rintro e w' ⟨rfl, rfl⟩))
      go_ret
      exact ⟨ret_bool (tf_no H.out), hb⟩
  · have H0 := Lib.hid (decide_eq_false h0)
    have H := Lib.hid (show ¬ paneOk q k f t l n m o from fun h => by unfold paneOk at h; omega)
    clear h0
    go_enter Try.func27, Try.ntmps27
    go_wp2_with (first | (go_at_call 74; refine (isQuery_is H0.out _).mono ?_; rintro e w' ⟨rfl, rfl⟩))
    go_ret
    exact ⟨ret_bool (tf_no H.out), hb⟩
end Go.Proofs.Ytlmlckgnmkjkdaa

/-
  AggDone of the program, whole: what it returns.
-/
namespace Go.Proofs.Ytlmlckgnmkjkdaa
open Go.RowKit

theorem aggOk_top0 {N z mn mx : Int} {top : List Int} (h : aggOk N z mn mx top) (h0 : N ≠ 0) : 0 < N ∧ N ≤ 1000000 ∧ 0 < top.length ∧ top.length ≤ 4 := by
  obtain ⟨h1, h2, h3, -⟩ := (aggOk_some h0).1 h
  split at h3 <;> omega
theorem some_of {A : Option Addr} {n ca : Nat} (hf : SFit A n ca) (h : 0 < n) : ∃ ad, A = some ad := by
  cases A with
  | none => have := hf.1; have := hf.2 rfl; omega
  | some ad => exact ⟨ad, rfl⟩
/-- the first k of Top -/
theorem take_pick {top : List Int} {n : Nat} {k : Int} (hz : top.length = n) (h1 : 1 ≤ k) : ∃ p : Nat, p ≤ n ∧ min k (n : Int) = (p : Int) ∧ top.take k.toNat = top.take p ∧ (top.take k.toNat).length = p := by
  by_cases h : (n : Int) < k
  · refine ⟨n, Nat.le_refl _, by omega, ?_, ?_⟩
    · rw [List.take_of_length_le (by omega), List.take_of_length_le (by omega)]
    · rw [List.length_take]; omega
  · exact ⟨k.toNat, by omega, by omega, rfl, by rw [List.length_take]; omega⟩

set_option maxRecDepth 100000 in
set_option maxHeartbeats 4000000 in
theorem implAggDone_any (q k N z mn mx m : Int) (ok : Bool) (A : Option Addr) (n ca : Nat) (top : List Int) (L : List Int) (ln : Nat) (b : Bool) (w : World) (hA : Rd w A (iz top)) (hz : top.length = n) (hn : n ≤ 1048576) (hf : SFit A n ca)
    (h64 : ∀ x ∈ top, I64 x) (hm : I64 mn) (hw : Wr z)
    (HM : ∀ W, Calls Try.prog 129 #[.agg #[.int .i64 (hi z), .int .u64 (lo z)], .int .i64 N] W (IntRes W m ok)) (hD : DoneIs q k N z mn mx m top L b) (hL : L.length = ln) :
    Calls Try.prog 81 #[.int .i64 q, .int .i64 k, agv N (hi z) (lo z) mn mx (.slice A n ca)] w (DoneRes L ln b w) := by
  have HO := Lib.hid (fun W (hb : Below w.heap.size w W) => implAggOk_any N z mn mx _ _ A n ca top W (hA.below hb) hz hn h64 hm hw rfl rfl)
  have HA := Lib.hid (fun W (hb : Below w.heap.size w W) => hA.below hb)
  have o1 := Own.new w 72 (agc N (hi z) (lo z) mn mx (.slice A n ca))
  have hb := below_alloc w (.cells (agc N (hi z) (lo z) mn mx (.slice A n ca)).toArray 72)
  obtain ⟨b0, b1, b2, b3, b4, b5⟩ := o1.six
  have HW := Lib.hid hw
  have HMM := Lib.hid HM
  clear h64 hm hA hw HM
  by_cases hk : kindOk q k
  · have HK := Lib.hid (fun W => as_bool (tf_yes hk).symm (implAggKind_any q k W))
    by_cases h0 : N = 0
    · obtain ⟨rfl, rfl⟩ := hD.no (fun h => h.2.1 h0)
      subst h0
      obtain rfl : ln = 0 := hL.symm
      clear hk hD HMM hf hL
      go_enter Try.func81, Try.ntmps81
      go_wp2_with fail
      refine (HK.out _).mono ?_
      rintro e _ ⟨rfl, rfl⟩
      go_wp2
      go_ret2
      exact ⟨none, 0, rfl, row_nil, hb⟩
    · by_cases ho : aggOk N z mn mx top
      · replace HO := Lib.hid (fun W hb => as_bool (tf_yes ho).symm (HO.out W hb))
        have hd : doneOk q k N z mn mx top := ⟨hk, h0, ho⟩
        obtain ⟨t1, t2, t3, t4⟩ := aggOk_top0 ho h0
        have h0' : (N == 0) = false := by simp [h0]
        have hq : (q = 1 ∨ q = 3 ∨ q = 4 ∨ q = 5) ∨ q = 2 ∨ q = 6 ∧ 1 ≤ k := by unfold kindOk at hk; omega
        rcases hq with hq | hq | ⟨hq, hk1⟩
        · obtain ⟨r, rfl, rfl, hr⟩ : ∃ r, L = [r] ∧ b = false ∧ (q = 1 ∧ r = N ∨ q = 3 ∧ r = mn ∨ q = 4 ∧ r = mx ∨ q = 5 ∧ r = m) := by
            rcases hq with h | h | h | h
            · exact ⟨N, (hD.one hd h).1, (hD.one hd h).2, .inl ⟨h, rfl⟩⟩
            · exact ⟨mn, (hD.least hd h).1, (hD.least hd h).2, .inr (.inl ⟨h, rfl⟩)⟩
            · exact ⟨mx, (hD.most hd h).1, (hD.most hd h).2, .inr (.inr (.inl ⟨h, rfl⟩))⟩
            · exact ⟨m, (hD.mean hd h).1, (hD.mean hd h).2, .inr (.inr (.inr ⟨h, rfl⟩))⟩
          obtain rfl : ln = 1 := hL.symm
          have HON := Lib.hid (fun W => implOneDone_any q N z mn mx m r ok (.slice A n ca) W HMM.out hr)
          clear hr hd ho hD hk HMM hf h0 t1 t2 t3 t4 hL
          rcases hq with rfl | rfl | rfl | rfl
          all_goals
            go_enter Try.func81, Try.ntmps81
            go_wp2_with fail
            refine (HK.out _).mono ?_
            rintro e _ ⟨rfl, rfl⟩
            go_wp2_with fail
            clear b0 b1 b2 b3 b4 b5
            refine (HO.out _ hb).mono ?_
            rintro e w2 ⟨rfl, hb2⟩
            replace o1 := o1.grow hb2
            replace hb := below_trans hb hb2
            clear hb2
            obtain ⟨b0, b1, b2, b3, b4, b5⟩ := o1.six
            go_wp2_with fail
            clear b0 b1 b2 b3 b4 b5 o1
            refine (HON.out _).mono ?_
            rintro e w3 ⟨rfl, hb3⟩
            replace hb := below_trans hb hb3
            clear hb3
            go_wp2
            go_ret2
            exact ⟨_, _, rfl, row_int r hb, below_trans hb (below_alloc _ _)⟩
        · subst hq
          have HS := Lib.hid (fun W => implSumDone_any z L ln b W hL HW.out (hD.sum hd rfl) (hD.over hd rfl))
          clear hd ho hD hk HMM hf h0 t1 t2 t3 t4 hL
          go_enter Try.func81, Try.ntmps81
          go_wp2_with fail
          refine (HK.out _).mono ?_
          rintro e _ ⟨rfl, rfl⟩
          go_wp2_with fail
          clear b0 b1 b2 b3 b4 b5
          refine (HO.out _ hb).mono ?_
          rintro e w2 ⟨rfl, hb2⟩
          replace o1 := o1.grow hb2
          replace hb := below_trans hb hb2
          clear hb2
          obtain ⟨b0, b1, b2, b3, b4, b5⟩ := o1.six
          go_wp2_with fail
          clear b0 b1 b2 b3 b4 b5 o1
          refine (HS.out _).mono ?_
          rintro e w3 ⟨A3, c3, rfl, r3, hb3⟩
          replace r3 := r3.base hb.size
          replace hb := below_trans hb hb3
          clear hb3
          go_wp2
          go_ret2
          exact ⟨A3, c3, rfl, r3, hb⟩
        · subst hq
          obtain ⟨rfl, rfl⟩ := hD.top hd rfl
          obtain ⟨p, hp, hmin, hL1, hL2⟩ := take_pick hz hk1
          obtain rfl : ln = p := hL.symm.trans hL2
          rw [hL1]
          obtain ⟨ad, rfl⟩ := some_of hf (by omega)
          have HF := Lib.hid (fun W (hb : Below w.heap.size w W) => int_front (HA.out W hb) hz (by omega) hp hf)
          have hsl := (HF.out _ (Below.refl _ _)).1
          have hlt : (top.take ln).length = ln := by rw [← hL1]; exact hL2
          have HLN := Lib.hid (And.intro hlt (show ln ≤ 1048576 by omega))
          clear hd ho hD hk HMM hf h0 t1 t2 t3 t4 hL hL1 hL2 hlt hp HW
          go_enter Try.func81, Try.ntmps81
          go_wp2_with fail
          refine (HK.out _).mono ?_
          rintro e _ ⟨rfl, rfl⟩
          go_wp2_with fail
          clear b0 b1 b2 b3 b4 b5
          refine (HO.out _ hb).mono ?_
          rintro e w2 ⟨rfl, hb2⟩
          replace o1 := o1.grow hb2
          replace hb := below_trans hb hb2
          clear hb2
          obtain ⟨b0, b1, b2, b3, b4, b5⟩ := o1.six
          go_wp2_with fail
          clear b0 b1 b2 b3 b4 b5 o1
          refine (cloneInt_any ad ln ca (top.take ln) _ (HF.out _ hb).2.1 HLN.out.1 HLN.out.2 (HF.out _ hb).2.2).mono ?_
          rintro e w3 ⟨A3, c3, rfl, hown, hb3⟩
          have r3 := (RowAt.of hown).base hb.size
          replace hb := below_trans hb hb3
          clear hb3 hown
          go_wp2
          go_ret2
          exact ⟨A3, c3, rfl, r3, hb⟩
      · obtain ⟨rfl, rfl⟩ := hD.no (fun h => ho h.2.2)
        obtain rfl : ln = 0 := hL.symm
        replace HO := Lib.hid (fun W hb => as_bool (tf_no ho).symm (HO.out W hb))
        have h0' : (N == 0) = false := by simp [h0]
        clear hk hD HMM hf h0 ho hL
        go_enter Try.func81, Try.ntmps81
        go_wp2_with fail
        refine (HK.out _).mono ?_
        rintro e _ ⟨rfl, rfl⟩
        go_wp2_with fail
        clear b0 b1 b2 b3 b4 b5
        refine (HO.out _ hb).mono ?_
        rintro e w2 ⟨rfl, hb2⟩
        replace hb := below_trans hb hb2
        go_wp2
        go_ret2
        exact ⟨none, 0, rfl, row_nil, hb⟩
  · obtain ⟨rfl, rfl⟩ := hD.no (fun h => hk h.1)
    obtain rfl : ln = 0 := hL.symm
    have HK := Lib.hid (fun W => as_bool (tf_no hk).symm (implAggKind_any q k W))
    clear hk hD HMM hf hL
    go_enter Try.func81, Try.ntmps81
    go_wp2_with fail
    refine (HK.out _).mono ?_
    rintro e _ ⟨rfl, rfl⟩
    go_wp2
    go_ret2
    exact ⟨none, 0, rfl, row_nil, hb⟩

end Go.Proofs.Ytlmlckgnmkjkdaa

/-
  A region that draws its order and holds a call whose answer lies somewhere new: the operations up to that call are taken by hand (wpAnyH_take, wpAnyH_ready); what is left is one walk in the order of the text.
-/
namespace Go.Proofs.Ytlmlckgnmkjkdaa
open Go.RowKit

section
variable {P : Program} {ops : Array Oper} {md : Region.Mode} {C S : World → Prop}
theorem wpAnyH_of_quiet {Q : Act → Prop} {Q' : Exit → Act → World → Prop} (hQ : ∀ a w, C w → Q a → Q' .normal a w) (hS : ∀ w, C w → S w) : ∀ (fuel : Nat) (listed : Array Bool) (a : Act) (w : World), C w →
    wpAnyQ P md ops C Q fuel listed a → wpAnyH P md ops Q' S fuel listed a w
  | 0, _, _, _, hw, h => ⟨h.1, hQ _ _ hw h.2⟩
  | fuel + 1, _, _, _, hw, h => ⟨fun h0 => hQ _ _ hw (h.1 h0), fun i hi => wpOp_of_qOp hw (fun a' w' hw' hq => ⟨hS _ hw', wpAnyH_of_quiet hQ hS fuel _ a' w' hw' hq⟩) (h.2 i hi)⟩

/-- What is left from operation k on, in the order of the text. -/
theorem wpAnyH_rest {Q' : Exit → Act → World → Prop} {l : List Oper} {fuel : Nat} {listed : Array Bool} {a : Act} {w : World} (k : Nat) (hsel : Region.noSelect l.toArray = true) (hf : fuel = (l.drop k).length)
    (hlex : Region.lexFrom md l.toArray (l.drop k).length k listed = true) (hw : C w) (hS : ∀ w, C w → S w) (h : wpQuiet P l.toArray C (fun a' => ∀ w', C w' → Q' .normal a' w') (l.drop k) a) : wpAnyH P md l.toArray Q' S fuel listed a w := by
  subst hf
  exact wpAnyH_of_quiet (fun _ w' hw' h => h w' hw') hS _ _ _ _ hw (wpAnyQ_lex hsel _ k _ _ (fun j => by simp [List.getElem?_drop]) hlex h)
end
end Go.Proofs.Ytlmlckgnmkjkdaa

/-
  AggOk of the model, and what it calls.
-/
namespace Go.Proofs.Ytlmlckgnmkjkdaa
open Go.RowKit

set_option maxHeartbeats 400000 in
theorem l07Same_any (A B : Option Addr) (ca cb : Nat) (xs ys : List Int) (w : World) (hA : Rd w A (iz xs)) (hB : Rd w B (iz ys)) (hn : xs.length < 4611686018427387904) (hm : ys.length < 4611686018427387904) :
    Calls Try.prog 101 #[.slice A xs.length ca, .slice B ys.length cb] w fun e w' => e = .returned (.bool (decide (xs = ys))) ∧ Below w.heap.size w w' := by
  by_cases hl : xs.length = ys.length
  · have hl1 : ((xs.length : Int) != (ys.length : Int)) = false := by simp [hl]
    have HL := Lib.hid hl
    clear hl
    go_enter Try.func101, Try.ntmps101
    go_wp2
    go_loopw [5] (fun i wr => ∃ k : Nat, k ≤ xs.length ∧ i = .int .i64 k ∧ Hid (xs.take k = ys.take k) ∧ Below w.heap.size w wr) (fun i _ => xs.length - (intOf i).toNat)
    case atStart => exact ⟨0, Nat.zero_le _, rfl, Lib.hid (by simp), Below.refl _ _⟩
    case round =>
      obtain ⟨k, hk, rfl, hpre, hbel⟩ := hrel
      by_cases hlt : k < xs.length
      · have hlt2 : k < ys.length := by rw [← HL.out]; exact hlt
        obtain ⟨ad, rfl, hb1, hc1⟩ := hA k _ (iz_at hlt)
        obtain ⟨bd, rfl, hb2, hc2⟩ := hB k _ (iz_at hlt2)
        have h1 : ∀ u : Bel wr, u.w.cell? (ad.add k) = some (.int .i64 (xs.getD k 0)) := fun u => ((below_trans hbel u.ok).cell (by rw [add_block]; exact hb1)).trans hc1
        have h2 : ∀ u : Bel wr, u.w.cell? (bd.add k) = some (.int .i64 (ys.getD k 0)) := fun u => ((below_trans hbel u.ok).cell (by rw [add_block]; exact hb2)).trans hc2
        clear hc1 hc2
        go_wp2
        refine wp_region_bel (by kernel_rfl) (by kernel_rfl) ?_
        repeat (go_big_quiet_step (fail))
        refine wpQuiet_nil ?_
        rintro _ ⟨u, rfl⟩
        by_cases heq : xs[k] = ys[k]
        · have hne : (xs[k] != ys[k]) = false := by simp [heq]
          have HE := Lib.hid heq
          clear heq
          go_wp2
          go_roundw
          case rel => exact ⟨k + 1, by omega, by go_num, Lib.hid (take_next hlt hlt2 hpre.out HE.out), below_trans hbel u.ok⟩
          case measure => simp [intOf]; omega
        · have hne : (xs[k] != ys[k]) = true := by rw [bne_iff_ne]; omega
          go_wp2
          go_ret
          exact ⟨ret_bool (by rw [eq_comm, decide_eq_false_iff_not]; rintro rfl; exact heq rfl), below_trans hbel u.ok⟩
      · go_wp2
        go_ret
        refine ⟨ret_bool ?_, hbel⟩
        have hp := hpre.out
        have hll := HL.out
        rw [List.take_of_length_le (by omega), List.take_of_length_le (by omega)] at hp
        simp [hp]
  · have hl1 : ((xs.length : Int) != (ys.length : Int)) = true := by rw [bne_iff_ne]; omega
    go_enter Try.func101, Try.ntmps101
    go_wp2
    go_ret
    exact ⟨ret_bool (by rw [eq_comm, decide_eq_false_iff_not]; rintro rfl; exact hl rfl), Below.refl _ _⟩


theorem half_step {a z x : Int} : (x % 2 = 1 → z + a * x = z + a + (a + a) * (x / 2)) ∧ (x % 2 ≠ 1 → z + a * x = z + (a + a) * (x / 2)) := by
  have e : (a + a) * (x / 2) = a * (2 * (x / 2)) := by rw [Int.mul_comm 2, ← Int.mul_assoc, Int.mul_comm _ 2, ← Int.mul_assoc]; congr 1; omega
  constructor
  · intro h
    rw [e, show 2 * (x / 2) = x - 1 by omega, Int.mul_sub]; omega
  · intro h
    rw [e, show 2 * (x / 2) = x by omega]

/-- a product that is being added up: the result's cell, the sum and the number to add -/
structure TS (w wr : World) (X : Nat) (zw za : Int) : Prop where
  oR : Own wr w.heap.size 70 [.int .i64 0, .int .u64 0]
  oW : Own wr (w.heap.size + 1) 70 [.int .i64 (hi zw), .int .u64 (lo zw)]
  oA : Own wr X 70 [.int .i64 (hi za), .int .u64 (lo za)]
  hX : w.heap.size + 1 < X
  hb : Below w.heap.size w wr
section
variable {w wr w' : World} {X : Nat} {zw za : Int}
theorem TS.grow (h : TS w wr X zw za) (hb : Below wr.heap.size wr w') : TS w w' X zw za := ⟨h.oR.grow hb, h.oW.grow hb, h.oA.grow hb, h.hX, below_trans h.hb hb⟩
theorem TS.setW (h : TS w wr X zw za) (z : Int) : TS w ((wr.setCell ⟨w.heap.size + 1, 0, none⟩ (.int .i64 (hi z))).setCell ⟨w.heap.size + 1, 1, none⟩ (.int .u64 (lo z))) X z za := by
  have := h.hX
  exact ⟨(h.oR.far (p := ⟨w.heap.size + 1, 0, none⟩) (show w.heap.size ≠ w.heap.size + 1 by omega) _).far (p := ⟨w.heap.size + 1, 1, none⟩) (show w.heap.size ≠ w.heap.size + 1 by omega) _, own_set2 h.oW _ _,
    (h.oA.far (p := ⟨w.heap.size + 1, 0, none⟩) (show X ≠ w.heap.size + 1 by omega) _).far (p := ⟨w.heap.size + 1, 1, none⟩) (show X ≠ w.heap.size + 1 by omega) _, h.hX, below_set2 h.hb (by omega) _ _⟩
theorem TS.setA (h : TS w wr X zw za) (z : Int) : TS w ((wr.setCell ⟨X, 0, none⟩ (.int .i64 (hi z))).setCell ⟨X, 1, none⟩ (.int .u64 (lo z))) X zw z := by
  have := h.hX
  exact ⟨(h.oR.far (p := ⟨X, 0, none⟩) (show w.heap.size ≠ X by omega) _).far (p := ⟨X, 1, none⟩) (show w.heap.size ≠ X by omega) _,
    (h.oW.far (p := ⟨X, 0, none⟩) (show w.heap.size + 1 ≠ X by omega) _).far (p := ⟨X, 1, none⟩) (show w.heap.size + 1 ≠ X by omega) _, own_set2 h.oA _ _, h.hX, below_set2 h.hb (by omega) _ _⟩
end

set_option maxRecDepth 100000 in
set_option maxHeartbeats 4000000 in
theorem l03Times_any (a b : Int) (w : World) (ha : I64 a) (hb : I64 b) : Calls Try.prog 120 #[.int .i64 a, .int .i64 b] w (WideRes w (hi (a * b)) (lo (a * b))) := by
  have HA := Lib.hid ha
  obtain ⟨hb1, hb2⟩ := hb
  have o0 := (Own.new w 70 [.int .i64 0, .int .u64 0]).alloc (.cells #[.int .i64 0, .int .u64 0] 70)
  have o1 := new_second w (.cells #[.int .i64 0, .int .u64 0] 70) 70 [.int .i64 0, .int .u64 0]
  have hbb := below2 w (.cells #[.int .i64 0, .int .u64 0] 70) (.cells #[.int .i64 0, .int .u64 0] 70)
  go_enter Try.func120, Try.ntmps120
  go_wp2_with fail
  refine (specWideOf_any a _ HA.out).mono ?_
  rintro e w1 ⟨rfl, hb3⟩
  have hX : w.heap.size + 1 < w1.heap.size := by have := (o1.grow hb3).lt; omega
  have HT0 := Lib.hid (show TS w (w1.alloc (.cells #[.int .i64 (hi a), .int .u64 (lo a)] 70)) w1.heap.size 0 a from
    ⟨(o0.grow hb3).alloc _, (o1.grow hb3).alloc _, Own.new w1 70 [.int .i64 (hi a), .int .u64 (lo a)], hX, (below_trans hbb hb3).alloc (by omega) _⟩)
  clear o0 o1 hbb hb3 ha
  by_cases h : b < 0
  case' pos =>
    have hw1 : IntKind.u64.wrap b = b + 18446744073709551616 := by rw [wrapU]; omega
    have hw2 : IntKind.u64.wrap (-(b + 18446744073709551616)) = -b := by rw [wrapU]; omega
    have HX0 := Lib.hid (show 0 + (-a) * (-b) = a * b by rw [Int.neg_mul_neg]; omega)
    obtain ⟨x0, hx0, hx1, hx2⟩ : ∃ x0 : Int, -b = x0 ∧ 0 ≤ x0 ∧ x0 ≤ 18446744073709551615 := ⟨_, rfl, by omega, by omega⟩
    rw [hx0] at hw2 HX0
    go_upto_region 5 with (fail)
    generalize hX6 : w1.heap.size = X at *
    clear hX6
    generalize w1.alloc (.cells #[.int .i64 (hi a), .int .u64 (lo a)] 70) = w2 at *
    obtain ⟨c0, c1⟩ := HT0.out.oA.two
    go_wp2_with fail
    refine (specWideNeg_any _ _ a _ rfl rfl).mono ?_
    rintro e w3 ⟨rfl, hb3⟩
    have HT1 := Lib.hid (HT0.out.grow hb3)
    obtain ⟨c0, c1⟩ := HT1.out.oA.two
    have f0 := HT1.out.oA.free 0
    have f1 := HT1.out.oA.free 1
    have HT := Lib.hid (HT1.out.setA (-a))
    clear HT0 HT1 hb3
    generalize hza : -a = za at *
    go_wp2_with fail
    clear c0 c1 f0 f1
  case' neg =>
    have hw1 : IntKind.u64.wrap b = b := by rw [wrapU]; omega
    have HX0 := Lib.hid (show 0 + a * b = a * b by omega)
    have hx1 : 0 ≤ b := by omega
    have hx2 : b ≤ 18446744073709551615 := by omega
    go_wp2_with fail
    generalize hX6 : w1.heap.size = X at *
    clear hX6
    have HT := HT0
    clear HT0
  all_goals
    go_loopw [7] (fun s7 wr => ∃ zw za x : Int, s7 = .int .u64 x ∧ 0 ≤ x ∧ x ≤ 18446744073709551615 ∧ Hid (zw + za * x = a * b) ∧ Hid (TS w wr X zw za)) (fun s7 _ => (intOf s7).toNat)
    case atStart => exact ⟨0, _, _, rfl, hx1, hx2, HX0, HT⟩
    case round =>
      clear HT HX0
      obtain ⟨zw, za, x, rfl, hx3, hx4, HZ, HTr⟩ := hrel
      by_cases hp : 0 < x
      · obtain ⟨c0, c1⟩ := HTr.out.oW.two
        obtain ⟨d0, d1⟩ := HTr.out.oA.two
        by_cases hodd : x % 2 = 1
        · have hodd' : (x % 2 == 1) = true := by simp [hodd]
          have HN := Lib.hid ((half_step (a := za) (z := zw)).1 hodd)
          clear hodd
          go_wp2_with fail
          refine (specWideAdd_any _ _ _ _ zw za _ rfl rfl rfl rfl).mono ?_
          rintro e w4 ⟨rfl, hb4⟩
          have HT1 := Lib.hid (HTr.out.grow hb4)
          clear HTr hb4 c0 c1 d0 d1
          obtain ⟨c0, c1⟩ := HT1.out.oW.two
          have f0 := HT1.out.oW.free 0
          have f1 := HT1.out.oW.free 1
          have HT2 := Lib.hid (HT1.out.setW (zw + za))
          clear HT1
          go_upto_region 10 with (fail)
          clear c0 c1 f0 f1
          generalize (w4.setCell ⟨w.heap.size + 1, 0, none⟩ (.int .i64 (hi (zw + za)))).setCell ⟨w.heap.size + 1, 1, none⟩ (.int .u64 (lo (zw + za))) = w5 at *
          obtain ⟨d0, d1⟩ := HT2.out.oA.two
          go_wp2_with fail
          refine (specWideAdd_any _ _ _ _ za za _ rfl rfl rfl rfl).mono ?_
          rintro e w6 ⟨rfl, hb6⟩
          have HT3 := Lib.hid (HT2.out.grow hb6)
          clear HT2 hb6 d0 d1
          obtain ⟨c0, c1⟩ := HT3.out.oA.two
          have f0 := HT3.out.oA.free 0
          have f1 := HT3.out.oA.free 1
          have HT4 := Lib.hid (HT3.out.setA (za + za))
          clear HT3
          go_wp2_with fail
          go_roundw
          case rel => exact ⟨zw + za, za + za, x / 2, rfl, by omega, by omega, Lib.hid (by rw [← HZ.out, HN.out]), HT4⟩
          case measure => simp [intOf]; omega
        · have hodd' : (x % 2 == 1) = false := by simp [hodd]
          have HN := Lib.hid ((half_step (a := za) (z := zw)).2 hodd)
          clear hodd
          go_wp2_with fail
          refine (specWideAdd_any _ _ _ _ za za _ rfl rfl rfl rfl).mono ?_
          rintro e w6 ⟨rfl, hb6⟩
          have HT3 := Lib.hid (HTr.out.grow hb6)
          clear HTr hb6 c0 c1 d0 d1
          obtain ⟨c0, c1⟩ := HT3.out.oA.two
          have f0 := HT3.out.oA.free 0
          have f1 := HT3.out.oA.free 1
          have HT4 := Lib.hid (HT3.out.setA (za + za))
          clear HT3
          go_wp2_with fail
          go_roundw
          case rel => exact ⟨zw, za + za, x / 2, rfl, by omega, by omega, Lib.hid (by rw [← HZ.out, HN.out]), HT4⟩
          case measure => simp [intOf]; omega
      · have hx0 : x = 0 := by omega
        subst hx0
        have hz : zw = a * b := by have := HZ.out; rw [Int.mul_zero] at this; omega
        subst hz
        obtain ⟨c0, c1⟩ := HTr.out.oW.two
        obtain ⟨r0, r1⟩ := HTr.out.oR.two
        have f0 := HTr.out.oR.free 0
        have f1 := HTr.out.oR.free 1
        go_wp2
        exact bodyPost_ret (v := .agg #[.int .i64 (hi (a * b)), .int .u64 (lo (a * b))]) (by simp [results, Try.results120, go_sem, r0, r1]) rfl ⟨rfl, below_set2 HTr.out.hb (Nat.le_refl _) _ _⟩

set_option maxHeartbeats 1000000 in
theorem l07Times_any (a b : Int) (w : World) (ha : I64 a) (hb : I64 b) : Calls Try.prog 105 #[.int .i64 a, .int .i64 b] w (WideRes w (hi (a * b)) (lo (a * b))) := by
  have o0 := Own.new w 70 [.int .i64 0, .int .u64 0]
  have HC := Lib.hid (fun W => l03Times_any a b W ha hb)
  generalize a * b = p at *
  go_enter Try.func105, Try.ntmps105
  go_wp2_with fail
  refine (HC.out _).mono ?_
  rintro e w1 ⟨rfl, hb1⟩
  have o1 := o0.grow hb1
  have hb2 := below_trans (below_alloc w _) hb1
  clear o0 hb1
  obtain ⟨r0, r1⟩ := o1.two
  have f0 := o1.free 0
  have f1 := o1.free 1
  go_wp2
  exact bodyPost_ret (v := .agg #[.int .i64 (hi p), .int .u64 (lo p)]) (by simp [results, Try.results105, go_sem, r0, r1]) rfl ⟨rfl, below_set2 hb2 (Nat.le_refl _) _ _⟩

theorem l07Same_n (A B : Option Addr) (n ca cb : Nat) (xs ys : List Int) (w : World) (hA : Rd w A (iz xs)) (hB : Rd w B (iz ys)) (hx : xs.length = n) (hy : ys.length = n) (hn : n ≤ 1048576) :
    Calls Try.prog 101 #[.slice A n ca, .slice B n cb] w fun e w' => e = .returned (.bool (decide (xs = ys))) ∧ Below w.heap.size w w' := by
  have h := l07Same_any A B ca cb xs ys w hA hB (by omega) (by omega)
  rwa [hx, hy] at h

set_option maxRecDepth 100000 in
set_option maxHeartbeats 4000000 in
theorem specAggOk_any (N z mn mx h lw : Int) (A : Option Addr) (n ca : Nat) (top : List Int) (w : World) (hA : Rd w A (iz top)) (hz : top.length = n) (hn : n ≤ 1048576) (hf : SFit A n ca)
    (h64 : ∀ x ∈ top, I64 x) (hm : I64 mn) (hw : Wr z) (eh : h = hi z) (el : lw = lo z) :
    Calls Try.prog 78 #[agv N h lw mn mx (.slice A n ca)] w fun e w' => e = .returned (.bool (tf (aggOk N z mn mx top))) ∧ Below w.heap.size w w' := by
  have hb := below_alloc w (.cells (agc N h lw mn mx (.slice A n ca)).toArray 72)
  by_cases hN0 : N = 0
  · subst hN0
    have hzw := zero_words hw eh el
    have HZ := Lib.hid (show aggOk 0 z mn mx top ↔ (h = 0 ∧ lw = 0) ∧ mn = 0 ∧ mx = 0 ∧ n = 0 by rw [aggOk_zero, hzw, ← hz, List.length_eq_zero_iff])
    clear hA hz h64 hm hw eh el hzw hf
    by_cases hl : n = 0
    · subst hl
      have hl1 : (((0 : Nat) : Int) != 0) = false := by simp
      by_cases e1 : h = 0
      · by_cases e2 : lw = 0
        · by_cases e3 : mn = 0
          · have HY := Lib.hid (show mx = 0 → aggOk 0 z mn mx top from fun q => HZ.out.2 ⟨⟨e1, e2⟩, e3, q, rfl⟩)
            subst e1 e2 e3
            go_enter Try.func78, Try.ntmps78
            go_wp2
            go_ret
            refine ⟨ret_bool ?_, hb⟩
            by_cases hmx : mx = 0
            · rw [← tf_yes (HY.out hmx)]; simp [hmx]
            · rw [← tf_no (fun q => hmx (HZ.out.1 q).2.2.1)]; simp [hmx]
          · have HN := Lib.hid (tf_no (show ¬ aggOk 0 z mn mx top from fun q => e3 (HZ.out.1 q).2.1))
            have e3' : (mn == 0) = false := by simp [e3]
            subst e1 e2
            go_enter Try.func78, Try.ntmps78
            go_wp2
            go_ret
            exact ⟨ret_bool HN.out, hb⟩
        · have HN := Lib.hid (tf_no (show ¬ aggOk 0 z mn mx top from fun q => e2 (HZ.out.1 q).1.2))
          subst e1
          go_enter Try.func78, Try.ntmps78
          go_wp2
          go_ret
          exact ⟨ret_bool HN.out, hb⟩
      · have HN := Lib.hid (tf_no (show ¬ aggOk 0 z mn mx top from fun q => e1 (HZ.out.1 q).1.1))
        go_enter Try.func78, Try.ntmps78
        go_wp2
        go_ret
        exact ⟨ret_bool HN.out, hb⟩
    · have hl1 : ((n : Int) != 0) = true := by simp [hl]
      have HN := Lib.hid (tf_no (show ¬ aggOk 0 z mn mx top from fun q => hl (HZ.out.1 q).2.2.2))
      go_enter Try.func78, Try.ntmps78
      go_wp2
      go_ret
      exact ⟨ret_bool HN.out, hb⟩
  · have hN0' : (N == 0) = false := by simp [hN0]
    have HS := Lib.hid (aggOk_some (z := z) (mn := mn) (mx := mx) (top := top) hN0)
    by_cases hp : N < 0
    · have hp1 : decide (N < 0) = true := by simp [hp]
      have HN := Lib.hid (tf_no (show ¬ aggOk N z mn mx top from fun q => by have := (HS.out.1 q).1; omega))
      clear hA hz h64 hm hw eh el
      go_enter Try.func78, Try.ntmps78
      go_wp2
      go_ret
      exact ⟨ret_bool HN.out, hb⟩
    · have hp1 : decide (N < 0) = false := by simp; omega
      by_cases hM : 1000000 < N
      · have hM1 : decide (1000000 < N) = true := by simp [hM]
        have HN := Lib.hid (tf_no (show ¬ aggOk N z mn mx top from fun q => by have := (HS.out.1 q).2.1; omega))
        clear hA hz h64 hm hw eh el
        go_enter Try.func78, Try.ntmps78
        go_wp2
        go_ret
        exact ⟨ret_bool HN.out, hb⟩
      · have hM1 : decide (1000000 < N) = false := by simp; omega
        obtain ⟨M4, hM4, hM5⟩ : ∃ M4 : Int, (if 4 < N then 4 else N) = M4 ∧ 1 ≤ M4 ∧ M4 ≤ 4 ∧ M4 ≤ N := ⟨_, rfl, by split <;> omega⟩
        by_cases hl : (n : Int) = M4
        · have hl1 : ((n : Int) != M4) = false := by simp [hl]
          have hn1 : 1 ≤ n ∧ n ≤ 4 ∧ (n : Int) ≤ N := by omega
          obtain ⟨k, rfl⟩ : ∃ k, n = k + 1 := ⟨n - 1, by omega⟩
          obtain ⟨ad, rfl, hc0⟩ := rd_int hA (by omega)
          obtain ⟨b, off, rfl⟩ := plain_of (hc0 w (Below.refl _ _) 0 (by omega))
          simp only [plain_add'] at hc0
          have HO := Lib.hid (Own.new w 72 (agc N h lw mn mx (.slice (some ⟨b, off, none⟩) (k + 1) ca)))
          have HC := Lib.hid (fun W (h : Below w.heap.size w W) (i : Nat) (hi : i < k + 1) => hc0 W h i (by omega))
          have HT := Lib.hid (fun W (hb : Below w.heap.size w W) => specTopOf_any (some ⟨b, off, none⟩) (k + 1) ca top none 0 0 [] W (hA.below hb) hz hn hf (fun j u hu => by simp [iz] at hu) rfl (by omega) ⟨by omega, fun _ => rfl⟩)
          have HA := Lib.hid (fun W (hb : Below w.heap.size w W) => hA.below hb)
          have HZ := Lib.hid hz
          have hlast : iat top k = lastOf top := by unfold lastOf; rw [hz]; rfl
          have HEND := Lib.hid (show aggOk N z mn mx top ↔ mx = iat top 0 ∧ topOf top = top ∧ restOk N z mn top from HS.out.trans ⟨fun q => ⟨q.2.2.2.1, (topOf_iff (by omega)).2 q.2.2.2.2.1, q.2.2.2.2.2⟩, fun q => ⟨by omega, by omega, by rw [hz, hM4]; exact hl, q.1, (topOf_iff (by omega)).1 q.2.1, q.2.2⟩⟩)
          have hle : restOk N z mn top → mn ≤ lastOf top := fun q => by
            unfold restOk at q
            split at q
            · omega
            · exact q.1
          have HLE := Lib.hid hle
          have htl : (topOf top).length = k + 1 := by rw [topOf_length]; omega
          have HTL := Lib.hid htl
          have HT := Lib.hid (fun W hb => (HT.out W hb).mono fun _ _ h => ints_at (m := k + 1) h (by rw [List.append_nil]; exact htl))
          simp only [List.append_nil] at HT
          have H64 := Lib.hid h64
          have HE := Lib.hid (And.intro eh el)
          have HMW := Lib.hid (And.intro hm hw)
          have hk3 : k ≤ 3 := by omega
          have hkN : (k : Int) + 1 ≤ N := by omega
          have hk20 : k + 1 ≤ 1048576 := hn
          clear hA hz h64 hm hw eh el hl HS hc0 hM5 hf hle hn1 hn htl
          generalize topOf top = tp at *
          go_enter Try.func78, Try.ntmps78
          go_upto_region 5 with (fail)
          have hbb := hb
          generalize w.alloc (.cells (agc N h lw mn mx (.slice (some ⟨b, off, none⟩) (k + 1) ca)).toArray 72) = v at *
          have K3 := Lib.hid (fun W (h : Below v.heap.size v W) => (HO.out.grow h).six)
          refine wp_region_held_drew (S := fun W => Below v.heap.size v W) (by kernel_rfl) (Below.refl _ _).drew (fun hHeld => ?_)
          refine wpAnyH_take (i := 0) (v := ?v0) rfl (by kernel_rfl) (by kernel_rfl) (by kernel_rfl) (fun _ _ _ h => h) (Or.inl ⟨by rfl, ?y0⟩) (by with_reducible assumption) ?_
          case y0 =>
            intro w0 hSw
            (try dsimp only at hSw)
            go_simp
            (try with_reducible rfl)
          simp only [Act.put, List.setIfInBounds_toArray]
          refine wpAnyH_take (i := 1) (v := ?v1) rfl (by kernel_rfl) (by kernel_rfl) (by kernel_rfl) (fun _ _ _ h => h) (Or.inl ⟨by rfl, ?y1⟩) (by with_reducible assumption) ?_
          case y1 =>
            intro w0 hSw
            (try dsimp only at hSw)
            have e5 := (K3.out _ hSw).2.2.2.2.2
            go_simp
            (try with_reducible rfl)
          simp only [Act.put]
          refine wpAnyH_take (i := 3) (v := ?v3) rfl (by kernel_rfl) (by kernel_rfl) (by kernel_rfl) (fun _ _ _ h => h) (Or.inl ⟨by rfl, ?y3⟩) (by with_reducible assumption) ?_
          case y3 =>
            intro w0 hSw
            (try dsimp only at hSw)
            go_simp
            (try with_reducible rfl)
          simp only [Act.put]
          refine wpAnyH_take (i := 4) (v := ?v4) rfl (by kernel_rfl) (by kernel_rfl) (by kernel_rfl) (fun _ _ _ h => h) (Or.inl ⟨by rfl, ?y4⟩) (by with_reducible assumption) ?_
          case y4 =>
            intro w0 hSw
            (try dsimp only at hSw)
            have e5 := (K3.out _ hSw).2.2.2.2.2
            go_simp
            (try with_reducible rfl)
          simp only [Act.put]
          refine wpAnyH_ready (rs := [2]) (by kernel_rfl) (by simp) (AllReadyH.cons rfl (fun K hK => ?_) AllReadyH.nil)
          go_simp
          go_at_call 102
          refine (HT.out _ (below_trans hbb hHeld)).mono ?_
          rintro e w1 ⟨A1, c1, rfl, r1, hb1⟩
          refine hK.out _ _ (show Below v.heap.size v w1 from below_trans hHeld hb1) (fun hHeld1 => ?_)
          clear hK K hHeld hb1
          (try simp only [Act.put, List.setIfInBounds_toArray, List.set_cons_zero, List.set_cons_succ])
          refine wpAnyH_ready (rs := [5]) (by kernel_rfl) (by simp) (AllReadyH.cons rfl (fun K hK => ?_) AllReadyH.nil)
          go_simp
          go_at_call 101
          refine (l07Same_n A1 _ (k + 1) c1 ca tp top _ (RowAt.reads r1) (HA.out _ (below_trans hbb hHeld1)) HTL.out HZ.out hk20).mono ?_
          rintro e w2 ⟨rfl, hb2⟩
          refine hK.out _ _ (show Below v.heap.size v w2 from below_trans hHeld1 hb2) (fun hHeld2 => ?_)
          have HS2 := Lib.hid (show ∀ W, (∃ u : Bel w2, W = u.w) → Below v.heap.size v W from fun W ⟨u, e⟩ => by subst e; exact below_trans hHeld2 u.ok)
          clear hK K r1 hHeld1 hb2
          (try simp only [Act.put, List.setIfInBounds_toArray, List.set_cons_zero, List.set_cons_succ])
          have q3 : ∀ u : Bel w2, u.w.cell? ⟨w.heap.size, 3, none⟩ = some (.int .i64 mn) := fun u => (K3.out _ (HS2.out _ ⟨u, rfl⟩)).2.2.2.1
          have q4 : ∀ u : Bel w2, u.w.cell? ⟨w.heap.size, 4, none⟩ = some (.int .i64 mx) := fun u => (K3.out _ (HS2.out _ ⟨u, rfl⟩)).2.2.2.2.1
          have q5 : ∀ u : Bel w2, u.w.cell? ⟨w.heap.size, 5, none⟩ = some (.slice (some ⟨b, off, none⟩) (k + 1) ca) := fun u => (K3.out _ (HS2.out _ ⟨u, rfl⟩)).2.2.2.2.2
          have p0 : ∀ u : Bel w2, u.w.cell? ⟨b, off, none⟩ = some (.int .i64 (iat top 0)) := fun u => HC.out _ (below_trans hbb (HS2.out _ ⟨u, rfl⟩)) 0 (by omega)
          have pk : ∀ u : Bel w2, u.w.cell? ⟨b, off + k, none⟩ = some (.int .i64 (lastOf top)) := fun u => by rw [← hlast]; exact HC.out _ (below_trans hbb (HS2.out _ ⟨u, rfl⟩)) k (by omega)
          refine wpAnyH_rest 6 (by kernel_rfl) (by kernel_rfl) (by kernel_rfl) ⟨⟨w2, Below.refl _ _⟩, rfl⟩ HS2.out ?_
          simp only [List.drop_succ_cons, List.drop_zero]
          by_cases hdesc : tp = top
          · have hds : decide (tp = top) = true := by simp [hdesc]
            rw [hds]
            have HDE := Lib.hid hdesc
            clear hdesc hds
            by_cases hmx : iat top 0 = mx
            · have hmx' : (iat top 0 != mx) = false := by simp [hmx]
              have HMX := Lib.hid hmx.symm
              clear hmx
              by_cases hml : lastOf top < mn
              · have hml' : decide (mn > lastOf top) = true := by simp; omega
                have hml2 : decide (lastOf top < mn) = true := by simp; omega
                have HN := Lib.hid (tf_no (show ¬ aggOk N z mn mx top from fun q => by have := HLE.out (HEND.out.1 q).2.2; omega))
                clear hml
                repeat (go_big_quiet_step (fail))
                refine wpQuiet_nil ?_
                rintro _ ⟨u, rfl⟩
                clear q3 q4 q5 p0 pk
                go_wp2
                go_ret
                exact ⟨ret_bool HN.out, below_trans hbb (HS2.out _ ⟨u, rfl⟩)⟩
              · have hml' : decide (mn > lastOf top) = false := by simp; omega
                have hml2 : decide (lastOf top < mn) = false := by simp; omega
                have HML := Lib.hid hml
                clear hml
                repeat (go_big_quiet_step (fail))
                refine wpQuiet_nil ?_
                rintro _ ⟨u, rfl⟩
                clear q3 q4 q5 p0 pk
                have hbW := HS2.out _ ⟨u, rfl⟩
                generalize u.w = w3 at *
                clear u hHeld2 HS2 hml' hml2 hmx'
                have HST := Lib.hid (show Own (w3.alloc (.cells #[.int .i64 0, .int .u64 0] 70)) w.heap.size 72 (agc N h lw mn mx (.slice (some ⟨b, off, none⟩) (k + 1) ca)) ∧ Own (w3.alloc (.cells #[.int .i64 0, .int .u64 0] 70)) w3.heap.size 70 [.int .i64 (hi (sumTo top 0)), .int .u64 (lo (sumTo top 0))] ∧ Below w.heap.size w (w3.alloc (.cells #[.int .i64 0, .int .u64 0] 70)) from
                  ⟨(HO.out.grow hbW).alloc _, Own.new w3 _ [.int .i64 0, .int .u64 0], below_trans (below_trans hbb hbW) (below_alloc w3 _)⟩)
                have hB3 : w.heap.size < w3.heap.size := by have := (HO.out.grow hbW).lt; omega
                clear K3 HO hb hbb hbW HT HTL
                go_wp2_with fail
                generalize hB : w3.heap.size = B3 at *
                clear hB
                go_loopw [4] (fun s4 wr => ∃ i : Nat, i ≤ k + 1 ∧ s4 = .int .i64 i ∧ Hid (Own wr w.heap.size 72 (agc N h lw mn mx (.slice (some ⟨b, off, none⟩) (k + 1) ca)) ∧ Own wr B3 70 [.int .i64 (hi (sumTo top i)), .int .u64 (lo (sumTo top i))] ∧ Below w.heap.size w wr)) (fun s4 _ => k + 1 - (intOf s4).toNat)
                case atStart => exact ⟨0, by omega, rfl, HST⟩
                case round =>
                  obtain ⟨i, hi1, rfl, HSR⟩ := hrel
                  clear HST
                  by_cases hlt : i < k + 1
                  · have hlt' : (i : Int) < (k : Int) + 1 := by omega
                    have HV := Lib.hid (H64.out _ (iat_mem (show i < top.length by rw [HZ.out]; exact hlt)))
                    have HS := Lib.hid (sumTo_succ (ts := top) (k := i) (by rw [HZ.out]; exact hlt))
                    have kc : ∀ u : Bel wr, u.w.cell? ⟨b, off + i, none⟩ = some (.int .i64 (iat top i)) := fun u => HC.out _ (below_trans HSR.out.2.2 u.ok) i hlt
                    have k5 : ∀ u : Bel wr, u.w.cell? ⟨w.heap.size, 5, none⟩ = some (.slice (some ⟨b, off, none⟩) (k + 1) ca) := fun u => (HSR.out.1.grow u.ok).six.2.2.2.2.2
                    have k0 : ∀ u : Bel wr, u.w.cell? ⟨B3, 0, none⟩ = some (.int .i64 (hi (sumTo top i))) := fun u => (HSR.out.2.1.grow u.ok).two.1
                    have k1 : ∀ u : Bel wr, u.w.cell? ⟨B3, 1, none⟩ = some (.int .u64 (lo (sumTo top i))) := fun u => (HSR.out.2.1.grow u.ok).two.2
                    have a5 := HSR.out.1.six.2.2.2.2.2
                    generalize sumTo top i = zi at *
                    generalize iat top i = vi at *
                    go_upto_region 11 with (fail)
                    clear a5
                    refine wp_region_belt 8 (by kernel_rfl) (by kernel_rfl) ?_
                    simp only [List.take_succ_cons, List.take_zero, List.drop_succ_cons, List.drop_zero]
                    repeat (go_big_quiet_step (first | (go_at_call 104; exact bel_of _ (specWideOf_any vi _ HV.out)) | (go_at_call 103; exact bel_of _ (specWideAdd_any _ _ _ _ zi vi _ rfl rfl rfl rfl))))
                    refine wpQuiet_nil ?_
                    rintro _ ⟨u, rfl⟩
                    clear k0 k1 k5 kc
                    have oA := HSR.out.1.grow u.ok
                    have oS := HSR.out.2.1.grow u.ok
                    have hb4 := below_trans HSR.out.2.2 u.ok
                    clear HSR
                    generalize u.w = w4 at *
                    obtain ⟨d0, d1⟩ := oS.two
                    have f0 := oS.free 0
                    have f1 := oS.free 1
                    have HN := Lib.hid (show Own ((w4.setCell ⟨B3, 0, none⟩ (.int .i64 (hi (zi + vi)))).setCell ⟨B3, 1, none⟩ (.int .u64 (lo (zi + vi)))) w.heap.size 72 (agc N h lw mn mx (.slice (some ⟨b, off, none⟩) (k + 1) ca)) ∧ Own ((w4.setCell ⟨B3, 0, none⟩ (.int .i64 (hi (zi + vi)))).setCell ⟨B3, 1, none⟩ (.int .u64 (lo (zi + vi)))) B3 70 [.int .i64 (hi (zi + vi)), .int .u64 (lo (zi + vi))] ∧ Below w.heap.size w ((w4.setCell ⟨B3, 0, none⟩ (.int .i64 (hi (zi + vi)))).setCell ⟨B3, 1, none⟩ (.int .u64 (lo (zi + vi)))) from
                      ⟨(oA.far (p := ⟨B3, 0, none⟩) (show w.heap.size ≠ B3 by omega) _).far (p := ⟨B3, 1, none⟩) (show w.heap.size ≠ B3 by omega) _, own_set2 oS _ _, below_set2 hb4 (Nat.le_of_lt hB3) _ _⟩)
                    clear oA oS hb4
                    go_wp2_with fail
                    go_roundw
                    case rel => exact ⟨i + 1, by omega, by go_num, by rw [HS.out]; exact HN⟩
                    case measure => simp [intOf]; omega
                  · have hik : i = k + 1 := by omega
                    subst hik
                    have hsum : sumTo top (k + 1) = top.sum := by unfold sumTo; rw [List.take_of_length_le (by rw [HZ.out]; omega)]
                    rw [hsum] at HSR
                    obtain ⟨a0, a1, a2, a3, a4, a5⟩ := HSR.out.1.six
                    have hrest : N - ((k : Int) + 1) = 0 ∨ 1 ≤ N - ((k : Int) + 1) := by omega
                    have HZW := Lib.hid hsum
                    clear hsum hlt
                    go_upto_region 13 with (fail)
                    clear a0 a1 a2 a3 a4 a5
                    rcases hrest with hr0 | hr1
                    · have hr0' : (N - ((k : Int) + 1) == 0) = true := by simp [hr0]
                      have HR := Lib.hid (HEND.out.trans (show _ ↔ mn = lastOf top ∧ z = top.sum from ⟨fun q => by have := q.2.2; unfold restOk at this; rwa [if_pos (by rw [HZ.out]; omega)] at this, fun q => ⟨HMX.out, HDE.out, by unfold restOk; rwa [if_pos (by rw [HZ.out]; omega)]⟩⟩))
                      have HWS := Lib.hid (wr_ends (a := mn) (f := 0) H64.out (by rw [HZ.out]; omega) rfl HMW.out.1 HMW.out.1 (by omega) (by omega)).2.2.2
                      have HPK := Lib.hid (fun W (hb : Below w.heap.size w W) => HC.out W hb k (by omega))
                      rw [hlast] at HPK
                      go_upto_region 14 with (fail)
                      have k1 : ∀ u : Bel wr, u.w.cell? ⟨w.heap.size, 1, none⟩ = some (.int .i64 h) := fun u => (HSR.out.1.grow u.ok).six.2.1
                      have k2 : ∀ u : Bel wr, u.w.cell? ⟨w.heap.size, 2, none⟩ = some (.int .u64 lw) := fun u => (HSR.out.1.grow u.ok).six.2.2.1
                      have k3 : ∀ u : Bel wr, u.w.cell? ⟨w.heap.size, 3, none⟩ = some (.int .i64 mn) := fun u => (HSR.out.1.grow u.ok).six.2.2.2.1
                      have k5 : ∀ u : Bel wr, u.w.cell? ⟨w.heap.size, 5, none⟩ = some (.slice (some ⟨b, off, none⟩) (k + 1) ca) := fun u => (HSR.out.1.grow u.ok).six.2.2.2.2.2
                      have s0 : ∀ u : Bel wr, u.w.cell? ⟨B3, 0, none⟩ = some (.int .i64 (hi top.sum)) := fun u => (HSR.out.2.1.grow u.ok).two.1
                      have s1 : ∀ u : Bel wr, u.w.cell? ⟨B3, 1, none⟩ = some (.int .u64 (lo top.sum)) := fun u => (HSR.out.2.1.grow u.ok).two.2
                      have pk : ∀ u : Bel wr, u.w.cell? ⟨b, off + k, none⟩ = some (.int .i64 (lastOf top)) := fun u => HPK.out _ (below_trans HSR.out.2.2 u.ok)
                      have HBE := Lib.hid HSR.out.2.2
                      have HEQ := Lib.hid (show z = top.sum ↔ h = hi top.sum ∧ lw = lo top.sum by rw [HE.out.1, HE.out.2]; exact eq_words HMW.out.2 HWS.out)
                      clear HSR HC HT HA HLE HE HEND HZW
                      generalize top.sum = S at *
                      generalize lastOf top = last at *
                      by_cases hml : mn = last
                      · have hml' : (mn == last) = true := by simp [hml]
                        have HML := Lib.hid hml
                        clear hml
                        generalize hi S = hs at *
                        generalize lo S = ls at *
                        by_cases e1 : h = hs
                        · have e1' : (h == hs) = true := by simp [e1]
                          by_cases e2 : lw = ls
                          · have e2' : (lw == ls) = true := by simp [e2]
                            have HN := Lib.hid (tf_yes (HR.out.2 ⟨HML.out, HEQ.out.2 ⟨e1, e2⟩⟩))
                            clear e1 e2
                            refine wp_region_bel (by kernel_rfl) (by kernel_rfl) ?_
                            repeat (go_big_quiet_step (fail))
                            refine wpQuiet_nil ?_
                            rintro _ ⟨u, rfl⟩
                            clear k1 k2 k3 k5 s0 s1 pk
                            go_wp2
                            go_ret
                            exact ⟨ret_bool HN.out, below_trans HBE.out u.ok⟩
                          · have e2' : (lw == ls) = false := by simp [e2]
                            have HN := Lib.hid (tf_no (show ¬ aggOk N z mn mx top from fun q => e2 (HEQ.out.1 (HR.out.1 q).2).2))
                            clear e1 e2
                            refine wp_region_bel (by kernel_rfl) (by kernel_rfl) ?_
                            repeat (go_big_quiet_step (fail))
                            refine wpQuiet_nil ?_
                            rintro _ ⟨u, rfl⟩
                            clear k1 k2 k3 k5 s0 s1 pk
                            go_wp2
                            go_ret
                            exact ⟨ret_bool HN.out, below_trans HBE.out u.ok⟩
                        · have e1' : (h == hs) = false := by simp [e1]
                          have HN := Lib.hid (tf_no (show ¬ aggOk N z mn mx top from fun q => e1 (HEQ.out.1 (HR.out.1 q).2).1))
                          clear e1
                          refine wp_region_bel (by kernel_rfl) (by kernel_rfl) ?_
                          repeat (go_big_quiet_step (fail))
                          refine wpQuiet_nil ?_
                          rintro _ ⟨u, rfl⟩
                          clear k1 k2 k3 k5 s0 s1 pk
                          go_wp2
                          go_ret
                          exact ⟨ret_bool HN.out, below_trans HBE.out u.ok⟩
                      · have hml' : (mn == last) = false := by simp [hml]
                        have HN := Lib.hid (tf_no (show ¬ aggOk N z mn mx top from fun q => hml (HR.out.1 q).1))
                        clear hml
                        refine wp_region_bel (by kernel_rfl) (by kernel_rfl) ?_
                        repeat (go_big_quiet_step (fail))
                        refine wpQuiet_nil ?_
                        rintro _ ⟨u, rfl⟩
                        clear k1 k2 k3 k5 s0 s1 pk
                        go_wp2
                        go_ret
                        exact ⟨ret_bool HN.out, below_trans HBE.out u.ok⟩
                    · have hr0' : (N - ((k : Int) + 1) == 0) = false := by rw [beq_eq_false_iff_ne]; omega
                      have hk : k = 3 := by
                        have e : ((k + 1 : Nat) : Int) = M4 := by simpa using hl1
                        split at hM4 <;> omega
                      have HR := Lib.hid (HEND.out.trans (show _ ↔ mn ≤ iat top 3 ∧ top.sum + (N - top.length) * mn ≤ z ∧ z ≤ top.sum + mn + (N - top.length - 1) * iat top 3 from ⟨fun q => (rest_model (by rw [HZ.out]; omega) (by rw [HZ.out, hk])).1 q.2.2, fun q => ⟨HMX.out, HDE.out, (rest_model (by rw [HZ.out]; omega) (by rw [HZ.out, hk])).2 q⟩⟩))
                      rw [HZ.out, show ((k + 1 : Nat) : Int) = (k : Int) + 1 from rfl] at HR
                      obtain ⟨f, hff, hf1, hf2⟩ : ∃ f : Int, N - ((k : Int) + 1) = f ∧ 1 ≤ f ∧ f ≤ 1000000 := ⟨_, rfl, hr1, by omega⟩
                      rw [hff] at HR hr0' ⊢
                      have hL64 : I64 (iat top 3) := H64.out _ (iat_mem (by rw [HZ.out]; omega))
                      have hw1 : IntKind.i64.wrap f = f := by rw [IntKind.wrap_i64]; omega
                      have hw2 : IntKind.i64.wrap (f - 1) = f - 1 := by rw [IntKind.wrap_i64]; omega
                      have HWR := Lib.hid (And.intro (show _ ≤ f * mn ∧ f * mn ≤ _ by rw [Int.mul_comm]; exact mul_bound HMW.out.1 (show 0 ≤ f by omega) hf2) (And.intro (show _ ≤ (f - 1) * iat top 3 ∧ (f - 1) * iat top 3 ≤ _ by rw [Int.mul_comm]; exact mul_bound hL64 (show 0 ≤ f - 1 by omega) (by omega)) (And.intro (sum_bound H64.out) HMW.out.1)))
                      rw [HZ.out, hk] at HWR
                      have HPK := Lib.hid (fun W (hb : Below w.heap.size w W) => HC.out W hb 3 (by omega))
                      have HL := Lib.hid hL64
                      subst hk
                      go_upto_region 15 with (fail)
                      rw [← hlast] at HML
                      clear HT HA HLE HEND HZW hL64 hlast HC
                      have HO1 := Lib.hid HSR.out.1
                      have HO3 := Lib.hid HSR.out.2.1
                      have HB := Lib.hid HSR.out.2.2
                      clear HSR
                      generalize top.sum = S at *
                      generalize iat top 3 = last at *
                      have HC1 := Lib.hid (fun W => l07Times_any f mn W (by unfold I64; omega) HMW.out.1)
                      have HC2 := Lib.hid (fun W => l07Times_any (f - 1) last W (by unfold I64; omega) HL.out)
                      generalize hp1 : f * mn = P1 at *
                      generalize hp2 : (f - 1) * last = P2 at *
                      refine wp_region_box 6 6 70 [.int .i64 0, .int .u64 0] (by kernel_rfl) (by kernel_rfl) rfl rfl rfl rfl (by kernel_rfl) (fun a w => by simp [execOp, go_sem, ptr]) ?_
                      apply Exists.intro
                      refine And.intro ?walk6 ?rest6
                      case walk6 =>
                        intro w6 hb6
                        have f0 : ∀ u : Bel w6, u.w.cell? ⟨B3, 0, none⟩ = some (.int .i64 (hi S)) := fun u => ((HO3.out.grow hb6).grow u.ok).two.1
                        have f1 : ∀ u : Bel w6, u.w.cell? ⟨B3, 1, none⟩ = some (.int .u64 (lo S)) := fun u => ((HO3.out.grow hb6).grow u.ok).two.2
                        have f3 : ∀ u : Bel w6, u.w.cell? ⟨w.heap.size, 3, none⟩ = some (.int .i64 mn) := fun u => ((HO1.out.grow hb6).grow u.ok).six.2.2.2.1
                        show wpQuiet _ _ _ _ [_, _, _, _, _, _] _
                        repeat (go_big_quiet_step (first | (go_at_call 105; exact bel_of _ (HC1.out _)) | (go_at_call 103; exact bel_of _ (specWideAdd_any _ _ _ _ S P1 _ rfl rfl rfl rfl))))
                        exact wpQuiet_nil rfl
                      case rest6 =>
                      intro X6 w6 hbb hO6 hw6
                      show wpList _ _ _ [_] _ _
                      simp only [Act.put, ptr]
                      have ff0 := hO6.free 0
                      have ff1 := hO6.free 1
                      obtain ⟨c0, c1⟩ := hO6.two
                      have HX6 := Lib.hid (own_set2 hO6 (.int .i64 (hi (S + P1))) (.int .u64 (lo (S + P1))))
                      have hT := below_set2 hw6 hbb (.int .i64 (hi (S + P1))) (.int .u64 (lo (S + P1)))
                      have HO3' := Lib.hid (HO3.out.grow hT)
                      have HO1' := Lib.hid (HO1.out.grow hT)
                      have HB' := Lib.hid (below_trans HB.out hT)
                      clear HO3 HO1 HB hT hO6 hw6 hbb
                      go_upto_region 16 with (fail)
                      clear ff0 ff1 c0 c1
                      generalize (w6.setCell ⟨X6, 0, none⟩ (.int .i64 (hi (S + P1)))).setCell ⟨X6, 1, none⟩ (.int .u64 (lo (S + P1))) = w7 at *
                      have HW := Lib.hid HMW.out.1
                      refine wp_region_box 13 7 70 [.int .i64 0, .int .u64 0] (by kernel_rfl) (by kernel_rfl) rfl rfl rfl rfl (by kernel_rfl) (fun a w => by simp [execOp, go_sem, ptr]) ?_
                      apply Exists.intro
                      refine And.intro ?walk7 ?rest7
                      case walk7 =>
                        intro w6 hb6
                        have f0 : ∀ u : Bel w6, u.w.cell? ⟨B3, 0, none⟩ = some (.int .i64 (hi S)) := fun u => ((HO3'.out.grow hb6).grow u.ok).two.1
                        have f1 : ∀ u : Bel w6, u.w.cell? ⟨B3, 1, none⟩ = some (.int .u64 (lo S)) := fun u => ((HO3'.out.grow hb6).grow u.ok).two.2
                        have f3 : ∀ u : Bel w6, u.w.cell? ⟨w.heap.size, 3, none⟩ = some (.int .i64 mn) := fun u => ((HO1'.out.grow hb6).grow u.ok).six.2.2.2.1
                        have f5 : ∀ u : Bel w6, u.w.cell? ⟨w.heap.size, 5, none⟩ = some (.slice (some ⟨b, off, none⟩) (3 + 1) ca) := fun u => ((HO1'.out.grow hb6).grow u.ok).six.2.2.2.2.2
                        have fk : ∀ u : Bel w6, u.w.cell? ⟨b, off + 3, none⟩ = some (.int .i64 last) := fun u => HPK.out _ (below_trans HB'.out (below_trans hb6 u.ok))
                        show wpQuiet _ _ _ _ [_, _, _, _, _, _, _, _, _, _, _, _, _] _
                        repeat (go_big_quiet_step (first | (go_at_call 104; exact bel_of _ (specWideOf_any mn _ HW.out)) | (go_at_call 105; exact bel_of _ (HC2.out _)) | (go_at_call 103; exact bel_of _ (specWideAdd_any _ _ _ _ S mn _ rfl rfl rfl rfl)) | (go_at_call 103; exact bel_of _ (specWideAdd_any _ _ _ _ (S + mn) P2 _ rfl rfl rfl rfl))))
                        exact wpQuiet_nil rfl
                      case rest7 =>
                      intro X7 w6 hbb hO6 hw6
                      show wpList _ _ _ [_] _ _
                      simp only [Act.put, ptr]
                      have ff0 := hO6.free 0
                      have ff1 := hO6.free 1
                      obtain ⟨c0, c1⟩ := hO6.two
                      have HX7 := Lib.hid (own_set2 hO6 (.int .i64 (hi (S + mn + P2))) (.int .u64 (lo (S + mn + P2))))
                      have hT := below_set2 hw6 hbb (.int .i64 (hi (S + mn + P2))) (.int .u64 (lo (S + mn + P2)))
                      have HX6' := Lib.hid (HX6.out.grow hT)
                      have HO1 := Lib.hid (HO1'.out.grow hT)
                      have HB := Lib.hid (below_trans HB'.out hT)
                      clear HO3' HO1' HB' hT hO6 hw6 hbb HX6 HC1 HC2
                      go_upto_region 17 with (fail)
                      clear ff0 ff1 c0 c1
                      generalize (w6.setCell ⟨X7, 0, none⟩ (.int .i64 (hi (S + mn + P2)))).setCell ⟨X7, 1, none⟩ (.int .u64 (lo (S + mn + P2))) = w8 at *
                      have HWA := Lib.hid (show Wr (S + P1) ∧ Wr (S + mn + P2) from by
                        obtain ⟨q1, q2, q3, q4⟩ := HWR.out
                        unfold I64 at q4
                        unfold Wr
                        omega)
                      obtain ⟨x0, x1⟩ := HX6'.out.two
                      obtain ⟨y0, y1⟩ := HX7.out.two
                      obtain ⟨a0, a1, a2, a3, a4, a5⟩ := HO1.out.six
                      have HC1 := Lib.hid (fun W => specWideCmp_any h lw (hi (S + P1)) (lo (S + P1)) z (S + P1) W HMW.out.2 HWA.out.1 HE.out.1 HE.out.2 rfl rfl)
                      have HC2 := Lib.hid (fun W => specWideCmp_any h lw (hi (S + mn + P2)) (lo (S + mn + P2)) z (S + mn + P2) W HMW.out.2 HWA.out.2 HE.out.1 HE.out.2 rfl rfl)
                      have h1 := cmp3_ge z (S + P1)
                      have h2 := cmp3_le z (S + mn + P2)
                      generalize cmp3 z (S + P1) = r1 at *
                      generalize cmp3 z (S + mn + P2) = r2 at *
                      by_cases hr1 : 0 ≤ r1
                      · have hd2 : decide (r1 ≥ 0) = true := by simp [hr1]
                        have hd3 : decide (0 ≤ r1) = true := by simp [hr1]
                        have H1 := Lib.hid (h1.1 hr1)
                        have H2 := Lib.hid h2
                        clear h1 h2 hr1
                        go_wp2_with fail
                        refine (HC1.out _).mono ?_
                        rintro e w9 ⟨rfl, hb9⟩
                        obtain ⟨y0, y1⟩ := (HX7.out.grow hb9).two
                        obtain ⟨a0, a1, a2, a3, a4, a5⟩ := (HO1.out.grow hb9).six
                        have hb10 := below_trans HB.out hb9
                        clear hb9
                        go_wp2_with fail
                        refine (HC2.out _).mono ?_
                        rintro e w10 ⟨rfl, hb11⟩
                        replace hb10 := below_trans hb10 hb11
                        go_wp2
                        go_ret
                        refine ⟨ret_bool ?_, hb10⟩
                        by_cases hr2 : r2 ≤ 0
                        · rw [← tf_yes (HR.out.2 ⟨HML.out, H1.out, H2.out.1 hr2⟩)]; simp [hr2]
                        · rw [← tf_no (fun q => hr2 (H2.out.2 (HR.out.1 q).2.2))]; simp; omega
                      · have hd2 : decide (r1 ≥ 0) = false := by simp; omega
                        have hd3 : decide (0 ≤ r1) = false := by simp; omega
                        have HN := Lib.hid (tf_no (show ¬ aggOk N z mn mx top from fun q => hr1 (h1.2 (HR.out.1 q).2.1)))
                        clear h1 h2 hr1
                        go_wp2_with fail
                        refine (HC1.out _).mono ?_
                        rintro e w9 ⟨rfl, hb9⟩
                        have hb10 := below_trans HB.out hb9
                        go_wp2
                        go_ret
                        exact ⟨ret_bool HN.out, hb10⟩
            · have hmx' : (iat top 0 != mx) = true := by simp [hmx]
              have HN := Lib.hid (tf_no (show ¬ aggOk N z mn mx top from fun q => hmx (HEND.out.1 q).1.symm))
              clear hmx
              repeat (go_big_quiet_step (fail))
              refine wpQuiet_nil ?_
              rintro _ ⟨u, rfl⟩
              clear q3 q4 q5 p0 pk
              go_wp2
              go_ret
              exact ⟨ret_bool HN.out, below_trans hbb (HS2.out _ ⟨u, rfl⟩)⟩
          · have hds : decide (tp = top) = false := by simp [hdesc]
            rw [hds]
            have HN := Lib.hid (tf_no (show ¬ aggOk N z mn mx top from fun q => hdesc (HEND.out.1 q).2.1))
            clear hdesc hds
            repeat (go_big_quiet_step (fail))
            refine wpQuiet_nil ?_
            rintro _ ⟨u, rfl⟩
            clear q3 q4 q5 p0 pk
            go_wp2
            go_ret
            exact ⟨ret_bool HN.out, below_trans hbb (HS2.out _ ⟨u, rfl⟩)⟩
        · have hl1 : ((n : Int) != M4) = true := by simp [hl]
          have HN := Lib.hid (tf_no (show ¬ aggOk N z mn mx top from fun q => hl (by have := (HS.out.1 q).2.2.1; rwa [hz, hM4] at this)))
          clear hA hz h64 hm hw eh el
          go_enter Try.func78, Try.ntmps78
          go_wp2
          go_ret
          exact ⟨ret_bool HN.out, hb⟩
end Go.Proofs.Ytlmlckgnmkjkdaa

/-
  AggDone of the model: what it returns.
-/
namespace Go.Proofs.Ytlmlckgnmkjkdaa
open Go.RowKit

set_option maxRecDepth 100000 in
set_option maxHeartbeats 4000000 in
theorem specAggDone_any (q k N z mn mx m : Int) (ok : Bool) (A : Option Addr) (n ca : Nat) (top : List Int) (L : List Int) (ln : Nat) (b : Bool) (w : World) (hA : Rd w A (iz top)) (hz : top.length = n) (hn : n ≤ 1048576) (hf : SFit A n ca)
    (h64 : ∀ x ∈ top, I64 x) (hm : I64 mn) (hw : Wr z)
    (HM : ∀ W, Calls Try.prog 108 #[.agg #[.int .i64 (hi z), .int .u64 (lo z)], .int .i64 N] W (IntRes W m ok)) (hD : DoneIs q k N z mn mx m top L b) (hL : L.length = ln) :
    Calls Try.prog 79 #[.int .i64 q, .int .i64 k, agv N (hi z) (lo z) mn mx (.slice A n ca)] w (DoneRes L ln b w) := by
  have HO := Lib.hid (fun W (hb : Below w.heap.size w W) => specAggOk_any N z mn mx _ _ A n ca top W (hA.below hb) hz hn hf h64 hm hw rfl rfl)
  have HA := Lib.hid (fun W (hb : Below w.heap.size w W) => hA.below hb)
  have o1 := Own.new w 72 (agc N (hi z) (lo z) mn mx (.slice A n ca))
  have hb := below_alloc w (.cells (agc N (hi z) (lo z) mn mx (.slice A n ca)).toArray 72)
  obtain ⟨b0, b1, b2, b3, b4, b5⟩ := o1.six
  have HW := Lib.hid hw
  have HMM := Lib.hid HM
  clear h64 hm hA hw HM
  by_cases ho : aggOk N z mn mx top
  · replace HO := Lib.hid (fun W hb => as_bool (tf_yes ho).symm (HO.out W hb))
    by_cases h0 : N = 0
    · obtain ⟨rfl, rfl⟩ := hD.no (fun h => h.2.1 h0)
      subst h0
      obtain rfl : ln = 0 := hL.symm
      clear ho hD HMM hf hL
      go_enter Try.func79, Try.ntmps79
      go_wp2_with fail
      clear b0 b1 b2 b3 b4 b5
      refine (HO.out _ hb).mono ?_
      rintro e w2 ⟨rfl, hb2⟩
      replace o1 := o1.grow hb2
      replace hb := below_trans hb hb2
      clear hb2
      obtain ⟨b0, b1, b2, b3, b4, b5⟩ := o1.six
      go_wp2
      go_ret2
      exact ⟨none, 0, rfl, row_nil, hb⟩
    · have h0' : (N == 0) = false := by simp [h0]
      by_cases hk : kindOk q k
      · have HK := Lib.hid (fun W => as_bool (tf_yes hk).symm (specAggKind_any q k W))
        have hd : doneOk q k N z mn mx top := ⟨hk, h0, ho⟩
        obtain ⟨t1, t2, t3, t4⟩ := aggOk_top0 ho h0
        have hq : q = 1 ∨ q = 2 ∨ q = 3 ∨ q = 4 ∨ q = 5 ∨ q = 6 ∧ 1 ≤ k := by unfold kindOk at hk; omega
        rcases hq with hq | hq | hq | hq | hq | ⟨hq, hk1⟩
        · subst hq
          obtain ⟨rfl, rfl⟩ := hD.one hd rfl
          obtain rfl : ln = 1 := hL.symm
          clear hd ho hD hk HMM hf h0 t1 t2 t3 t4 hL
          go_enter Try.func79, Try.ntmps79
          go_wp2_with fail
          clear b0 b1 b2 b3 b4 b5
          refine (HO.out _ hb).mono ?_
          rintro e w2 ⟨rfl, hb2⟩
          replace o1 := o1.grow hb2
          replace hb := below_trans hb hb2
          clear hb2
          obtain ⟨b0, b1, b2, b3, b4, b5⟩ := o1.six
          go_wp2_with fail
          refine (HK.out _).mono ?_
          rintro e _ ⟨rfl, rfl⟩
          go_wp2
          go_ret2
          exact ⟨_, _, rfl, row_int N hb, below_trans hb (below_alloc _ _)⟩
        · subst hq
          by_cases hi64 : I64 z
          · obtain ⟨rfl, rfl⟩ := hD.sum hd rfl hi64
            obtain rfl : ln = 1 := hL.symm
            have HS := Lib.hid (fun W => specWideInt_yes _ _ z W hi64 rfl rfl)
            clear hd ho hD hk HMM hf h0 t1 t2 t3 t4 hL
            go_enter Try.func79, Try.ntmps79
            go_wp2_with fail
            clear b0 b1 b2 b3 b4 b5
            refine (HO.out _ hb).mono ?_
            rintro e w2 ⟨rfl, hb2⟩
            replace o1 := o1.grow hb2
            replace hb := below_trans hb hb2
            clear hb2
            obtain ⟨b0, b1, b2, b3, b4, b5⟩ := o1.six
            go_wp2_with fail
            refine (HK.out _).mono ?_
            rintro e _ ⟨rfl, rfl⟩
            go_wp2_with fail
            clear b0 b1 b2 b3 b4 b5 o1
            refine (HS.out _).mono ?_
            rintro e w3 ⟨rfl, hb3⟩
            replace hb := below_trans hb hb3
            clear hb3
            go_wp2
            go_ret2
            exact ⟨_, _, rfl, row_int z hb, below_trans hb (below_alloc _ _)⟩
          · obtain ⟨rfl, rfl⟩ := hD.over hd rfl hi64
            obtain rfl : ln = 0 := hL.symm
            have HS := Lib.hid (fun W => specWideInt_no _ _ z W HW.out hi64 rfl rfl)
            clear hd ho hD hk HMM hf h0 t1 t2 t3 t4 hL
            go_enter Try.func79, Try.ntmps79
            go_wp2_with fail
            clear b0 b1 b2 b3 b4 b5
            refine (HO.out _ hb).mono ?_
            rintro e w2 ⟨rfl, hb2⟩
            replace o1 := o1.grow hb2
            replace hb := below_trans hb hb2
            clear hb2
            obtain ⟨b0, b1, b2, b3, b4, b5⟩ := o1.six
            go_wp2_with fail
            refine (HK.out _).mono ?_
            rintro e _ ⟨rfl, rfl⟩
            go_wp2_with fail
            clear b0 b1 b2 b3 b4 b5 o1
            refine (HS.out _).mono ?_
            rintro e w3 ⟨rfl, hb3⟩
            replace hb := below_trans hb hb3
            clear hb3
            go_wp2
            go_ret2
            exact ⟨_, _, rfl, row_nil, hb⟩
        · subst hq
          obtain ⟨rfl, rfl⟩ := hD.least hd rfl
          obtain rfl : ln = 1 := hL.symm
          clear hd ho hD hk HMM hf h0 t1 t2 t3 t4 hL
          go_enter Try.func79, Try.ntmps79
          go_wp2_with fail
          clear b0 b1 b2 b3 b4 b5
          refine (HO.out _ hb).mono ?_
          rintro e w2 ⟨rfl, hb2⟩
          replace o1 := o1.grow hb2
          replace hb := below_trans hb hb2
          clear hb2
          obtain ⟨b0, b1, b2, b3, b4, b5⟩ := o1.six
          go_wp2_with fail
          refine (HK.out _).mono ?_
          rintro e _ ⟨rfl, rfl⟩
          go_wp2
          go_ret2
          exact ⟨_, _, rfl, row_int mn hb, below_trans hb (below_alloc _ _)⟩
        · subst hq
          obtain ⟨rfl, rfl⟩ := hD.most hd rfl
          obtain rfl : ln = 1 := hL.symm
          clear hd ho hD hk HMM hf h0 t1 t2 t3 t4 hL
          go_enter Try.func79, Try.ntmps79
          go_wp2_with fail
          clear b0 b1 b2 b3 b4 b5
          refine (HO.out _ hb).mono ?_
          rintro e w2 ⟨rfl, hb2⟩
          replace o1 := o1.grow hb2
          replace hb := below_trans hb hb2
          clear hb2
          obtain ⟨b0, b1, b2, b3, b4, b5⟩ := o1.six
          go_wp2_with fail
          refine (HK.out _).mono ?_
          rintro e _ ⟨rfl, rfl⟩
          go_wp2
          go_ret2
          exact ⟨_, _, rfl, row_int mx hb, below_trans hb (below_alloc _ _)⟩
        · subst hq
          obtain ⟨rfl, rfl⟩ := hD.mean hd rfl
          obtain rfl : ln = 1 := hL.symm
          clear hd ho hD hk hf h0 t1 t2 t3 t4 hL
          go_enter Try.func79, Try.ntmps79
          go_wp2_with fail
          clear b0 b1 b2 b3 b4 b5
          refine (HO.out _ hb).mono ?_
          rintro e w2 ⟨rfl, hb2⟩
          replace o1 := o1.grow hb2
          replace hb := below_trans hb hb2
          clear hb2
          obtain ⟨b0, b1, b2, b3, b4, b5⟩ := o1.six
          go_wp2_with fail
          refine (HK.out _).mono ?_
          rintro e _ ⟨rfl, rfl⟩
          go_wp2_with fail
          clear b0 b1 b2 b3 b4 b5 o1
          refine (HMM.out _).mono ?_
          rintro e w3 ⟨rfl, hb3⟩
          replace hb := below_trans hb hb3
          clear hb3
          go_wp2
          go_ret2
          exact ⟨_, _, rfl, row_int m hb, below_trans hb (below_alloc _ _)⟩
        · subst hq
          obtain ⟨rfl, rfl⟩ := hD.top hd rfl
          obtain ⟨p, hp, hmin, hL1, hL2⟩ := take_pick hz hk1
          obtain rfl : ln = p := hL.symm.trans hL2
          rw [hL1]
          obtain ⟨ad, rfl⟩ := some_of hf (by omega)
          have HF := Lib.hid (fun W (hb : Below w.heap.size w W) => int_front (HA.out W hb) hz (by omega) hp hf)
          have hsl := (HF.out _ (Below.refl _ _)).1
          have HL := Lib.hid (show (iz (top.take ln)).length = ln * 1 by rw [iz_length, ← hL1, hL2, Nat.mul_one])
          have HN : Hid (0 + ln ≤ 2097152) := Lib.hid (by omega)
          clear hd ho hD hk HMM hf h0 t1 t2 t3 t4 hL hL1 hL2 hp HW
          go_enter Try.func79, Try.ntmps79
          go_wp2_with fail
          clear b0 b1 b2 b3 b4 b5
          refine (HO.out _ hb).mono ?_
          rintro e w2 ⟨rfl, hb2⟩
          replace o1 := o1.grow hb2
          replace hb := below_trans hb hb2
          clear hb2
          have HB := Lib.hid (below_trans hb (below_alloc w2 (.cells #[] 3)))
          have HE := Lib.hid (owns_empty (size := 1) (Own.new w2 3 []) (show w.heap.size ≤ w2.heap.size from hb.size))
          have b0 := (o1.alloc (.cells #[] 3)).six
          replace o1 := o1.six
          obtain ⟨b0, b1, b2, b3, b4, b5⟩ := b0
          obtain ⟨c0, c1, c2, c3, c4, c5⟩ := o1
          go_wp2_with fail
          refine (HK.out _).mono ?_
          rintro e _ ⟨rfl, rfl⟩
          go_wp2_with (at_builtin; refine appInt.rd rfl _ (.tmp 74) rfl w.heap.size (.slice (some ⟨w2.heap.size, 0, none⟩) 0 0) 0 [] rfl HE.out (some ad) ln ca (iz (top.take ln)) rfl (HF.out _ HB.out).2.1 (HF.out _ HB.out).2.2 HL.out (iz_one _) HN HB.out.size ?_; intro A' c' w3 hown hgrow hb3; rw [Nat.zero_add, List.nil_append] at hown; rw [Nat.zero_add])
          have hb4 := HB.out.trans hb3
          have r3 := RowAt.of hown
          clear b0 b1 b2 b3 b4 b5 c0 c1 c2 c3 c4 c5
          go_wp2
          go_ret2
          exact ⟨A', c', rfl, r3, hb4⟩
      · obtain ⟨rfl, rfl⟩ := hD.no (fun h => hk h.1)
        obtain rfl : ln = 0 := hL.symm
        have HK := Lib.hid (fun W => as_bool (tf_no hk).symm (specAggKind_any q k W))
        clear hk hD HMM hf hL h0 ho
        go_enter Try.func79, Try.ntmps79
        go_wp2_with fail
        clear b0 b1 b2 b3 b4 b5
        refine (HO.out _ hb).mono ?_
        rintro e w2 ⟨rfl, hb2⟩
        replace o1 := o1.grow hb2
        replace hb := below_trans hb hb2
        clear hb2
        obtain ⟨b0, b1, b2, b3, b4, b5⟩ := o1.six
        go_wp2_with fail
        refine (HK.out _).mono ?_
        rintro e _ ⟨rfl, rfl⟩
        go_wp2
        go_ret2
        exact ⟨none, 0, rfl, row_nil, hb⟩
  · obtain ⟨rfl, rfl⟩ := hD.no (fun h => ho h.2.2)
    obtain rfl : ln = 0 := hL.symm
    replace HO := Lib.hid (fun W hb => as_bool (tf_no ho).symm (HO.out W hb))
    clear hD HMM hf ho hL
    go_enter Try.func79, Try.ntmps79
    go_wp2_with fail
    clear b0 b1 b2 b3 b4 b5
    refine (HO.out _ hb).mono ?_
    rintro e w2 ⟨rfl, hb2⟩
    replace hb := below_trans hb hb2
    go_wp2
    go_ret2
    exact ⟨none, 0, rfl, row_nil, hb⟩

end Go.Proofs.Ytlmlckgnmkjkdaa

/-
  PaneOf, the model's and the program's: what they return. WRITTEN BY tools/genpof.py.
-/
namespace Go.Proofs.Ytlmlckgnmkjkdaa
open Go.RowKit

theorem boxes_four {w : World} {c1 c2 c3 c4 : List Value} {t1 t2 t3 t4 : TypeId} :
    Own ((((w.alloc (.cells c1.toArray t1)).alloc (.cells c2.toArray t2)).alloc (.cells c3.toArray t3)).alloc (.cells c4.toArray t4)) w.heap.size t1 c1 ∧
    Own ((((w.alloc (.cells c1.toArray t1)).alloc (.cells c2.toArray t2)).alloc (.cells c3.toArray t3)).alloc (.cells c4.toArray t4)) (w.heap.size + 1) t2 c2 ∧
    Own ((((w.alloc (.cells c1.toArray t1)).alloc (.cells c2.toArray t2)).alloc (.cells c3.toArray t3)).alloc (.cells c4.toArray t4)) (w.heap.size + 1 + 1) t3 c3 ∧
    Own ((((w.alloc (.cells c1.toArray t1)).alloc (.cells c2.toArray t2)).alloc (.cells c3.toArray t3)).alloc (.cells c4.toArray t4)) (w.heap.size + 1 + 1 + 1) t4 c4 ∧
    Below w.heap.size w ((((w.alloc (.cells c1.toArray t1)).alloc (.cells c2.toArray t2)).alloc (.cells c3.toArray t3)).alloc (.cells c4.toArray t4)) ∧
    ((((w.alloc (.cells c1.toArray t1)).alloc (.cells c2.toArray t2)).alloc (.cells c3.toArray t3)).alloc (.cells c4.toArray t4)).heap.size = w.heap.size + 4 := by
  obtain ⟨h1, h2, h3, h4, h5⟩ := box_three (w := w) (c1 := c1) (c2 := c2) (c3 := c3) (t1 := t1) (t2 := t2) (t3 := t3)
  refine ⟨h1.alloc _, h2.alloc _, h3.alloc _, ?_, below_trans h4 (below_alloc _ _), by simp⟩
  have := Own.new (((w.alloc (.cells c1.toArray t1)).alloc (.cells c2.toArray t2)).alloc (.cells c3.toArray t3)) t4 c4
  simpa using this

/-- the pane and the answer; L and ov are what AggDone answers -/
def pofOk (id : Int) (fs ms : List (Int × Int)) (kd s st kq kk key f t lab N z mn mx : Int) (top L : List Int) (ov : Bool) : Prop :=
  queryOk fs ms kd s st kq kk ∧ aggOk N z mn mx top ∧ N ≠ 0 ∧ paneOk id key f t lab N L.length ov
structure PofIs (ok : Prop) (id key f t lab N : Int) (L : List Int) (ov : Bool) (q k f' t' l n : Int) (R : List Int) (o b : Bool) : Prop where
  yes : ok → (id = q ∧ key = k ∧ f = f' ∧ t = t' ∧ lab = l ∧ N = n) ∧ L = R ∧ ov = o ∧ b = true
  no : ¬ ok → (q = 0 ∧ k = 0 ∧ f' = 0 ∧ t' = 0 ∧ l = 0 ∧ n = 0) ∧ R = [] ∧ o = false ∧ b = false
theorem pof_some (ok : Prop) (id key f t lab N : Int) (L : List Int) (ov : Bool) : ∃ q k f' t' l n R o b, PofIs ok id key f t lab N L ov q k f' t' l n R o b := by
  by_cases h : ok
  · exact ⟨id, key, f, t, lab, N, L, ov, true, fun _ => ⟨⟨rfl, rfl, rfl, rfl, rfl, rfl⟩, rfl, rfl, rfl⟩, fun h' => absurd h h'⟩
  · exact ⟨0, 0, 0, 0, 0, 0, [], false, false, fun h' => absurd h' h, fun _ => ⟨⟨rfl, rfl, rfl, rfl, rfl, rfl⟩, rfl, rfl, rfl⟩⟩
/-- A call that hands back a pane and a truth value, the pane's numbers in a row of its own. -/
def PaneRes (q k f t l n : Int) (R : List Int) (m : Nat) (o b : Bool) (w : World) (e : Ending) (w' : World) : Prop :=
  ∃ A c, e = .returned (.tuple #[pav q k f t l n (.slice A m c) o, .bool b]) ∧ RowAt w.heap.size w'.heap.size w' 3 1 (.slice A m c) m (iz R) ∧ Below w.heap.size w w'
theorem done_pane {q k N z mn mx me : Int} {top L : List Int} {b : Bool} (h : DoneIs q k N z mn mx me top L b) {id key f t lab : Int} (hp : paneOk id key f t lab N L.length b) : aggOk N z mn mx top ∧ N ≠ 0 := by
  by_cases hd : doneOk q k N z mn mx top
  · exact ⟨hd.2.2, hd.2.1⟩
  · obtain ⟨rfl, rfl⟩ := h.no hd
    have := hp.2.2.2.2.2.2
    simp at this
theorem RowAt.top {lo hi hi' s n : Nat} {w : World} {t : TypeId} {v : Value} {cs : List Value} (h : RowAt lo hi w t s v n cs) (hh : hi ≤ hi') : RowAt lo hi' w t s v n cs := ⟨h.1, fun k hk => Nat.lt_of_lt_of_le (h.2 k hk) hh⟩

set_option maxRecDepth 100000 in
set_option maxHeartbeats 8000000 in
theorem implPaneOf_any (id : Int) (F : Option Addr) (n cf : Nat) (fs : List (Int × Int)) (M : Option Addr) (m cm : Nat) (ms : List (Int × Int)) (kd s st kq kk key f t lab N z mn mx me : Int) (ok : Bool) (A : Option Addr) (j ca : Nat) (top L : List Int) (ov : Bool)
    (rq rk rf rt rl rn : Int) (R : List Int) (ln : Nat) (ro rb : Bool) (w : World)
    (hF : Rd w F (ez fs)) (hz : fs.length = n) (hn : n ≤ 1048576) (hM : Rd w M (ez ms)) (hy : ms.length = m) (hm : m ≤ 1048576) (hA : Rd w A (iz top)) (hx : top.length = j) (hj : j ≤ 1048576) (hf : SFit A j ca)
    (h64 : ∀ x ∈ top, I64 x) (hm64 : I64 mn) (hw : Wr z)
    (HM : ∀ W, Calls Try.prog 129 #[.agg #[.int .i64 (hi z), .int .u64 (lo z)], .int .i64 N] W (IntRes W me ok)) (hD : DoneIs kq kk N z mn mx me top L ov) (hL : L.length ≤ 1048576)
    (hP : PofIs (pofOk id fs ms kd s st kq kk key f t lab N z mn mx top L ov) id key f t lab N L ov rq rk rf rt rl rn R ro rb) (hR : R.length = ln) :
    Calls Try.prog 34 #[.int .i64 id, qv (.slice F n cf) (.slice M m cm) kd s st kq kk, .int .i64 key, .agg #[.int .i64 f, .int .i64 t], .int .i64 lab, agv N (hi z) (lo z) mn mx (.slice A j ca)] w (PaneRes rq rk rf rt rl rn R ln ro rb w) := by
  have HQ := Lib.hid (fun W (h : Below w.heap.size w W) => implQueryOk_any kd s st kq kk F n cf fs M m cm ms W (hF.below h) hz hn (hM.below h) hy hm)
  have HAg := Lib.hid (fun W (h : Below w.heap.size w W) => implAggOk_any N z mn mx _ _ A j ca top W (hA.below h) hx hj h64 hm64 hw rfl rfl)
  have HDn := Lib.hid (fun W (h : Below w.heap.size w W) => implAggDone_any kq kk N z mn mx me ok A j ca top L L.length ov W (hA.below h) hx hj hf h64 hm64 hw HM hD rfl)
  have HP := Lib.hid (fun B c W => implPaneOk_any id key f t lab N B L.length c ov W (by omega))
  have hDP := fun (hp : paneOk id key f t lab N L.length ov) => done_pane hD hp
  clear hF hM hA hx hf h64 hm64 hw HM hD hz hy hn hm hj
  generalize hi z = h at *
  generalize lo z = lw at *
  obtain ⟨o1, o2, o3, o4, hb, hsz⟩ := boxes_four (w := w) (c1 := qc (.slice F n cf) (.slice M m cm) kd s st kq kk) (c2 := [.int .i64 f, .int .i64 t]) (c3 := agc N h lw mn mx (.slice A j ca)) (c4 := pac 0 0 0 0 0 0 (.slice none 0 0) false) (t1 := 42) (t2 := 68) (t3 := 72) (t4 := 31)
  have HSZ := Lib.hid hsz
  clear hsz
  by_cases hq : queryOk fs ms kd s st kq kk
  · replace HQ := Lib.hid (fun W h => as_bool (tf_yes hq).symm (HQ.out W h))
    by_cases hp : paneOk id key f t lab N L.length ov
    · replace HP := Lib.hid (fun B c W => as_bool (tf_yes hp).symm (HP.out B c W))
      obtain ⟨⟨rfl, rfl, rfl, rfl, rfl, rfl⟩, rfl, rfl, rfl⟩ := hP.yes ⟨hq, (hDP hp).1, (hDP hp).2, hp⟩
      subst hR
      clear hP hDP hq hp HAg
      go_enter Try.func34, Try.ntmps34
      obtain ⟨o1c0, o1c1, o1c2, o1c3, o1c4, o1c5, o1c6⟩ := o1.seven
      go_wp2_with fail
      clear o1c0 o1c1 o1c2 o1c3 o1c4 o1c5 o1c6
      refine (HQ.out _ hb).mono ?_
      rintro e w1 ⟨rfl, hb1⟩
      replace o1 := o1.grow hb1
      replace o2 := o2.grow hb1
      replace o3 := o3.grow hb1
      replace o4 := o4.grow hb1
      replace hb := below_trans hb hb1
      have hz1 := hb1.size
      rw [HSZ.out] at hz1
      clear hb1
      obtain ⟨o2p0, o2p1⟩ := o2.two
      obtain ⟨o3p0, o3p1, o3p2, o3p3, o3p4, o3p5⟩ := o3.six
      have o5 := Own.new w1 31 (pac id key f t lab N (.slice none 0 0) false)
      replace o1 := o1.alloc (.cells (pac id key f t lab N (.slice none 0 0) false).toArray 31)
      replace o2 := o2.alloc (.cells (pac id key f t lab N (.slice none 0 0) false).toArray 31)
      replace o3 := o3.alloc (.cells (pac id key f t lab N (.slice none 0 0) false).toArray 31)
      replace o4 := o4.alloc (.cells (pac id key f t lab N (.slice none 0 0) false).toArray 31)
      replace hb := below_trans hb (below_alloc w1 (.cells (pac id key f t lab N (.slice none 0 0) false).toArray 31))
      obtain ⟨o1c0, o1c1, o1c2, o1c3, o1c4, o1c5, o1c6⟩ := o1.seven
      obtain ⟨o3c0, o3c1, o3c2, o3c3, o3c4, o3c5⟩ := o3.six
      go_wp2_with fail
      clear o1c0 o1c1 o1c2 o1c3 o1c4 o1c5 o1c6 o3c0 o3c1 o3c2 o3c3 o3c4 o3c5
      refine (HDn.out _ hb).mono ?_
      rintro e w2 ⟨B, c, rfl, r, hb1⟩
      replace o1 := o1.grow hb1
      replace o2 := o2.grow hb1
      replace o3 := o3.grow hb1
      replace o4 := o4.grow hb1
      replace o5 := o5.grow hb1
      replace hb := below_trans hb hb1
      clear o2p0 o2p1 o3p0 o3p1 o3p2 o3p3 o3p4 o3p5
      have hz2 := hb1.size
      rw [World.size_alloc] at hz2 r
      clear hb1
      have fr6 := o5.free 6
      have fr7 := o5.free 7
      obtain ⟨o5c0, o5c1, o5c2, o5c3, o5c4, o5c5, o5c6, o5c7⟩ := o5.eight
      have Ho1 := Lib.hid ((o1.far (p := ⟨w1.heap.size, 6, none⟩) (show w.heap.size ≠ w1.heap.size by have := HSZ.out; omega) (.slice B L.length c)).far (p := ⟨w1.heap.size, 7, none⟩) (show w.heap.size ≠ w1.heap.size by have := HSZ.out; omega) (.bool ov))
      have Ho2 := Lib.hid ((o2.far (p := ⟨w1.heap.size, 6, none⟩) (show w.heap.size + 1 ≠ w1.heap.size by have := HSZ.out; omega) (.slice B L.length c)).far (p := ⟨w1.heap.size, 7, none⟩) (show w.heap.size + 1 ≠ w1.heap.size by have := HSZ.out; omega) (.bool ov))
      have Ho3 := Lib.hid ((o3.far (p := ⟨w1.heap.size, 6, none⟩) (show w.heap.size + 1 + 1 ≠ w1.heap.size by have := HSZ.out; omega) (.slice B L.length c)).far (p := ⟨w1.heap.size, 7, none⟩) (show w.heap.size + 1 + 1 ≠ w1.heap.size by have := HSZ.out; omega) (.bool ov))
      have Ho4 := Lib.hid ((o4.far (p := ⟨w1.heap.size, 6, none⟩) (show w.heap.size + 1 + 1 + 1 ≠ w1.heap.size by have := HSZ.out; omega) (.slice B L.length c)).far (p := ⟨w1.heap.size, 7, none⟩) (show w.heap.size + 1 + 1 + 1 ≠ w1.heap.size by have := HSZ.out; omega) (.bool ov))
      have Ho5 := Lib.hid (show Own _ w1.heap.size 31 (pac id key f t lab N (.slice B L.length c) ov) from ((o5.set 6 (.slice B L.length c)).set 7 (.bool ov)))
      have Hr := Lib.hid ((r.set ⟨w1.heap.size, 6, none⟩ (.slice B L.length c) (show w1.heap.size < w1.heap.size + 1 by omega)).set ⟨w1.heap.size, 7, none⟩ (.bool ov) (show w1.heap.size < w1.heap.size + 1 by omega))
      have Hb := Lib.hid ((hb.setCell (p := ⟨w1.heap.size, 6, none⟩) (show w.heap.size ≤ w1.heap.size by have := HSZ.out; omega) (.slice B L.length c)).setCell (p := ⟨w1.heap.size, 7, none⟩) (show w.heap.size ≤ w1.heap.size by have := HSZ.out; omega) (.bool ov))
      clear o1 o2 o3 o4 o5 r hb
      go_wp2_with fail
      clear fr6 fr7
      clear o5c0 o5c1 o5c2 o5c3 o5c4 o5c5 o5c6 o5c7
      refine (HP.out _ _ _).mono ?_
      rintro e w3 ⟨rfl, hb1⟩
      have hz3 := hb1.size
      simp only [size_set] at hz3
      have o4 := Ho4.out.grow hb1
      have o5 := Ho5.out.grow hb1
      have r := Hr.out.grow hb1
      have hb := below_trans Hb.out hb1
      clear hb1 Ho1 Ho2 Ho3 Ho4 Ho5 Hr Hb
      have fr0 := o4.free 0
      have fr1 := o4.free 1
      have fr2 := o4.free 2
      have fr3 := o4.free 3
      have fr4 := o4.free 4
      have fr5 := o4.free 5
      have fr6 := o4.free 6
      have fr7 := o4.free 7
      obtain ⟨o4c0, o4c1, o4c2, o4c3, o4c4, o4c5, o4c6, o4c7⟩ := o4.eight
      obtain ⟨o5c0, o5c1, o5c2, o5c3, o5c4, o5c5, o5c6, o5c7⟩ := o5.eight
      have HB := Lib.hid hb
      have HR := Lib.hid r
      clear o4
      clear o5
      clear hb r
      go_wp2
      refine bodyPost_ret (v := .tuple #[pav id key f t lab N (.slice B L.length c) ov, .bool true]) (by simp [results, Try.results34, go_sem, o4c0, o4c1, o4c2, o4c3, o4c4, o4c5, o4c6, o4c7]) rfl ⟨_, _, rfl, ?_, ?_⟩
      · simp only [size_set]
        exact RowAt.top (RowAt.base ((((((((HR.out.set ⟨w.heap.size + 1 + 1 + 1, 0, none⟩ (.int .i64 id) (show w.heap.size + 1 + 1 + 1 < w1.heap.size + 1 by have := HSZ.out; omega)).set ⟨w.heap.size + 1 + 1 + 1, 1, none⟩ (.int .i64 key) (show w.heap.size + 1 + 1 + 1 < w1.heap.size + 1 by have := HSZ.out; omega)).set ⟨w.heap.size + 1 + 1 + 1, 2, none⟩ (.int .i64 f) (show w.heap.size + 1 + 1 + 1 < w1.heap.size + 1 by have := HSZ.out; omega)).set ⟨w.heap.size + 1 + 1 + 1, 3, none⟩ (.int .i64 t) (show w.heap.size + 1 + 1 + 1 < w1.heap.size + 1 by have := HSZ.out; omega)).set ⟨w.heap.size + 1 + 1 + 1, 4, none⟩ (.int .i64 lab) (show w.heap.size + 1 + 1 + 1 < w1.heap.size + 1 by have := HSZ.out; omega)).set ⟨w.heap.size + 1 + 1 + 1, 5, none⟩ (.int .i64 N) (show w.heap.size + 1 + 1 + 1 < w1.heap.size + 1 by have := HSZ.out; omega)).set ⟨w.heap.size + 1 + 1 + 1, 6, none⟩ (.slice B L.length c) (show w.heap.size + 1 + 1 + 1 < w1.heap.size + 1 by have := HSZ.out; omega)).set ⟨w.heap.size + 1 + 1 + 1, 7, none⟩ (.bool ov) (show w.heap.size + 1 + 1 + 1 < w1.heap.size + 1 by have := HSZ.out; omega)) (show w.heap.size ≤ w1.heap.size + 1 by have := HSZ.out; omega)) (by omega)
      · exact ((((((((HB.out.setCell (p := ⟨w.heap.size + 1 + 1 + 1, 0, none⟩) (show w.heap.size ≤ w.heap.size + 1 + 1 + 1 by omega) (.int .i64 id)).setCell (p := ⟨w.heap.size + 1 + 1 + 1, 1, none⟩) (show w.heap.size ≤ w.heap.size + 1 + 1 + 1 by omega) (.int .i64 key)).setCell (p := ⟨w.heap.size + 1 + 1 + 1, 2, none⟩) (show w.heap.size ≤ w.heap.size + 1 + 1 + 1 by omega) (.int .i64 f)).setCell (p := ⟨w.heap.size + 1 + 1 + 1, 3, none⟩) (show w.heap.size ≤ w.heap.size + 1 + 1 + 1 by omega) (.int .i64 t)).setCell (p := ⟨w.heap.size + 1 + 1 + 1, 4, none⟩) (show w.heap.size ≤ w.heap.size + 1 + 1 + 1 by omega) (.int .i64 lab)).setCell (p := ⟨w.heap.size + 1 + 1 + 1, 5, none⟩) (show w.heap.size ≤ w.heap.size + 1 + 1 + 1 by omega) (.int .i64 N)).setCell (p := ⟨w.heap.size + 1 + 1 + 1, 6, none⟩) (show w.heap.size ≤ w.heap.size + 1 + 1 + 1 by omega) (.slice B L.length c)).setCell (p := ⟨w.heap.size + 1 + 1 + 1, 7, none⟩) (show w.heap.size ≤ w.heap.size + 1 + 1 + 1 by omega) (.bool ov))
    · replace HP := Lib.hid (fun B c W => as_bool (tf_no hp).symm (HP.out B c W))
      have hno : ¬ pofOk id fs ms kd s st kq kk key f t lab N z mn mx top L ov := fun h => hp h.2.2.2
      clear hDP hq hp HAg
      go_enter Try.func34, Try.ntmps34
      obtain ⟨o1c0, o1c1, o1c2, o1c3, o1c4, o1c5, o1c6⟩ := o1.seven
      go_wp2_with fail
      clear o1c0 o1c1 o1c2 o1c3 o1c4 o1c5 o1c6
      refine (HQ.out _ hb).mono ?_
      rintro e w1 ⟨rfl, hb1⟩
      replace o1 := o1.grow hb1
      replace o2 := o2.grow hb1
      replace o3 := o3.grow hb1
      replace o4 := o4.grow hb1
      replace hb := below_trans hb hb1
      have hz1 := hb1.size
      rw [HSZ.out] at hz1
      clear hb1
      obtain ⟨o2p0, o2p1⟩ := o2.two
      obtain ⟨o3p0, o3p1, o3p2, o3p3, o3p4, o3p5⟩ := o3.six
      have o5 := Own.new w1 31 (pac id key f t lab N (.slice none 0 0) false)
      replace o1 := o1.alloc (.cells (pac id key f t lab N (.slice none 0 0) false).toArray 31)
      replace o2 := o2.alloc (.cells (pac id key f t lab N (.slice none 0 0) false).toArray 31)
      replace o3 := o3.alloc (.cells (pac id key f t lab N (.slice none 0 0) false).toArray 31)
      replace o4 := o4.alloc (.cells (pac id key f t lab N (.slice none 0 0) false).toArray 31)
      replace hb := below_trans hb (below_alloc w1 (.cells (pac id key f t lab N (.slice none 0 0) false).toArray 31))
      obtain ⟨o1c0, o1c1, o1c2, o1c3, o1c4, o1c5, o1c6⟩ := o1.seven
      obtain ⟨o3c0, o3c1, o3c2, o3c3, o3c4, o3c5⟩ := o3.six
      go_wp2_with fail
      clear o1c0 o1c1 o1c2 o1c3 o1c4 o1c5 o1c6 o3c0 o3c1 o3c2 o3c3 o3c4 o3c5
      refine (HDn.out _ hb).mono ?_
      rintro e w2 ⟨B, c, rfl, r, hb1⟩
      replace o1 := o1.grow hb1
      replace o2 := o2.grow hb1
      replace o3 := o3.grow hb1
      replace o4 := o4.grow hb1
      replace o5 := o5.grow hb1
      replace hb := below_trans hb hb1
      clear o2p0 o2p1 o3p0 o3p1 o3p2 o3p3 o3p4 o3p5
      have hz2 := hb1.size
      rw [World.size_alloc] at hz2 r
      clear hb1
      have fr6 := o5.free 6
      have fr7 := o5.free 7
      obtain ⟨o5c0, o5c1, o5c2, o5c3, o5c4, o5c5, o5c6, o5c7⟩ := o5.eight
      have Ho1 := Lib.hid ((o1.far (p := ⟨w1.heap.size, 6, none⟩) (show w.heap.size ≠ w1.heap.size by have := HSZ.out; omega) (.slice B L.length c)).far (p := ⟨w1.heap.size, 7, none⟩) (show w.heap.size ≠ w1.heap.size by have := HSZ.out; omega) (.bool ov))
      have Ho2 := Lib.hid ((o2.far (p := ⟨w1.heap.size, 6, none⟩) (show w.heap.size + 1 ≠ w1.heap.size by have := HSZ.out; omega) (.slice B L.length c)).far (p := ⟨w1.heap.size, 7, none⟩) (show w.heap.size + 1 ≠ w1.heap.size by have := HSZ.out; omega) (.bool ov))
      have Ho3 := Lib.hid ((o3.far (p := ⟨w1.heap.size, 6, none⟩) (show w.heap.size + 1 + 1 ≠ w1.heap.size by have := HSZ.out; omega) (.slice B L.length c)).far (p := ⟨w1.heap.size, 7, none⟩) (show w.heap.size + 1 + 1 ≠ w1.heap.size by have := HSZ.out; omega) (.bool ov))
      have Ho4 := Lib.hid ((o4.far (p := ⟨w1.heap.size, 6, none⟩) (show w.heap.size + 1 + 1 + 1 ≠ w1.heap.size by have := HSZ.out; omega) (.slice B L.length c)).far (p := ⟨w1.heap.size, 7, none⟩) (show w.heap.size + 1 + 1 + 1 ≠ w1.heap.size by have := HSZ.out; omega) (.bool ov))
      have Ho5 := Lib.hid (show Own _ w1.heap.size 31 (pac id key f t lab N (.slice B L.length c) ov) from ((o5.set 6 (.slice B L.length c)).set 7 (.bool ov)))
      have Hr := Lib.hid ((r.set ⟨w1.heap.size, 6, none⟩ (.slice B L.length c) (show w1.heap.size < w1.heap.size + 1 by omega)).set ⟨w1.heap.size, 7, none⟩ (.bool ov) (show w1.heap.size < w1.heap.size + 1 by omega))
      have Hb := Lib.hid ((hb.setCell (p := ⟨w1.heap.size, 6, none⟩) (show w.heap.size ≤ w1.heap.size by have := HSZ.out; omega) (.slice B L.length c)).setCell (p := ⟨w1.heap.size, 7, none⟩) (show w.heap.size ≤ w1.heap.size by have := HSZ.out; omega) (.bool ov))
      clear o1 o2 o3 o4 o5 r hb
      go_wp2_with fail
      clear fr6 fr7
      clear o5c0 o5c1 o5c2 o5c3 o5c4 o5c5 o5c6 o5c7
      refine (HP.out _ _ _).mono ?_
      rintro e w3 ⟨rfl, hb1⟩
      have hz3 := hb1.size
      simp only [size_set] at hz3
      have o4 := Ho4.out.grow hb1
      have o5 := Ho5.out.grow hb1
      have r := Hr.out.grow hb1
      have hb := below_trans Hb.out hb1
      clear hb1 Ho1 Ho2 Ho3 Ho4 Ho5 Hr Hb
      clear r
      obtain ⟨⟨rfl, rfl, rfl, rfl, rfl, rfl⟩, rfl, rfl, rfl⟩ := hP.no hno
      obtain rfl : ln = 0 := hR.symm
      have fr0 := o4.free 0
      have fr1 := o4.free 1
      have fr2 := o4.free 2
      have fr3 := o4.free 3
      have fr4 := o4.free 4
      have fr5 := o4.free 5
      have fr6 := o4.free 6
      have fr7 := o4.free 7
      obtain ⟨o4c0, o4c1, o4c2, o4c3, o4c4, o4c5, o4c6, o4c7⟩ := o4.eight
      obtain ⟨o5c0, o5c1, o5c2, o5c3, o5c4, o5c5, o5c6, o5c7⟩ := o5.eight
      have HB := Lib.hid hb
      clear o4
      clear o5
      clear hb
      go_wp2
      refine bodyPost_ret (v := .tuple #[pav 0 0 0 0 0 0 (.slice none 0 0) false, .bool false]) (by simp [results, Try.results34, go_sem, o4c0, o4c1, o4c2, o4c3, o4c4, o4c5, o4c6, o4c7]) rfl ⟨_, _, rfl, ?_, ?_⟩
      · exact row_nil
      · exact ((((((((HB.out.setCell (p := ⟨w.heap.size + 1 + 1 + 1, 0, none⟩) (show w.heap.size ≤ w.heap.size + 1 + 1 + 1 by omega) (.int .i64 0)).setCell (p := ⟨w.heap.size + 1 + 1 + 1, 1, none⟩) (show w.heap.size ≤ w.heap.size + 1 + 1 + 1 by omega) (.int .i64 0)).setCell (p := ⟨w.heap.size + 1 + 1 + 1, 2, none⟩) (show w.heap.size ≤ w.heap.size + 1 + 1 + 1 by omega) (.int .i64 0)).setCell (p := ⟨w.heap.size + 1 + 1 + 1, 3, none⟩) (show w.heap.size ≤ w.heap.size + 1 + 1 + 1 by omega) (.int .i64 0)).setCell (p := ⟨w.heap.size + 1 + 1 + 1, 4, none⟩) (show w.heap.size ≤ w.heap.size + 1 + 1 + 1 by omega) (.int .i64 0)).setCell (p := ⟨w.heap.size + 1 + 1 + 1, 5, none⟩) (show w.heap.size ≤ w.heap.size + 1 + 1 + 1 by omega) (.int .i64 0)).setCell (p := ⟨w.heap.size + 1 + 1 + 1, 6, none⟩) (show w.heap.size ≤ w.heap.size + 1 + 1 + 1 by omega) (.slice none 0 0)).setCell (p := ⟨w.heap.size + 1 + 1 + 1, 7, none⟩) (show w.heap.size ≤ w.heap.size + 1 + 1 + 1 by omega) (.bool false))
  · replace HQ := Lib.hid (fun W h => as_bool (tf_no hq).symm (HQ.out W h))
    have hno : ¬ pofOk id fs ms kd s st kq kk key f t lab N z mn mx top L ov := fun h => hq h.1
    clear hDP hq HAg HDn HP
    go_enter Try.func34, Try.ntmps34
    obtain ⟨o1c0, o1c1, o1c2, o1c3, o1c4, o1c5, o1c6⟩ := o1.seven
    go_wp2_with fail
    clear o1c0 o1c1 o1c2 o1c3 o1c4 o1c5 o1c6
    refine (HQ.out _ hb).mono ?_
    rintro e w1 ⟨rfl, hb1⟩
    replace o1 := o1.grow hb1
    replace o2 := o2.grow hb1
    replace o3 := o3.grow hb1
    replace o4 := o4.grow hb1
    replace hb := below_trans hb hb1
    clear hb1
    obtain ⟨⟨rfl, rfl, rfl, rfl, rfl, rfl⟩, rfl, rfl, rfl⟩ := hP.no hno
    obtain rfl : ln = 0 := hR.symm
    have fr0 := o4.free 0
    have fr1 := o4.free 1
    have fr2 := o4.free 2
    have fr3 := o4.free 3
    have fr4 := o4.free 4
    have fr5 := o4.free 5
    have fr6 := o4.free 6
    have fr7 := o4.free 7
    obtain ⟨o4c0, o4c1, o4c2, o4c3, o4c4, o4c5, o4c6, o4c7⟩ := o4.eight
    have HB := Lib.hid hb
    clear o1
    clear o2
    clear o3
    clear o4
    clear hb
    go_wp2
    refine bodyPost_ret (v := .tuple #[pav 0 0 0 0 0 0 (.slice none 0 0) false, .bool false]) (by simp [results, Try.results34, go_sem, o4c0, o4c1, o4c2, o4c3, o4c4, o4c5, o4c6, o4c7]) rfl ⟨_, _, rfl, ?_, ?_⟩
    · exact row_nil
    · exact ((((((((HB.out.setCell (p := ⟨w.heap.size + 1 + 1 + 1, 0, none⟩) (show w.heap.size ≤ w.heap.size + 1 + 1 + 1 by omega) (.int .i64 0)).setCell (p := ⟨w.heap.size + 1 + 1 + 1, 1, none⟩) (show w.heap.size ≤ w.heap.size + 1 + 1 + 1 by omega) (.int .i64 0)).setCell (p := ⟨w.heap.size + 1 + 1 + 1, 2, none⟩) (show w.heap.size ≤ w.heap.size + 1 + 1 + 1 by omega) (.int .i64 0)).setCell (p := ⟨w.heap.size + 1 + 1 + 1, 3, none⟩) (show w.heap.size ≤ w.heap.size + 1 + 1 + 1 by omega) (.int .i64 0)).setCell (p := ⟨w.heap.size + 1 + 1 + 1, 4, none⟩) (show w.heap.size ≤ w.heap.size + 1 + 1 + 1 by omega) (.int .i64 0)).setCell (p := ⟨w.heap.size + 1 + 1 + 1, 5, none⟩) (show w.heap.size ≤ w.heap.size + 1 + 1 + 1 by omega) (.int .i64 0)).setCell (p := ⟨w.heap.size + 1 + 1 + 1, 6, none⟩) (show w.heap.size ≤ w.heap.size + 1 + 1 + 1 by omega) (.slice none 0 0)).setCell (p := ⟨w.heap.size + 1 + 1 + 1, 7, none⟩) (show w.heap.size ≤ w.heap.size + 1 + 1 + 1 by omega) (.bool false))

set_option maxRecDepth 100000 in
set_option maxHeartbeats 8000000 in
theorem specPaneOf_any (id : Int) (F : Option Addr) (n cf : Nat) (fs : List (Int × Int)) (M : Option Addr) (m cm : Nat) (ms : List (Int × Int)) (kd s st kq kk key f t lab N z mn mx me : Int) (ok : Bool) (A : Option Addr) (j ca : Nat) (top L : List Int) (ov : Bool)
    (rq rk rf rt rl rn : Int) (R : List Int) (ln : Nat) (ro rb : Bool) (w : World)
    (hF : Rd w F (ez fs)) (hz : fs.length = n) (hn : n ≤ 1048576) (hM : Rd w M (ez ms)) (hy : ms.length = m) (hm : m ≤ 1048576) (hA : Rd w A (iz top)) (hx : top.length = j) (hj : j ≤ 1048576) (hf : SFit A j ca)
    (h64 : ∀ x ∈ top, I64 x) (hm64 : I64 mn) (hw : Wr z)
    (HM : ∀ W, Calls Try.prog 108 #[.agg #[.int .i64 (hi z), .int .u64 (lo z)], .int .i64 N] W (IntRes W me ok)) (hD : DoneIs kq kk N z mn mx me top L ov) (hL : L.length ≤ 1048576)
    (hP : PofIs (pofOk id fs ms kd s st kq kk key f t lab N z mn mx top L ov) id key f t lab N L ov rq rk rf rt rl rn R ro rb) (hR : R.length = ln) :
    Calls Try.prog 31 #[.int .i64 id, qv (.slice F n cf) (.slice M m cm) kd s st kq kk, .int .i64 key, .agg #[.int .i64 f, .int .i64 t], .int .i64 lab, agv N (hi z) (lo z) mn mx (.slice A j ca)] w (PaneRes rq rk rf rt rl rn R ln ro rb w) := by
  have HQ := Lib.hid (fun W (h : Below w.heap.size w W) => specQueryOk_any kd s st kq kk F n cf fs M m cm ms W (hF.below h) hz hn (hM.below h) hy hm)
  have HAg := Lib.hid (fun W (h : Below w.heap.size w W) => specAggOk_any N z mn mx _ _ A j ca top W (hA.below h) hx hj hf h64 hm64 hw rfl rfl)
  have HDn := Lib.hid (fun W (h : Below w.heap.size w W) => specAggDone_any kq kk N z mn mx me ok A j ca top L L.length ov W (hA.below h) hx hj hf h64 hm64 hw HM hD rfl)
  have HP := Lib.hid (fun B c W => specPaneOk_any id key f t lab N B L.length c ov W (by omega))
  have hDP := fun (hp : paneOk id key f t lab N L.length ov) => done_pane hD hp
  clear hF hM hA hx hf h64 hm64 hw HM hD hz hy hn hm hj
  generalize hi z = h at *
  generalize lo z = lw at *
  obtain ⟨o1, o2, o3, o4, hb, hsz⟩ := boxes_four (w := w) (c1 := qc (.slice F n cf) (.slice M m cm) kd s st kq kk) (c2 := [.int .i64 f, .int .i64 t]) (c3 := agc N h lw mn mx (.slice A j ca)) (c4 := pac 0 0 0 0 0 0 (.slice none 0 0) false) (t1 := 42) (t2 := 68) (t3 := 72) (t4 := 31)
  have HSZ := Lib.hid hsz
  clear hsz
  by_cases hq : queryOk fs ms kd s st kq kk
  · replace HQ := Lib.hid (fun W h => as_bool (tf_yes hq).symm (HQ.out W h))
    by_cases ha : aggOk N z mn mx top
    · replace HAg := Lib.hid (fun W h => as_bool (tf_yes ha).symm (HAg.out W h))
      by_cases h0 : N = 0
      · have hno : ¬ pofOk id fs ms kd s st kq kk key f t lab N z mn mx top L ov := fun h => h.2.2.1 h0
        subst h0
        clear hDP hq ha HDn HP
        go_enter Try.func31, Try.ntmps31
        obtain ⟨o1c0, o1c1, o1c2, o1c3, o1c4, o1c5, o1c6⟩ := o1.seven
        go_wp2_with fail
        clear o1c0 o1c1 o1c2 o1c3 o1c4 o1c5 o1c6
        refine (HQ.out _ hb).mono ?_
        rintro e w1 ⟨rfl, hb1⟩
        replace o1 := o1.grow hb1
        replace o2 := o2.grow hb1
        replace o3 := o3.grow hb1
        replace o4 := o4.grow hb1
        replace hb := below_trans hb hb1
        have hz1 := hb1.size
        rw [HSZ.out] at hz1
        clear hb1
        obtain ⟨o3c0, o3c1, o3c2, o3c3, o3c4, o3c5⟩ := o3.six
        go_wp2_with fail
        clear o3c0 o3c1 o3c2 o3c3 o3c4 o3c5
        refine (HAg.out _ hb).mono ?_
        rintro e w2 ⟨rfl, hb1⟩
        replace o1 := o1.grow hb1
        replace o2 := o2.grow hb1
        replace o3 := o3.grow hb1
        replace o4 := o4.grow hb1
        replace hb := below_trans hb hb1
        have hz2 := hb1.size
        clear hb1
        obtain ⟨o3c0, o3c1, o3c2, o3c3, o3c4, o3c5⟩ := o3.six
        obtain ⟨⟨rfl, rfl, rfl, rfl, rfl, rfl⟩, rfl, rfl, rfl⟩ := hP.no hno
        obtain rfl : ln = 0 := hR.symm
        have fr0 := o4.free 0
        have fr1 := o4.free 1
        have fr2 := o4.free 2
        have fr3 := o4.free 3
        have fr4 := o4.free 4
        have fr5 := o4.free 5
        have fr6 := o4.free 6
        have fr7 := o4.free 7
        obtain ⟨o4c0, o4c1, o4c2, o4c3, o4c4, o4c5, o4c6, o4c7⟩ := o4.eight
        have HB := Lib.hid hb
        clear o1
        clear o2
        clear o3
        clear o4
        clear hb
        go_wp2
        refine bodyPost_ret (v := .tuple #[pav 0 0 0 0 0 0 (.slice none 0 0) false, .bool false]) (by simp [results, Try.results31, go_sem, o4c0, o4c1, o4c2, o4c3, o4c4, o4c5, o4c6, o4c7]) rfl ⟨_, _, rfl, ?_, ?_⟩
        · exact row_nil
        · exact ((((((((HB.out.setCell (p := ⟨w.heap.size + 1 + 1 + 1, 0, none⟩) (show w.heap.size ≤ w.heap.size + 1 + 1 + 1 by omega) (.int .i64 0)).setCell (p := ⟨w.heap.size + 1 + 1 + 1, 1, none⟩) (show w.heap.size ≤ w.heap.size + 1 + 1 + 1 by omega) (.int .i64 0)).setCell (p := ⟨w.heap.size + 1 + 1 + 1, 2, none⟩) (show w.heap.size ≤ w.heap.size + 1 + 1 + 1 by omega) (.int .i64 0)).setCell (p := ⟨w.heap.size + 1 + 1 + 1, 3, none⟩) (show w.heap.size ≤ w.heap.size + 1 + 1 + 1 by omega) (.int .i64 0)).setCell (p := ⟨w.heap.size + 1 + 1 + 1, 4, none⟩) (show w.heap.size ≤ w.heap.size + 1 + 1 + 1 by omega) (.int .i64 0)).setCell (p := ⟨w.heap.size + 1 + 1 + 1, 5, none⟩) (show w.heap.size ≤ w.heap.size + 1 + 1 + 1 by omega) (.int .i64 0)).setCell (p := ⟨w.heap.size + 1 + 1 + 1, 6, none⟩) (show w.heap.size ≤ w.heap.size + 1 + 1 + 1 by omega) (.slice none 0 0)).setCell (p := ⟨w.heap.size + 1 + 1 + 1, 7, none⟩) (show w.heap.size ≤ w.heap.size + 1 + 1 + 1 by omega) (.bool false))
      · have t0 : (N == 0) = false := by simpa using h0
        by_cases hp : paneOk id key f t lab N L.length ov
        · replace HP := Lib.hid (fun B c W => as_bool (tf_yes hp).symm (HP.out B c W))
          obtain ⟨⟨rfl, rfl, rfl, rfl, rfl, rfl⟩, rfl, rfl, rfl⟩ := hP.yes ⟨hq, ha, h0, hp⟩
          subst hR
          clear hP hDP hq hp ha h0
          go_enter Try.func31, Try.ntmps31
          obtain ⟨o1c0, o1c1, o1c2, o1c3, o1c4, o1c5, o1c6⟩ := o1.seven
          go_wp2_with fail
          clear o1c0 o1c1 o1c2 o1c3 o1c4 o1c5 o1c6
          refine (HQ.out _ hb).mono ?_
          rintro e w1 ⟨rfl, hb1⟩
          replace o1 := o1.grow hb1
          replace o2 := o2.grow hb1
          replace o3 := o3.grow hb1
          replace o4 := o4.grow hb1
          replace hb := below_trans hb hb1
          have hz1 := hb1.size
          rw [HSZ.out] at hz1
          clear hb1
          obtain ⟨o3c0, o3c1, o3c2, o3c3, o3c4, o3c5⟩ := o3.six
          go_wp2_with fail
          clear o3c0 o3c1 o3c2 o3c3 o3c4 o3c5
          refine (HAg.out _ hb).mono ?_
          rintro e w2 ⟨rfl, hb1⟩
          replace o1 := o1.grow hb1
          replace o2 := o2.grow hb1
          replace o3 := o3.grow hb1
          replace o4 := o4.grow hb1
          replace hb := below_trans hb hb1
          have hz2 := hb1.size
          clear hb1
          obtain ⟨o3c0, o3c1, o3c2, o3c3, o3c4, o3c5⟩ := o3.six
          obtain ⟨o1c0, o1c1, o1c2, o1c3, o1c4, o1c5, o1c6⟩ := o1.seven
          obtain ⟨o2c0, o2c1⟩ := o2.two
          obtain ⟨o3c0, o3c1, o3c2, o3c3, o3c4, o3c5⟩ := o3.six
          go_wp2_with fail
          clear o1c0 o1c1 o1c2 o1c3 o1c4 o1c5 o1c6 o2c0 o2c1 o3c0 o3c1 o3c2 o3c3 o3c4 o3c5
          refine (HDn.out _ hb).mono ?_
          rintro e w3 ⟨B, c, rfl, r, hb1⟩
          replace o1 := o1.grow hb1
          replace o2 := o2.grow hb1
          replace o3 := o3.grow hb1
          replace o4 := o4.grow hb1
          replace hb := below_trans hb hb1
          have hz3 := hb1.size
          clear hb1
          obtain ⟨o2p0, o2p1⟩ := o2.two
          obtain ⟨o3p0, o3p1, o3p2, o3p3, o3p4, o3p5⟩ := o3.six
          have o5 := Own.new w3 31 (pac id key f t lab N (.slice B L.length c) ov)
          replace o1 := o1.alloc (.cells (pac id key f t lab N (.slice B L.length c) ov).toArray 31)
          replace o2 := o2.alloc (.cells (pac id key f t lab N (.slice B L.length c) ov).toArray 31)
          replace o3 := o3.alloc (.cells (pac id key f t lab N (.slice B L.length c) ov).toArray 31)
          replace o4 := o4.alloc (.cells (pac id key f t lab N (.slice B L.length c) ov).toArray 31)
          replace r := r.grow (below_alloc w3 (.cells (pac id key f t lab N (.slice B L.length c) ov).toArray 31))
          replace hb := below_trans hb (below_alloc w3 (.cells (pac id key f t lab N (.slice B L.length c) ov).toArray 31))
          obtain ⟨o5c0, o5c1, o5c2, o5c3, o5c4, o5c5, o5c6, o5c7⟩ := o5.eight
          go_wp2_with fail
          clear o5c0 o5c1 o5c2 o5c3 o5c4 o5c5 o5c6 o5c7
          refine (HP.out _ _ _).mono ?_
          rintro e w4 ⟨rfl, hb1⟩
          replace o1 := o1.grow hb1
          replace o2 := o2.grow hb1
          replace o3 := o3.grow hb1
          replace o4 := o4.grow hb1
          replace o5 := o5.grow hb1
          replace r := r.grow hb1
          replace hb := below_trans hb hb1
          have hz4 := hb1.size
          rw [World.size_alloc] at hz4
          clear hb1
          clear o2p0 o2p1 o3p0 o3p1 o3p2 o3p3 o3p4 o3p5
          have fr0 := o4.free 0
          have fr1 := o4.free 1
          have fr2 := o4.free 2
          have fr3 := o4.free 3
          have fr4 := o4.free 4
          have fr5 := o4.free 5
          have fr6 := o4.free 6
          have fr7 := o4.free 7
          obtain ⟨o4c0, o4c1, o4c2, o4c3, o4c4, o4c5, o4c6, o4c7⟩ := o4.eight
          obtain ⟨o5c0, o5c1, o5c2, o5c3, o5c4, o5c5, o5c6, o5c7⟩ := o5.eight
          have HB := Lib.hid hb
          have HR := Lib.hid r
          clear o1
          clear o2
          clear o3
          clear o4
          clear o5
          clear hb r
          go_wp2
          refine bodyPost_ret (v := .tuple #[pav id key f t lab N (.slice B L.length c) ov, .bool true]) (by simp [results, Try.results31, go_sem, o4c0, o4c1, o4c2, o4c3, o4c4, o4c5, o4c6, o4c7]) rfl ⟨_, _, rfl, ?_, ?_⟩
          · simp only [size_set]
            exact RowAt.top (RowAt.base ((((((((HR.out.set ⟨w.heap.size + 1 + 1 + 1, 0, none⟩ (.int .i64 id) (show w.heap.size + 1 + 1 + 1 < w2.heap.size by have := HSZ.out; omega)).set ⟨w.heap.size + 1 + 1 + 1, 1, none⟩ (.int .i64 key) (show w.heap.size + 1 + 1 + 1 < w2.heap.size by have := HSZ.out; omega)).set ⟨w.heap.size + 1 + 1 + 1, 2, none⟩ (.int .i64 f) (show w.heap.size + 1 + 1 + 1 < w2.heap.size by have := HSZ.out; omega)).set ⟨w.heap.size + 1 + 1 + 1, 3, none⟩ (.int .i64 t) (show w.heap.size + 1 + 1 + 1 < w2.heap.size by have := HSZ.out; omega)).set ⟨w.heap.size + 1 + 1 + 1, 4, none⟩ (.int .i64 lab) (show w.heap.size + 1 + 1 + 1 < w2.heap.size by have := HSZ.out; omega)).set ⟨w.heap.size + 1 + 1 + 1, 5, none⟩ (.int .i64 N) (show w.heap.size + 1 + 1 + 1 < w2.heap.size by have := HSZ.out; omega)).set ⟨w.heap.size + 1 + 1 + 1, 6, none⟩ (.slice B L.length c) (show w.heap.size + 1 + 1 + 1 < w2.heap.size by have := HSZ.out; omega)).set ⟨w.heap.size + 1 + 1 + 1, 7, none⟩ (.bool ov) (show w.heap.size + 1 + 1 + 1 < w2.heap.size by have := HSZ.out; omega)) (show w.heap.size ≤ w2.heap.size by have := HSZ.out; omega)) (by omega)
          · exact ((((((((HB.out.setCell (p := ⟨w.heap.size + 1 + 1 + 1, 0, none⟩) (show w.heap.size ≤ w.heap.size + 1 + 1 + 1 by omega) (.int .i64 id)).setCell (p := ⟨w.heap.size + 1 + 1 + 1, 1, none⟩) (show w.heap.size ≤ w.heap.size + 1 + 1 + 1 by omega) (.int .i64 key)).setCell (p := ⟨w.heap.size + 1 + 1 + 1, 2, none⟩) (show w.heap.size ≤ w.heap.size + 1 + 1 + 1 by omega) (.int .i64 f)).setCell (p := ⟨w.heap.size + 1 + 1 + 1, 3, none⟩) (show w.heap.size ≤ w.heap.size + 1 + 1 + 1 by omega) (.int .i64 t)).setCell (p := ⟨w.heap.size + 1 + 1 + 1, 4, none⟩) (show w.heap.size ≤ w.heap.size + 1 + 1 + 1 by omega) (.int .i64 lab)).setCell (p := ⟨w.heap.size + 1 + 1 + 1, 5, none⟩) (show w.heap.size ≤ w.heap.size + 1 + 1 + 1 by omega) (.int .i64 N)).setCell (p := ⟨w.heap.size + 1 + 1 + 1, 6, none⟩) (show w.heap.size ≤ w.heap.size + 1 + 1 + 1 by omega) (.slice B L.length c)).setCell (p := ⟨w.heap.size + 1 + 1 + 1, 7, none⟩) (show w.heap.size ≤ w.heap.size + 1 + 1 + 1 by omega) (.bool ov))
        · replace HP := Lib.hid (fun B c W => as_bool (tf_no hp).symm (HP.out B c W))
          have hno : ¬ pofOk id fs ms kd s st kq kk key f t lab N z mn mx top L ov := fun h => hp h.2.2.2
          clear hDP hq hp ha h0
          go_enter Try.func31, Try.ntmps31
          obtain ⟨o1c0, o1c1, o1c2, o1c3, o1c4, o1c5, o1c6⟩ := o1.seven
          go_wp2_with fail
          clear o1c0 o1c1 o1c2 o1c3 o1c4 o1c5 o1c6
          refine (HQ.out _ hb).mono ?_
          rintro e w1 ⟨rfl, hb1⟩
          replace o1 := o1.grow hb1
          replace o2 := o2.grow hb1
          replace o3 := o3.grow hb1
          replace o4 := o4.grow hb1
          replace hb := below_trans hb hb1
          have hz1 := hb1.size
          rw [HSZ.out] at hz1
          clear hb1
          obtain ⟨o3c0, o3c1, o3c2, o3c3, o3c4, o3c5⟩ := o3.six
          go_wp2_with fail
          clear o3c0 o3c1 o3c2 o3c3 o3c4 o3c5
          refine (HAg.out _ hb).mono ?_
          rintro e w2 ⟨rfl, hb1⟩
          replace o1 := o1.grow hb1
          replace o2 := o2.grow hb1
          replace o3 := o3.grow hb1
          replace o4 := o4.grow hb1
          replace hb := below_trans hb hb1
          have hz2 := hb1.size
          clear hb1
          obtain ⟨o3c0, o3c1, o3c2, o3c3, o3c4, o3c5⟩ := o3.six
          obtain ⟨o1c0, o1c1, o1c2, o1c3, o1c4, o1c5, o1c6⟩ := o1.seven
          obtain ⟨o2c0, o2c1⟩ := o2.two
          obtain ⟨o3c0, o3c1, o3c2, o3c3, o3c4, o3c5⟩ := o3.six
          go_wp2_with fail
          clear o1c0 o1c1 o1c2 o1c3 o1c4 o1c5 o1c6 o2c0 o2c1 o3c0 o3c1 o3c2 o3c3 o3c4 o3c5
          refine (HDn.out _ hb).mono ?_
          rintro e w3 ⟨B, c, rfl, r, hb1⟩
          replace o1 := o1.grow hb1
          replace o2 := o2.grow hb1
          replace o3 := o3.grow hb1
          replace o4 := o4.grow hb1
          replace hb := below_trans hb hb1
          have hz3 := hb1.size
          clear hb1
          obtain ⟨o2p0, o2p1⟩ := o2.two
          obtain ⟨o3p0, o3p1, o3p2, o3p3, o3p4, o3p5⟩ := o3.six
          have o5 := Own.new w3 31 (pac id key f t lab N (.slice B L.length c) ov)
          replace o1 := o1.alloc (.cells (pac id key f t lab N (.slice B L.length c) ov).toArray 31)
          replace o2 := o2.alloc (.cells (pac id key f t lab N (.slice B L.length c) ov).toArray 31)
          replace o3 := o3.alloc (.cells (pac id key f t lab N (.slice B L.length c) ov).toArray 31)
          replace o4 := o4.alloc (.cells (pac id key f t lab N (.slice B L.length c) ov).toArray 31)
          replace r := r.grow (below_alloc w3 (.cells (pac id key f t lab N (.slice B L.length c) ov).toArray 31))
          replace hb := below_trans hb (below_alloc w3 (.cells (pac id key f t lab N (.slice B L.length c) ov).toArray 31))
          obtain ⟨o5c0, o5c1, o5c2, o5c3, o5c4, o5c5, o5c6, o5c7⟩ := o5.eight
          go_wp2_with fail
          clear o5c0 o5c1 o5c2 o5c3 o5c4 o5c5 o5c6 o5c7
          refine (HP.out _ _ _).mono ?_
          rintro e w4 ⟨rfl, hb1⟩
          replace o1 := o1.grow hb1
          replace o2 := o2.grow hb1
          replace o3 := o3.grow hb1
          replace o4 := o4.grow hb1
          replace o5 := o5.grow hb1
          replace r := r.grow hb1
          replace hb := below_trans hb hb1
          have hz4 := hb1.size
          rw [World.size_alloc] at hz4
          clear hb1
          clear o2p0 o2p1 o3p0 o3p1 o3p2 o3p3 o3p4 o3p5
          clear r
          obtain ⟨⟨rfl, rfl, rfl, rfl, rfl, rfl⟩, rfl, rfl, rfl⟩ := hP.no hno
          obtain rfl : ln = 0 := hR.symm
          have fr0 := o4.free 0
          have fr1 := o4.free 1
          have fr2 := o4.free 2
          have fr3 := o4.free 3
          have fr4 := o4.free 4
          have fr5 := o4.free 5
          have fr6 := o4.free 6
          have fr7 := o4.free 7
          obtain ⟨o4c0, o4c1, o4c2, o4c3, o4c4, o4c5, o4c6, o4c7⟩ := o4.eight
          obtain ⟨o5c0, o5c1, o5c2, o5c3, o5c4, o5c5, o5c6, o5c7⟩ := o5.eight
          have HB := Lib.hid hb
          clear o1
          clear o2
          clear o3
          clear o4
          clear o5
          clear hb
          go_wp2
          refine bodyPost_ret (v := .tuple #[pav 0 0 0 0 0 0 (.slice none 0 0) false, .bool false]) (by simp [results, Try.results31, go_sem, o4c0, o4c1, o4c2, o4c3, o4c4, o4c5, o4c6, o4c7]) rfl ⟨_, _, rfl, ?_, ?_⟩
          · exact row_nil
          · exact ((((((((HB.out.setCell (p := ⟨w.heap.size + 1 + 1 + 1, 0, none⟩) (show w.heap.size ≤ w.heap.size + 1 + 1 + 1 by omega) (.int .i64 0)).setCell (p := ⟨w.heap.size + 1 + 1 + 1, 1, none⟩) (show w.heap.size ≤ w.heap.size + 1 + 1 + 1 by omega) (.int .i64 0)).setCell (p := ⟨w.heap.size + 1 + 1 + 1, 2, none⟩) (show w.heap.size ≤ w.heap.size + 1 + 1 + 1 by omega) (.int .i64 0)).setCell (p := ⟨w.heap.size + 1 + 1 + 1, 3, none⟩) (show w.heap.size ≤ w.heap.size + 1 + 1 + 1 by omega) (.int .i64 0)).setCell (p := ⟨w.heap.size + 1 + 1 + 1, 4, none⟩) (show w.heap.size ≤ w.heap.size + 1 + 1 + 1 by omega) (.int .i64 0)).setCell (p := ⟨w.heap.size + 1 + 1 + 1, 5, none⟩) (show w.heap.size ≤ w.heap.size + 1 + 1 + 1 by omega) (.int .i64 0)).setCell (p := ⟨w.heap.size + 1 + 1 + 1, 6, none⟩) (show w.heap.size ≤ w.heap.size + 1 + 1 + 1 by omega) (.slice none 0 0)).setCell (p := ⟨w.heap.size + 1 + 1 + 1, 7, none⟩) (show w.heap.size ≤ w.heap.size + 1 + 1 + 1 by omega) (.bool false))
    · replace HAg := Lib.hid (fun W h => as_bool (tf_no ha).symm (HAg.out W h))
      have hno : ¬ pofOk id fs ms kd s st kq kk key f t lab N z mn mx top L ov := fun h => ha h.2.1
      clear hDP hq ha HDn HP
      go_enter Try.func31, Try.ntmps31
      obtain ⟨o1c0, o1c1, o1c2, o1c3, o1c4, o1c5, o1c6⟩ := o1.seven
      go_wp2_with fail
      clear o1c0 o1c1 o1c2 o1c3 o1c4 o1c5 o1c6
      refine (HQ.out _ hb).mono ?_
      rintro e w1 ⟨rfl, hb1⟩
      replace o1 := o1.grow hb1
      replace o2 := o2.grow hb1
      replace o3 := o3.grow hb1
      replace o4 := o4.grow hb1
      replace hb := below_trans hb hb1
      have hz1 := hb1.size
      rw [HSZ.out] at hz1
      clear hb1
      obtain ⟨o3c0, o3c1, o3c2, o3c3, o3c4, o3c5⟩ := o3.six
      go_wp2_with fail
      clear o3c0 o3c1 o3c2 o3c3 o3c4 o3c5
      refine (HAg.out _ hb).mono ?_
      rintro e w2 ⟨rfl, hb1⟩
      replace o1 := o1.grow hb1
      replace o2 := o2.grow hb1
      replace o3 := o3.grow hb1
      replace o4 := o4.grow hb1
      replace hb := below_trans hb hb1
      have hz2 := hb1.size
      clear hb1
      obtain ⟨⟨rfl, rfl, rfl, rfl, rfl, rfl⟩, rfl, rfl, rfl⟩ := hP.no hno
      obtain rfl : ln = 0 := hR.symm
      have fr0 := o4.free 0
      have fr1 := o4.free 1
      have fr2 := o4.free 2
      have fr3 := o4.free 3
      have fr4 := o4.free 4
      have fr5 := o4.free 5
      have fr6 := o4.free 6
      have fr7 := o4.free 7
      obtain ⟨o4c0, o4c1, o4c2, o4c3, o4c4, o4c5, o4c6, o4c7⟩ := o4.eight
      have HB := Lib.hid hb
      clear o1
      clear o2
      clear o3
      clear o4
      clear hb
      go_wp2
      refine bodyPost_ret (v := .tuple #[pav 0 0 0 0 0 0 (.slice none 0 0) false, .bool false]) (by simp [results, Try.results31, go_sem, o4c0, o4c1, o4c2, o4c3, o4c4, o4c5, o4c6, o4c7]) rfl ⟨_, _, rfl, ?_, ?_⟩
      · exact row_nil
      · exact ((((((((HB.out.setCell (p := ⟨w.heap.size + 1 + 1 + 1, 0, none⟩) (show w.heap.size ≤ w.heap.size + 1 + 1 + 1 by omega) (.int .i64 0)).setCell (p := ⟨w.heap.size + 1 + 1 + 1, 1, none⟩) (show w.heap.size ≤ w.heap.size + 1 + 1 + 1 by omega) (.int .i64 0)).setCell (p := ⟨w.heap.size + 1 + 1 + 1, 2, none⟩) (show w.heap.size ≤ w.heap.size + 1 + 1 + 1 by omega) (.int .i64 0)).setCell (p := ⟨w.heap.size + 1 + 1 + 1, 3, none⟩) (show w.heap.size ≤ w.heap.size + 1 + 1 + 1 by omega) (.int .i64 0)).setCell (p := ⟨w.heap.size + 1 + 1 + 1, 4, none⟩) (show w.heap.size ≤ w.heap.size + 1 + 1 + 1 by omega) (.int .i64 0)).setCell (p := ⟨w.heap.size + 1 + 1 + 1, 5, none⟩) (show w.heap.size ≤ w.heap.size + 1 + 1 + 1 by omega) (.int .i64 0)).setCell (p := ⟨w.heap.size + 1 + 1 + 1, 6, none⟩) (show w.heap.size ≤ w.heap.size + 1 + 1 + 1 by omega) (.slice none 0 0)).setCell (p := ⟨w.heap.size + 1 + 1 + 1, 7, none⟩) (show w.heap.size ≤ w.heap.size + 1 + 1 + 1 by omega) (.bool false))
  · replace HQ := Lib.hid (fun W h => as_bool (tf_no hq).symm (HQ.out W h))
    have hno : ¬ pofOk id fs ms kd s st kq kk key f t lab N z mn mx top L ov := fun h => hq h.1
    clear hDP hq HAg HDn HP
    go_enter Try.func31, Try.ntmps31
    obtain ⟨o1c0, o1c1, o1c2, o1c3, o1c4, o1c5, o1c6⟩ := o1.seven
    go_wp2_with fail
    clear o1c0 o1c1 o1c2 o1c3 o1c4 o1c5 o1c6
    refine (HQ.out _ hb).mono ?_
    rintro e w1 ⟨rfl, hb1⟩
    replace o1 := o1.grow hb1
    replace o2 := o2.grow hb1
    replace o3 := o3.grow hb1
    replace o4 := o4.grow hb1
    replace hb := below_trans hb hb1
    have hz1 := hb1.size
    rw [HSZ.out] at hz1
    clear hb1
    obtain ⟨⟨rfl, rfl, rfl, rfl, rfl, rfl⟩, rfl, rfl, rfl⟩ := hP.no hno
    obtain rfl : ln = 0 := hR.symm
    have fr0 := o4.free 0
    have fr1 := o4.free 1
    have fr2 := o4.free 2
    have fr3 := o4.free 3
    have fr4 := o4.free 4
    have fr5 := o4.free 5
    have fr6 := o4.free 6
    have fr7 := o4.free 7
    obtain ⟨o4c0, o4c1, o4c2, o4c3, o4c4, o4c5, o4c6, o4c7⟩ := o4.eight
    have HB := Lib.hid hb
    clear o1
    clear o2
    clear o3
    clear o4
    clear hb
    go_wp2
    refine bodyPost_ret (v := .tuple #[pav 0 0 0 0 0 0 (.slice none 0 0) false, .bool false]) (by simp [results, Try.results31, go_sem, o4c0, o4c1, o4c2, o4c3, o4c4, o4c5, o4c6, o4c7]) rfl ⟨_, _, rfl, ?_, ?_⟩
    · exact row_nil
    · exact ((((((((HB.out.setCell (p := ⟨w.heap.size + 1 + 1 + 1, 0, none⟩) (show w.heap.size ≤ w.heap.size + 1 + 1 + 1 by omega) (.int .i64 0)).setCell (p := ⟨w.heap.size + 1 + 1 + 1, 1, none⟩) (show w.heap.size ≤ w.heap.size + 1 + 1 + 1 by omega) (.int .i64 0)).setCell (p := ⟨w.heap.size + 1 + 1 + 1, 2, none⟩) (show w.heap.size ≤ w.heap.size + 1 + 1 + 1 by omega) (.int .i64 0)).setCell (p := ⟨w.heap.size + 1 + 1 + 1, 3, none⟩) (show w.heap.size ≤ w.heap.size + 1 + 1 + 1 by omega) (.int .i64 0)).setCell (p := ⟨w.heap.size + 1 + 1 + 1, 4, none⟩) (show w.heap.size ≤ w.heap.size + 1 + 1 + 1 by omega) (.int .i64 0)).setCell (p := ⟨w.heap.size + 1 + 1 + 1, 5, none⟩) (show w.heap.size ≤ w.heap.size + 1 + 1 + 1 by omega) (.int .i64 0)).setCell (p := ⟨w.heap.size + 1 + 1 + 1, 6, none⟩) (show w.heap.size ≤ w.heap.size + 1 + 1 + 1 by omega) (.slice none 0 0)).setCell (p := ⟨w.heap.size + 1 + 1 + 1, 7, none⟩) (show w.heap.size ≤ w.heap.size + 1 + 1 + 1 by omega) (.bool false))
end Go.Proofs.Ytlmlckgnmkjkdaa

/-
  What the model's AggOf and PaneOf return at what is drawn: some pane, its numbers in a row of its own.
-/
namespace Go.Proofs.Ytlmlckgnmkjkdaa
open Go.RowKit

theorem pd_topOf_in {l : List Int} {x : Int} (h : x ∈ topOf l) : x ∈ l := by
  rw [topOf_take] at h
  exact (dsort_perm l).mem_iff.1 (List.mem_of_mem_take h)
theorem pd_topOf_i64 {l : List Int} (h : ∀ x ∈ l, I64 x) : ∀ x ∈ topOf l, I64 x := fun x hx => h x (pd_topOf_in hx)
theorem pd_mnOf_i64 {l : List Int} (h : ∀ x ∈ l, I64 x) : I64 (mnOf l) := by
  by_cases h0 : l = []
  · subst h0; show I64 0; unfold I64; omega
  · exact h _ (mnOf_mem h0)
theorem pd_mxOf_i64 {l : List Int} (h : ∀ x ∈ l, I64 x) : I64 (mxOf l) := by
  by_cases h0 : l = []
  · subst h0; show I64 0; unfold I64; omega
  · exact pd_topOf_i64 h _ (iat_mem (List.length_pos_iff.2 (topOf_ne h0)))
theorem pd_sum_wr {l : List Int} (h : ∀ x ∈ l, I64 x) (hn : l.length ≤ 1000000) : Wr l.sum := by
  have := sum_bound h
  unfold Wr
  omega
theorem pd_len {q k N z mn mx me : Int} {top L : List Int} {b : Bool} (h : DoneIs q k N z mn mx me top L b) (ht : top.length ≤ 1048576) : L.length ≤ 1048576 := by
  by_cases hd : doneOk q k N z mn mx top
  · have hk : q = 1 ∨ q = 2 ∨ q = 3 ∨ q = 4 ∨ q = 5 ∨ q = 6 := by
      have := hd.1
      unfold kindOk at this
      omega
    rcases hk with rfl | rfl | rfl | rfl | rfl | rfl
    · rw [(h.one hd rfl).1]; simp
    · by_cases hz : I64 z
      · rw [(h.sum hd rfl hz).1]; simp
      · rw [(h.over hd rfl hz).1]; simp
    · rw [(h.least hd rfl).1]; simp
    · rw [(h.most hd rfl).1]; simp
    · rw [(h.mean hd rfl).1]; simp
    · rw [(h.top hd rfl).1, List.length_take]; omega
  · rw [(h.no hd).1]; simp
theorem pd_len2 {ok : Prop} {id key f t lab N : Int} {L : List Int} {ov : Bool} {q k f' t' l n : Int} {R : List Int} {o b : Bool} (h : PofIs ok id key f t lab N L ov q k f' t' l n R o b) (hL : L.length ≤ 1048576) : R.length ≤ 1048576 := by
  by_cases hd : ok
  · rw [← (h.yes hd).2.1]; exact hL
  · rw [(h.no hd).2.1]; simp


theorem pd_agg_small {ts : List Int} (h : ts.length ≤ 1000000) : AggOfRes ts = AggRes ts.length ts.sum (mnOf ts) (mxOf ts) (topOf ts) := by
  have e : aggL ts = ts := by unfold aggL; rw [if_pos h]
  unfold AggOfRes
  rw [e]
set_option maxRecDepth 100000 in
theorem paneOf_drawn (id : Int) (F : Option Addr) (n cf : Nat) (fs : List (Int × Int)) (M : Option Addr) (m cm : Nat) (ms : List (Int × Int)) (kd s st kq kk key f t lab : Int) (ts : List Int) (A : Option Addr) (ca : Nat) (w : World)
    (hF : Rd w F (ez fs)) (hz : fs.length = n) (hn : n ≤ 1048576) (hM : Rd w M (ez ms)) (hy : ms.length = m) (hm : m ≤ 1048576) (hA : Rd w A (iz (topOf ts))) (hf : SFit A (topOf ts).length ca) (hl : ts.length ≤ 100) (h64 : ∀ x ∈ ts, I64 x) :
    Calls Try.prog 31 #[.int .i64 id, qv (.slice F n cf) (.slice M m cm) kd s st kq kk, .int .i64 key, .agg #[.int .i64 f, .int .i64 t], .int .i64 lab, agv (ts.length : Nat) (hi ts.sum) (lo ts.sum) (mnOf ts) (mxOf ts) (.slice A (topOf ts).length ca)] w
      fun e w' => ∃ (q k f t l n : Int) (R : List Int) (o b : Bool) (B : Option Addr) (c : Nat), e = .returned (.tuple #[pav q k f t l n (.slice B R.length c) o, .bool b]) ∧ R.length ≤ 1048576 ∧ RowAt w.heap.size w'.heap.size w' 3 1 (.slice B R.length c) R.length (iz R) ∧ Below w.heap.size w w' := by
  have hzw : Wr ts.sum := pd_sum_wr h64 (by omega)
  obtain ⟨me, ok, HI1, HS1, _, _⟩ := mean_both (hi ts.sum) (lo ts.sum) ts.sum (ts.length : Nat) hzw rfl rfl
  obtain ⟨L, ov, hD⟩ := done_some kq kk (ts.length : Nat) ts.sum (mnOf ts) (mxOf ts) me (topOf ts)
  have htl : (topOf ts).length ≤ 4 := by rw [topOf_length]; exact Nat.min_le_left _ _
  have hL := pd_len hD (by omega)
  obtain ⟨rq, rk, rf, rt, rl, rn, R, ro, rb, hP⟩ := pof_some (pofOk id fs ms kd s st kq kk key f t lab (ts.length : Nat) ts.sum (mnOf ts) (mxOf ts) (topOf ts) L ov) id key f t lab (ts.length : Nat) L ov
  have hR := pd_len2 hP hL
  refine (specPaneOf_any id F n cf fs M m cm ms kd s st kq kk key f t lab (ts.length : Nat) ts.sum (mnOf ts) (mxOf ts) me ok A _ ca (topOf ts) L ov rq rk rf rt rl rn R R.length ro rb w hF hz hn hM hy hm hA rfl (by omega) hf (pd_topOf_i64 h64) (pd_mnOf_i64 h64) hzw HS1 hD hL hP rfl).mono ?_
  rintro e w' ⟨B, c, rfl, r, hb⟩
  exact ⟨rq, rk, rf, rt, rl, rn, R, ro, rb, B, c, rfl, hR, r, hb⟩
end Go.Proofs.Ytlmlckgnmkjkdaa
