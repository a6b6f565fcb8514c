/-
  Sessions as sets: what is covered and what is joined determine a list of sessions; an addition unites both. So the order of additions does not matter.
-/
import Derived.Test.YtlmlckgnmkjkdaaWinMath
namespace Go.Proofs.Ytlmlckgnmkjkdaa

/-- valid windows, each ending before the later ones begin -/
def Srt (ws : List Wn) : Prop := (∀ x ∈ ws, winOk x) ∧ ws.Pairwise fun a b => a.2 ≤ b.1
/-- time t is covered -/
def Cov (ws : List Wn) (t : Int) : Prop := ∃ x ∈ ws, x.1 ≤ t ∧ t < x.2
/-- the times p - 1 and p lie in one window -/
def Jnd (ws : List Wn) (p : Int) : Prop := ∃ x ∈ ws, x.1 < p ∧ p < x.2

theorem Srt.tail {x : Wn} {ws : List Wn} (h : Srt (x :: ws)) : Srt ws := ⟨fun y hy => h.1 y (List.mem_cons_of_mem _ hy), (List.pairwise_cons.1 h.2).2⟩
theorem Srt.head {x : Wn} {ws : List Wn} (h : Srt (x :: ws)) : winOk x := h.1 x (List.mem_cons_self ..)
theorem Srt.after {x : Wn} {ws : List Wn} (h : Srt (x :: ws)) {y : Wn} (hy : y ∈ ws) : x.2 ≤ y.1 := (List.pairwise_cons.1 h.2).1 y hy
theorem cov_cons {x : Wn} {ws : List Wn} {t : Int} : Cov (x :: ws) t ↔ (x.1 ≤ t ∧ t < x.2) ∨ Cov ws t := by simp [Cov]
theorem jnd_cons {x : Wn} {ws : List Wn} {t : Int} : Jnd (x :: ws) t ↔ (x.1 < t ∧ t < x.2) ∨ Jnd ws t := by simp [Jnd]
theorem cov_append {a b : List Wn} {t : Int} : Cov (a ++ b) t ↔ Cov a t ∨ Cov b t := by
  simp only [Cov, List.mem_append]
  constructor
  · rintro ⟨x, h | h, k⟩
    · exact .inl ⟨x, h, k⟩
    · exact .inr ⟨x, h, k⟩
  · rintro (⟨x, h, k⟩ | ⟨x, h, k⟩)
    · exact ⟨x, .inl h, k⟩
    · exact ⟨x, .inr h, k⟩
theorem jnd_append {a b : List Wn} {t : Int} : Jnd (a ++ b) t ↔ Jnd a t ∨ Jnd b t := by
  simp only [Jnd, List.mem_append]
  constructor
  · rintro ⟨x, h | h, k⟩
    · exact .inl ⟨x, h, k⟩
    · exact .inr ⟨x, h, k⟩
  · rintro (⟨x, h, k⟩ | ⟨x, h, k⟩)
    · exact ⟨x, .inl h, k⟩
    · exact ⟨x, .inr h, k⟩

/-- the two sets determine the list -/
theorem srt_unique : ∀ {u v : List Wn}, Srt u → Srt v → (∀ t, Cov u t ↔ Cov v t) → (∀ p, Jnd u p ↔ Jnd v p) → u = v
  | [], [], _, _, _, _ => rfl
  | [], y :: ys, _, hv, hc, _ => by
    have hy := hv.head
    have := (hc y.1).2 (cov_cons.2 (.inl ⟨Int.le_refl _, hy.2.1⟩))
    obtain ⟨_, h, _⟩ := this
    cases h
  | x :: xs, [], hu, _, hc, _ => by
    have hx := hu.head
    have := (hc x.1).1 (cov_cons.2 (.inl ⟨Int.le_refl _, hx.2.1⟩))
    obtain ⟨_, h, _⟩ := this
    cases h
  | x :: xs, y :: ys, hu, hv, hc, hj => by
    have hx := hu.head
    have hy := hv.head
    have covLe : ∀ {z : Wn} {zs : List Wn} {t : Int}, Srt (z :: zs) → Cov (z :: zs) t → z.1 ≤ t := by
      intro z zs t hz h
      rcases cov_cons.1 h with h | ⟨q, hq, h1, _⟩
      · exact h.1
      · have := hz.after hq
        have := hz.head.2.1
        omega
    have e1 : x.1 = y.1 := by
      have a := covLe hv ((hc x.1).1 (cov_cons.2 (.inl ⟨Int.le_refl _, hx.2.1⟩)))
      have b := covLe hu ((hc y.1).2 (cov_cons.2 (.inl ⟨Int.le_refl _, hy.2.1⟩)))
      omega
    have cutNo : ∀ {z : Wn} {zs : List Wn}, Srt (z :: zs) → ¬ Jnd (z :: zs) z.2 := by
      intro z zs hz h
      rcases jnd_cons.1 h with h | ⟨q, hq, h1, _⟩
      · omega
      · have := hz.after hq
        omega
    have e2 : x.2 = y.2 := by
      rcases Int.lt_trichotomy x.2 y.2 with h | h | h
      · have := (hj x.2).2 (jnd_cons.2 (.inl ⟨by have := hx.2.1; omega, h⟩))
        exact absurd this (cutNo hu)
      · exact h
      · have := (hj y.2).1 (jnd_cons.2 (.inl ⟨by have := hy.2.1; omega, h⟩))
        exact absurd this (cutNo hv)
    have e : x = y := Prod.ext e1 e2
    subst e
    have restC : ∀ {zs : List Wn} {t : Int}, Srt (x :: zs) → (Cov zs t ↔ Cov (x :: zs) t ∧ x.2 ≤ t) := by
      intro zs t hz
      rw [cov_cons]
      constructor
      · rintro ⟨q, hq, h1, h2⟩
        exact ⟨.inr ⟨q, hq, h1, h2⟩, by have := hz.after hq; omega⟩
      · rintro ⟨h | h, h2⟩
        · omega
        · exact h
    have restJ : ∀ {zs : List Wn} {t : Int}, Srt (x :: zs) → (Jnd zs t ↔ Jnd (x :: zs) t ∧ x.2 ≤ t) := by
      intro zs t hz
      rw [jnd_cons]
      constructor
      · rintro ⟨q, hq, h1, h2⟩
        exact ⟨.inr ⟨q, hq, h1, h2⟩, by have := hz.after hq; omega⟩
      · rintro ⟨h | h, h2⟩
        · omega
        · exact h
    have := srt_unique hu.tail hv.tail (fun t => by rw [restC hu, restC hv, hc t]) (fun p => by rw [restJ hu, restJ hv, hj p])
    rw [this]

/-! ### an addition -/

/-- what is there while sessions are looked at one by one -/
def out3 (q : List Wn × Wn × List Wn) : List Wn := q.1 ++ q.2.1 :: q.2.2
theorem merge_cov {a b : Wn} (h : meets a b) {t : Int} : ((merge2 a b).1 ≤ t ∧ t < (merge2 a b).2) ↔ (a.1 ≤ t ∧ t < a.2) ∨ (b.1 ≤ t ∧ t < b.2) := by
  unfold meets at h
  simp only [merge2]
  omega
theorem merge_jnd {a b : Wn} (h : meets a b) {t : Int} : ((merge2 a b).1 < t ∧ t < (merge2 a b).2) ↔ (a.1 < t ∧ t < a.2) ∨ (b.1 < t ∧ t < b.2) := by
  unfold meets at h
  simp only [merge2]
  omega
theorem step_cov (q : List Wn × Wn × List Wn) (s : Wn) (t : Int) : Cov (out3 (addStep q s)) t ↔ Cov (out3 q) t ∨ (s.1 ≤ t ∧ t < s.2) := by
  unfold addStep
  split
  · rename_i h
    simp only [out3, cov_append, cov_cons, merge_cov h]
    grind
  · split
    · simp only [out3, cov_append, cov_cons]
      have : ¬ Cov [] t := by rintro ⟨_, h, _⟩; cases h
      grind
    · simp only [out3, cov_append, cov_cons]
      have : ¬ Cov [] t := by rintro ⟨_, h, _⟩; cases h
      grind
theorem step_jnd (q : List Wn × Wn × List Wn) (s : Wn) (t : Int) : Jnd (out3 (addStep q s)) t ↔ Jnd (out3 q) t ∨ (s.1 < t ∧ t < s.2) := by
  unfold addStep
  split
  · rename_i h
    simp only [out3, jnd_append, jnd_cons, merge_jnd h]
    grind
  · split
    · simp only [out3, jnd_append, jnd_cons]
      have : ¬ Jnd [] t := by rintro ⟨_, h, _⟩; cases h
      grind
    · simp only [out3, jnd_append, jnd_cons]
      have : ¬ Jnd [] t := by rintro ⟨_, h, _⟩; cases h
      grind
theorem fold_cov (ws : List Wn) : ∀ (q : List Wn × Wn × List Wn) (t : Int), Cov (out3 (ws.foldl addStep q)) t ↔ Cov (out3 q) t ∨ Cov ws t := by
  induction ws with
  | nil => intro q t; have : ¬ Cov [] t := by { rintro ⟨_, h, _⟩; cases h }; simp [this]
  | cons s ws ih => intro q t; rw [List.foldl_cons, ih, step_cov, cov_cons]; grind
theorem fold_jnd (ws : List Wn) : ∀ (q : List Wn × Wn × List Wn) (t : Int), Jnd (out3 (ws.foldl addStep q)) t ↔ Jnd (out3 q) t ∨ Jnd ws t := by
  induction ws with
  | nil => intro q t; have : ¬ Jnd [] t := by { rintro ⟨_, h, _⟩; cases h }; simp [this]
  | cons s ws ih => intro q t; rw [List.foldl_cons, ih, step_jnd, jnd_cons]; grind
theorem addAll_eq (ws : List Wn) (x : Wn) : addAll ws x = out3 (ws.foldl addStep ([], x, [])) := by
  unfold addAll addTo out3
  rw [List.take_length]
theorem add_cov (ws : List Wn) (x : Wn) (t : Int) : Cov (addAll ws x) t ↔ Cov ws t ∨ (x.1 ≤ t ∧ t < x.2) := by
  rw [addAll_eq, fold_cov]
  have : Cov (out3 ([], x, [])) t ↔ (x.1 ≤ t ∧ t < x.2) := by simp [out3, Cov]
  rw [this]; grind
theorem add_jnd (ws : List Wn) (x : Wn) (t : Int) : Jnd (addAll ws x) t ↔ Jnd ws t ∨ (x.1 < t ∧ t < x.2) := by
  rw [addAll_eq, fold_jnd]
  have : Jnd (out3 ([], x, [])) t ↔ (x.1 < t ∧ t < x.2) := by simp [out3, Jnd]
  rw [this]; grind
end Go.Proofs.Ytlmlckgnmkjkdaa
