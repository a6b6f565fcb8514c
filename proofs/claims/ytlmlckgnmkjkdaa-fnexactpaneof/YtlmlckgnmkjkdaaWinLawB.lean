/-
  Sessions: an addition keeps a list valid; what was there lies in one session; sessions of many windows do not hang on their order or on how they are grouped.
-/
import Derived.Test.YtlmlckgnmkjkdaaWinLaw
namespace Go.Proofs.Ytlmlckgnmkjkdaa

theorem winOk_merge {a b : Wn} (ha : winOk a) (hb : winOk b) : winOk (merge2 a b) := by
  unfold winOk at *
  simp only [merge2]
  omega
/-- how the three parts lie while the sessions of ws are still to be looked at -/
structure Lies (q : List Wn × Wn × List Wn) (ws : List Wn) : Prop where
  okh : ∀ a ∈ q.1, winOk a
  okw : winOk q.2.1
  okt : ∀ a ∈ q.2.2, winOk a
  sh : q.1.Pairwise fun a b => a.2 ≤ b.1
  st : q.2.2.Pairwise fun a b => a.2 ≤ b.1
  hw : ∀ a ∈ q.1, a.2 ≤ q.2.1.1
  wt : ∀ b ∈ q.2.2, q.2.1.2 ≤ b.1
  hs : ∀ a ∈ q.1, ∀ s ∈ ws, a.2 ≤ s.1
  ts : ∀ b ∈ q.2.2, ∀ s ∈ ws, b.2 ≤ s.1
theorem pw_snoc {l : List Wn} {x : Wn} (h : l.Pairwise fun a b => a.2 ≤ b.1) (hx : ∀ a ∈ l, a.2 ≤ x.1) : (l ++ [x]).Pairwise fun a b => a.2 ≤ b.1 := by
  rw [List.pairwise_append]
  refine ⟨h, List.pairwise_singleton .., fun a ha b hb => ?_⟩
  rw [List.mem_singleton.1 hb]
  exact hx a ha
theorem lies_step {q : List Wn × Wn × List Wn} {s : Wn} {ws : List Wn} (h : Lies q (s :: ws)) (hw : Srt (s :: ws)) : Lies (addStep q s) ws := by
  obtain ⟨hd, w, tl⟩ := q
  have hs := hw.head
  have hsm : s ∈ s :: ws := List.mem_cons_self ..
  have okh := h.okh
  have okw := h.okw
  have okt := h.okt
  have sh := h.sh
  have st := h.st
  have hhw := h.hw
  have hwt := h.wt
  have hhs := h.hs
  have hts := h.ts
  simp only at okh okw okt sh st hhw hwt hhs hts
  -- nothing lies behind the window if s meets it or lies ahead of it
  have tnil : s.1 < w.2 → tl = [] := fun hlt => by
    cases tl with
    | nil => rfl
    | cons b bs =>
      exfalso
      have h1 := hwt b (List.mem_cons_self ..)
      have h2 := hts b (List.mem_cons_self ..) s hsm
      have h3 := (okt b (List.mem_cons_self ..)).2.1
      omega
  unfold addStep
  simp only
  split
  · rename_i hm
    have hm' := hm
    unfold meets at hm'
    have ht := tnil hm'.1
    subst ht
    exact ⟨okh, winOk_merge hs okw, okt, sh, st, (fun a ha => by have h1 := hhw a ha; have h2 := hhs a ha s hsm; simp only [merge2]; omega), (fun b hb => by cases hb), (fun a ha x hx => hhs a ha x (List.mem_cons_of_mem _ hx)), (fun b hb => by cases hb)⟩
  · rename_i hm
    have hm' : ¬ (s.1 < w.2 ∧ w.1 < s.2) := hm
    split
    · rename_i hle
      have ht := tnil (by have := hs.2.1; have := okw.2.1; omega)
      subst ht
      refine ⟨fun a ha => ?_, okw, okt, pw_snoc sh (fun a ha => hhs a ha s hsm), st, fun a ha => ?_, (fun b hb => by cases hb), fun a ha x hx => ?_, (fun b hb => by cases hb)⟩
      · rcases List.mem_append.1 ha with h1 | h1
        · exact okh a h1
        · rw [List.mem_singleton.1 h1]; exact hs
      · rcases List.mem_append.1 ha with h1 | h1
        · exact hhw a h1
        · rw [List.mem_singleton.1 h1]; exact hle
      · rcases List.mem_append.1 ha with h1 | h1
        · exact hhs a h1 x (List.mem_cons_of_mem _ hx)
        · rw [List.mem_singleton.1 h1]; exact hw.after hx
    · rename_i hle
      refine ⟨okh, okw, fun a ha => ?_, sh, pw_snoc st (fun a ha => hts a ha s hsm), hhw, fun b hb => ?_, (fun a ha x hx => hhs a ha x (List.mem_cons_of_mem _ hx)), fun b hb x hx => ?_⟩
      · rcases List.mem_append.1 ha with h1 | h1
        · exact okt a h1
        · rw [List.mem_singleton.1 h1]; exact hs
      · rcases List.mem_append.1 hb with h1 | h1
        · exact hwt b h1
        · rw [List.mem_singleton.1 h1]
          show w.2 ≤ s.1
          omega
      · rcases List.mem_append.1 hb with h1 | h1
        · exact hts b h1 x (List.mem_cons_of_mem _ hx)
        · rw [List.mem_singleton.1 h1]; exact hw.after hx
theorem lies_fold : ∀ {ws : List Wn} {q : List Wn × Wn × List Wn}, Lies q ws → Srt ws → Lies (ws.foldl addStep q) []
  | [], _, h, _ => h
  | _ :: ws, _, h, hw => lies_fold (ws := ws) (lies_step h hw) hw.tail
theorem lies_srt {q : List Wn × Wn × List Wn} (h : Lies q []) : Srt (out3 q) := by
  obtain ⟨hd, w, tl⟩ := q
  refine ⟨fun x hx => ?_, ?_⟩
  · rcases List.mem_append.1 hx with h1 | h1
    · exact h.okh x h1
    · rcases List.mem_cons.1 h1 with h2 | h2
      · rw [h2]; exact h.okw
      · exact h.okt x h2
  · unfold out3
    rw [List.pairwise_append]
    refine ⟨h.sh, List.pairwise_cons.2 ⟨h.wt, h.st⟩, fun a ha b hb => ?_⟩
    rcases List.mem_cons.1 hb with h2 | h2
    · rw [h2]; exact h.hw a ha
    · have h3 := h.hw a ha
      have h4 := h.wt b h2
      have h5 := h.okw.2.1
      simp only at h3 h4 h5
      omega
theorem add_srt {ws : List Wn} {x : Wn} (hw : Srt ws) (hx : winOk x) : Srt (addAll ws x) := by
  rw [addAll_eq]
  exact lies_srt (lies_fold ⟨(fun a ha => by cases ha), hx, (fun a ha => by cases ha), List.Pairwise.nil, List.Pairwise.nil, (fun a ha => by cases ha), (fun a ha => by cases ha), (fun a ha => by cases ha), (fun a ha => by cases ha)⟩ hw)
theorem add_length (ws : List Wn) (x : Wn) : (addAll ws x).length ≤ ws.length + 1 := by
  have := addTo_len (ws := ws) (x := x) (Nat.le_refl _)
  unfold addAll
  simp only [List.length_append, List.length_cons]
  omega

/-- y lies in one of the windows -/
def Within (y : Wn) (ws : List Wn) : Prop := ∃ z ∈ ws, z.1 ≤ y.1 ∧ y.2 ≤ z.2
theorem within_step {q : List Wn × Wn × List Wn} {s y : Wn} (h : Within y (out3 q)) : Within y (out3 (addStep q s)) := by
  obtain ⟨hd, w, tl⟩ := q
  obtain ⟨z, hz, h1, h2⟩ := h
  unfold addStep
  simp only
  have hz' : z ∈ hd ∨ z = w ∨ z ∈ tl := by simpa [out3] using hz
  split
  · rcases hz' with h | rfl | h
    · exact ⟨z, by simp [out3, h], h1, h2⟩
    · exact ⟨merge2 s z, by simp [out3], by simp only [merge2]; omega, by simp only [merge2]; omega⟩
    · exact ⟨z, by simp [out3, h], h1, h2⟩
  · split
    · rcases hz' with h | h | h <;> exact ⟨z, by simp [out3, h], h1, h2⟩
    · rcases hz' with h | h | h <;> exact ⟨z, by simp [out3, h], h1, h2⟩
theorem within_new (q : List Wn × Wn × List Wn) (s : Wn) : Within s (out3 (addStep q s)) := by
  obtain ⟨hd, w, tl⟩ := q
  unfold addStep
  simp only
  split
  · exact ⟨merge2 s w, by simp [out3], by simp only [merge2]; omega, by simp only [merge2]; omega⟩
  · split
    · exact ⟨s, by simp [out3], Int.le_refl _, Int.le_refl _⟩
    · exact ⟨s, by simp [out3], Int.le_refl _, Int.le_refl _⟩
theorem within_fold : ∀ (ws : List Wn) (q : List Wn × Wn × List Wn) (y : Wn), (Within y (out3 q) ∨ y ∈ ws) → Within y (out3 (ws.foldl addStep q))
  | [], q, y, h => by
    rcases h with h | h
    · exact h
    · cases h
  | s :: ws, q, y, h => by
    rw [List.foldl_cons]
    refine within_fold ws _ y ?_
    rcases h with h | h
    · exact .inl (within_step h)
    · rcases List.mem_cons.1 h with h | h
      · rw [h]; exact .inl (within_new q s)
      · exact .inr h
/-- after an addition the window, and every session that was there, lies in one session -/
theorem add_within {ws : List Wn} {x y : Wn} (h : y ∈ ws ∨ y = x) : Within y (addAll ws x) := by
  rw [addAll_eq]
  refine within_fold ws _ y ?_
  rcases h with h | h
  · exact .inr h
  · rw [h]; exact .inl ⟨x, by simp [out3], Int.le_refl _, Int.le_refl _⟩

/-! ### many additions -/

def addMany (ws xs : List Wn) : List Wn := xs.foldl addAll ws
theorem many_cons (ws : List Wn) (x : Wn) (xs : List Wn) : addMany ws (x :: xs) = addMany (addAll ws x) xs := rfl
theorem many_snoc (ws : List Wn) (xs : List Wn) (x : Wn) : addMany ws (xs ++ [x]) = addAll (addMany ws xs) x := by simp [addMany]
theorem many_srt : ∀ {xs ws : List Wn}, Srt ws → (∀ x ∈ xs, winOk x) → Srt (addMany ws xs)
  | [], _, h, _ => h
  | x :: xs, _, h, hx => many_srt (xs := xs) (add_srt h (hx x (List.mem_cons_self ..))) (fun y hy => hx y (List.mem_cons_of_mem _ hy))
theorem many_cov : ∀ (xs ws : List Wn) (t : Int), Cov (addMany ws xs) t ↔ Cov ws t ∨ Cov xs t
  | [], ws, t => by have : ¬ Cov [] t := by { rintro ⟨_, h, _⟩; cases h }; simp [addMany, this]
  | x :: xs, ws, t => by rw [many_cons, many_cov xs, add_cov, cov_cons]; grind
theorem many_jnd : ∀ (xs ws : List Wn) (t : Int), Jnd (addMany ws xs) t ↔ Jnd ws t ∨ Jnd xs t
  | [], ws, t => by have : ¬ Jnd [] t := by { rintro ⟨_, h, _⟩; cases h }; simp [addMany, this]
  | x :: xs, ws, t => by rw [many_cons, many_jnd xs, add_jnd, jnd_cons]; grind
theorem many_length : ∀ (xs ws : List Wn), (addMany ws xs).length ≤ ws.length + xs.length
  | [], ws => by simp [addMany]
  | x :: xs, ws => by
    rw [many_cons]
    have h1 := many_length xs (addAll ws x)
    have h2 := add_length ws x
    simp only [List.length_cons]
    omega
theorem srt_nil : Srt [] := ⟨fun x hx => (by cases hx), List.Pairwise.nil⟩
/-- the order does not matter -/
theorem many_reverse {xs : List Wn} (hx : ∀ x ∈ xs, winOk x) : addMany [] xs.reverse = addMany [] xs := by
  refine srt_unique (many_srt srt_nil (fun x h => hx x (List.mem_reverse.1 h))) (many_srt srt_nil hx) (fun t => ?_) (fun p => ?_)
  · rw [many_cov, many_cov]; simp [Cov]
  · rw [many_jnd, many_jnd]; simp [Jnd]
/-- nor does the grouping -/
theorem many_join {xs ys : List Wn} (hx : ∀ x ∈ xs, winOk x) (hy : ∀ y ∈ ys, winOk y) : addMany (addMany [] xs) (addMany [] ys) = addMany [] (xs ++ ys) := by
  have h1 := many_srt srt_nil hx
  have h2 := many_srt srt_nil hy
  have h3 : ∀ x ∈ xs ++ ys, winOk x := fun x h => by
    rcases List.mem_append.1 h with h | h
    · exact hx x h
    · exact hy x h
  refine srt_unique (many_srt h1 h2.1) (many_srt srt_nil h3) (fun t => ?_) (fun p => ?_)
  · have e : ¬ Cov [] t := by rintro ⟨_, h, _⟩; cases h
    rw [many_cov, many_cov, many_cov, many_cov, cov_append]; grind
  · have e : ¬ Jnd [] p := by rintro ⟨_, h, _⟩; cases h
    rw [many_jnd, many_jnd, many_jnd, many_jnd, jnd_append]; grind
/-- every window that was added lies in one session -/
theorem many_within : ∀ (xs ws : List Wn) (y : Wn), (Within y ws ∨ y ∈ xs) → Within y (addMany ws xs)
  | [], ws, y, h => by
    rcases h with h | h
    · exact h
    · cases h
  | x :: xs, ws, y, h => by
    rw [many_cons]
    refine many_within xs _ y ?_
    rcases h with ⟨z, hz, h1, h2⟩ | h
    · obtain ⟨u, hu, h3, h4⟩ := add_within (ws := ws) (x := x) (y := z) (.inl hz)
      exact .inl ⟨u, hu, by omega, by omega⟩
    · rcases List.mem_cons.1 h with h | h
      · rw [h]; exact .inl (add_within (.inr rfl))
      · exact .inr h

/-! ### the word of the model for a valid list -/
theorem srt_of_sessTo {ws : List Wn} (h : sessTo ws ws.length) : Srt ws := by
  have hget : ∀ i, (hi : i < ws.length) → wat ws i = ws[i] := fun i hi => by simp [wat, hi]
  have chain : ∀ i j, i < j → (hj : j < ws.length) → (wat ws i).2 ≤ (wat ws j).1 := by
    intro i j hij
    induction j with
    | zero => omega
    | succ j ih =>
      intro hj
      have h1 := (h (j + 1) hj).2 (by omega)
      simp only [Nat.add_sub_cancel] at h1
      by_cases e : i = j
      · rw [e]; exact h1
      · have h2 := ih (by omega) (by omega)
        have h3 := (h j (by omega)).1.2.1
        omega
  refine ⟨fun x hx => ?_, ?_⟩
  · obtain ⟨i, hi, e⟩ := List.getElem_of_mem hx
    rw [← e, ← hget i hi]
    exact (h i hi).1
  · rw [List.pairwise_iff_getElem]
    intro i j hi hj hij
    rw [← hget i hi, ← hget j hj]
    exact chain i j hij hj
theorem sessTo_of_srt {ws : List Wn} (h : Srt ws) : sessTo ws ws.length := by
  have hget : ∀ i, (hi : i < ws.length) → wat ws i = ws[i] := fun i hi => by simp [wat, hi]
  intro i hi
  refine ⟨by rw [hget i hi]; exact h.1 _ (List.getElem_mem hi), fun h0 => ?_⟩
  rw [hget i hi, hget (i - 1) (by omega)]
  exact List.pairwise_iff_getElem.1 h.2 (i - 1) i (by omega) hi (by omega)
theorem sessOk_iff (ws : List Wn) : sessOk ws ↔ ws.length ≤ 300 ∧ Srt ws := ⟨fun h => ⟨h.1, srt_of_sessTo h.2⟩, fun h => ⟨h.1, sessTo_of_srt h.2⟩⟩
end Go.Proofs.Ytlmlckgnmkjkdaa
