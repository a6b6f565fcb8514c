/-
  The greatest of numbers in descending order: put in one by one, or picked one by one; the least of them; their sum.
-/
import Derived.Test.YtlmlckgnmkjkdaaIntAt
namespace Go.Proofs.Ytlmlckgnmkjkdaa
open Go.RowKit

/-- numbers that descend -/
def Desc (l : List Int) : Prop := l.Pairwise (fun a b => b ≤ a)
/-- v among numbers that descend, behind those that are not less -/
def ins (v : Int) : List Int → List Int
  | [] => [v]
  | a :: l => if a < v then v :: a :: l else a :: ins v l
def dsort (l : List Int) : List Int := l.foldl (fun s v => ins v s) []
def put4 (l : List Int) (v : Int) : List Int := (ins v l).take 4
/-- the four greatest -/
def topOf (l : List Int) : List Int := l.foldl put4 []

theorem ins_perm (v : Int) : ∀ l, (ins v l).Perm (v :: l)
  | [] => List.Perm.refl _
  | a :: l => by
    unfold ins
    split
    · exact List.Perm.refl _
    · exact ((ins_perm v l).cons a).trans (List.Perm.swap v a l)
theorem ins_length (v : Int) (l : List Int) : (ins v l).length = l.length + 1 := by rw [(ins_perm v l).length_eq]; rfl
theorem ins_desc {v : Int} : ∀ {l : List Int}, Desc l → Desc (ins v l)
  | [], _ => by simp [ins, Desc]
  | a :: l, h => by
    unfold Desc at h ⊢
    rw [List.pairwise_cons] at h
    unfold ins
    split
    · rename_i hv
      refine List.pairwise_cons.2 ⟨fun b hb => ?_, List.pairwise_cons.2 h⟩
      rcases List.mem_cons.1 hb with rfl | hb
      · omega
      · have := h.1 b hb; omega
    · rename_i hv
      refine List.pairwise_cons.2 ⟨fun b hb => ?_, ins_desc (v := v) h.2⟩
      rcases List.mem_cons.1 ((ins_perm v l).mem_iff.1 hb) with rfl | hb
      · omega
      · exact h.1 b hb
theorem dsort_snoc (l : List Int) (v : Int) : dsort (l ++ [v]) = ins v (dsort l) := by simp [dsort]
theorem snoc_ind {P : List Int → Prop} (h0 : P []) (h1 : ∀ l v, P l → P (l ++ [v])) (l : List Int) : P l := by
  have : ∀ n (l : List Int), l.length = n → P l := by
    intro n
    induction n with
    | zero => intro l hl; rw [List.eq_nil_of_length_eq_zero hl]; exact h0
    | succ n ih =>
      intro l hl
      have hne : l ≠ [] := by intro h; rw [h] at hl; cases hl
      rw [← List.dropLast_concat_getLast hne]
      exact h1 _ _ (ih _ (by simp [hl]))
  exact this _ l rfl
theorem dsort_perm (l : List Int) : (dsort l).Perm l := by
  induction l using snoc_ind with
  | h0 => exact List.Perm.refl _
  | h1 l v ih =>
    rw [dsort_snoc]
    exact (ins_perm v _).trans ((ih.cons v).trans (List.perm_append_comm (l₁ := [v]) (l₂ := l)))
theorem dsort_desc (l : List Int) : Desc (dsort l) := by
  induction l using snoc_ind with
  | h0 => exact List.Pairwise.nil
  | h1 l v ih => rw [dsort_snoc]; exact ins_desc ih
theorem desc_unique {a b : List Int} (ha : Desc a) (hb : Desc b) (h : a.Perm b) : a = b :=
  List.Perm.eq_of_pairwise (le := fun x y : Int => y ≤ x) (fun x y _ _ h1 h2 => by omega) ha hb h
theorem dsort_of_perm {a b : List Int} (h : a.Perm b) : dsort a = dsort b :=
  desc_unique (dsort_desc a) (dsort_desc b) ((dsort_perm a).trans (h.trans (dsort_perm b).symm))
theorem dsort_of_desc {a : List Int} (h : Desc a) : dsort a = a := desc_unique (dsort_desc a) h (dsort_perm a)
theorem dsort_length (l : List Int) : (dsort l).length = l.length := (dsort_perm l).length_eq
theorem ins_take (v : Int) : ∀ (k : Nat) (s : List Int), (ins v (s.take k)).take k = (ins v s).take k
  | 0, s => by simp
  | k + 1, [] => by simp
  | k + 1, a :: s => by
    rw [List.take_succ_cons]
    unfold ins
    split
    · simp only [List.take_succ_cons]
      congr 1
      cases k with
      | zero => rfl
      | succ k => simp only [List.take_succ_cons]; congr 1; rw [List.take_take]; congr 1; omega
    · rw [List.take_succ_cons, List.take_succ_cons, ins_take v k s]
theorem topOf_snoc (l : List Int) (v : Int) : topOf (l ++ [v]) = put4 (topOf l) v := by simp [topOf]
theorem topOf_append (a b : List Int) : topOf (a ++ b) = b.foldl put4 (topOf a) := by simp [topOf]
theorem topOf_take (l : List Int) : topOf l = (dsort l).take 4 := by
  induction l using snoc_ind with
  | h0 => rfl
  | h1 l v ih => rw [topOf_snoc, dsort_snoc, ih]; exact ins_take v 4 _
theorem desc_take {l : List Int} (h : Desc l) (k : Nat) : Desc (l.take k) := List.Pairwise.sublist (List.take_sublist k l) h
theorem topOf_desc (l : List Int) : Desc (topOf l) := by rw [topOf_take]; exact desc_take (dsort_desc l) 4
theorem topOf_length (l : List Int) : (topOf l).length = min 4 l.length := by rw [topOf_take, List.length_take, dsort_length]
theorem topOf_self {l : List Int} (h : Desc l) (hl : l.length ≤ 4) : topOf l = l := by rw [topOf_take, dsort_of_desc h, List.take_of_length_le hl]
theorem topOf_top (l : List Int) : topOf (topOf l) = topOf l := topOf_self (topOf_desc l) (by rw [topOf_length]; omega)
theorem topOf_iff {l : List Int} (hl : l.length ≤ 4) : topOf l = l ↔ Desc l := ⟨fun h => h ▸ topOf_desc l, fun h => topOf_self h hl⟩
theorem topOf_of_perm {a b : List Int} (h : a.Perm b) : topOf a = topOf b := by rw [topOf_take, topOf_take, dsort_of_perm h]
theorem topOf_parts (a b : List Int) : topOf (topOf a ++ topOf b) = topOf (a ++ b) := by
  have h1 : ∀ a b, topOf (topOf a ++ b) = topOf (a ++ b) := fun a b => by rw [topOf_append, topOf_append, topOf_top]
  rw [h1, topOf_of_perm List.perm_append_comm, h1, topOf_of_perm List.perm_append_comm]

/-! ### the program's way: the place of v, found from behind -/

/-- where v goes -/
theorem ins_split {v : Int} : ∀ {l : List Int} {k : Nat}, Desc l → k ≤ l.length → (0 < k → ¬ iat l (k - 1) < v) → (∀ i, k ≤ i → i < l.length → iat l i < v) → ins v l = l.take k ++ v :: l.drop k
  | [], k, _, hk, _, _ => by
    obtain rfl : k = 0 := by simpa using hk
    simp [ins]
  | a :: l, k, hd, hk, h1, h2 => by
    have hd' := List.pairwise_cons.1 hd
    cases k with
    | zero =>
      have := h2 0 (Nat.le_refl _) (by simp)
      simp only [iat, List.getD_cons_zero] at this
      simp [ins, this]
    | succ k =>
      have hle : ¬ a < v := by
        have := h1 (by omega)
        simp only [Nat.add_sub_cancel] at this
        cases k with
        | zero => simpa [iat] using this
        | succ k =>
          have hk' : k < l.length := by have := hk; simp at this; omega
          have hm : iat (a :: l) (k + 1) ∈ l := by
            simp only [iat, List.getD_cons_succ]
            rw [List.getD_eq_getElem?_getD, List.getElem?_eq_getElem hk']
            exact List.getElem_mem hk'
          have := hd'.1 _ hm
          omega
      unfold ins
      rw [if_neg hle, ins_split (k := k) hd'.2 (by simpa using hk) (fun hk0 => ?_) (fun i hi hil => ?_)]
      · simp
      · have := h1 (by omega)
        rw [show k + 1 - 1 = (k - 1) + 1 by omega] at this
        simpa [iat] using this
      · have := h2 (i + 1) (by omega) (by simpa using hil)
        simpa [iat] using this

/-- a row of four: what it holds, and 0 beyond -/
def pad4 (l : List Int) : List Int := l ++ List.replicate (4 - l.length) 0
theorem pad4_length {l : List Int} (h : l.length ≤ 4) : (pad4 l).length = 4 := by simp [pad4]; omega
theorem pad4_at {l : List Int} {k : Nat} (h : k < l.length) : iat (pad4 l) k = iat l k := by
  unfold iat pad4; rw [List.getD_eq_getElem?_getD, List.getD_eq_getElem?_getD, List.getElem?_append_left h]
theorem pad4_head (l : List Int) : iat (pad4 l) 0 = iat l 0 := by
  cases l with
  | nil => rfl
  | cons a l => rfl
theorem put4_length {l : List Int} {v : Int} : (put4 l v).length = min 4 (l.length + 1) := by simp [put4, ins_length]
theorem put4_le (l : List Int) (v : Int) : (put4 l v).length ≤ 4 := by rw [put4_length]; omega
theorem put4_desc {l : List Int} {v : Int} (h : Desc l) : Desc (put4 l v) := desc_take (ins_desc h) 4
theorem fold_le {l : List Int} (h : l.length ≤ 4) (vs : List Int) : (vs.foldl put4 l).length ≤ 4 := by
  induction vs generalizing l with
  | nil => exact h
  | cons v vs ih => exact ih (put4_le l v)
theorem fold_desc {l : List Int} (h : Desc l) (vs : List Int) : Desc (vs.foldl put4 l) := by
  induction vs generalizing l with
  | nil => exact h
  | cons v vs ih => exact ih (put4_desc h)
/-- where v comes behind all four -/
theorem put4_full {l : List Int} {v : Int} (h : Desc l) (hl : l.length = 4) (h3 : ¬ iat l 3 < v) : put4 l v = l := by
  unfold put4
  rw [ins_split (k := 4) h (by omega) (fun _ => h3) (fun i hi hil => by omega)]
  have e : l.take 4 = l := List.take_of_length_le (by omega)
  rw [e, List.take_append_of_le_length (by omega), e]
/-- the row once v stands at k, the others moved by one -/
theorem pad4_put {l : List Int} {v : Int} {k : Nat} (hd : Desc l) (hl : l.length ≤ 4) (hk : k ≤ l.length) (h1 : 0 < k → ¬ iat l (k - 1) < v) (h2 : ∀ i, k ≤ i → i < l.length → iat l i < v) :
    pad4 (put4 l v) = ((pad4 l).take k ++ v :: (pad4 l).drop k).take 4 := by
  have e1 : (pad4 l).take k = l.take k := by unfold pad4; rw [List.take_append_of_le_length hk]
  have e2 : (pad4 l).drop k = l.drop k ++ List.replicate (4 - l.length) 0 := by unfold pad4; rw [List.drop_append_of_le_length hk]
  have e3 := ins_split hd hk h1 h2
  unfold put4
  rw [e1, e2, e3]
  unfold pad4
  have hln : (l.take k ++ v :: l.drop k).length = l.length + 1 := by simp; omega
  rw [show l.take k ++ v :: (l.drop k ++ List.replicate (4 - l.length) 0) = (l.take k ++ v :: l.drop k) ++ List.replicate (4 - l.length) 0 by simp]
  generalize l.take k ++ v :: l.drop k = X at *
  rw [List.take_append, List.length_take, hln, List.take_replicate]
  congr 2
  omega
theorem put4_size {l : List Int} {v : Int} (hl : l.length ≤ 4) : (if 4 < (l.length : Int) + 1 then 4 else (l.length : Int) + 1) = ((put4 l v).length : Int) := by
  rw [put4_length]; split <;> omega

/-! ### the model's way: the first of the greatest, taken out -/

/-- the first of the greatest among the first k -/
def best (l : List Int) : Nat → Nat
  | 0 => 0
  | k + 1 => if iat l (best l k) < iat l k then k else best l k
theorem best_lt {l : List Int} : ∀ {k : Nat}, 0 < k → best l k < k
  | 0, h => absurd h (by omega)
  | k + 1, _ => by
    unfold best
    split
    · omega
    · cases k with
      | zero => simp [best]
      | succ k => have := best_lt (l := l) (k := k + 1) (by omega); omega
theorem best_max {l : List Int} : ∀ {k i : Nat}, i < k → iat l i ≤ iat l (best l k)
  | 0, i, h => absurd h (by omega)
  | k + 1, i, h => by
    by_cases hi : i = k
    · subst hi
      unfold best
      split <;> omega
    · have := best_max (l := l) (k := k) (i := i) (by omega)
      unfold best
      split <;> omega
theorem split_at {l : List Int} {k : Nat} (h : k < l.length) : l = l.take k ++ iat l k :: l.drop (k + 1) := by
  have : iat l k = l[k] := by simp [iat, h]
  rw [this, ← List.drop_eq_getElem_cons h, List.take_append_drop]
theorem dsort_pick {l : List Int} {k : Nat} (hk : k < l.length) (hm : ∀ i, i < l.length → iat l i ≤ iat l k) : dsort l = iat l k :: dsort (l.take k ++ l.drop (k + 1)) := by
  refine desc_unique (dsort_desc l) (List.pairwise_cons.2 ⟨fun b hb => ?_, dsort_desc _⟩) ?_
  · have hb' : b ∈ l := by
      have h1 := (dsort_perm _).mem_iff.1 hb
      rcases List.mem_append.1 h1 with h1 | h1
      · exact List.mem_of_mem_take h1
      · exact List.mem_of_mem_drop h1
    obtain ⟨i, hi, rfl⟩ := List.getElem_of_mem hb'
    have := hm i hi
    simpa [iat, hi] using this
  · refine (dsort_perm l).trans (List.Perm.trans ?_ ((dsort_perm _).cons _).symm)
    have h1 : l.Perm (l.take k ++ iat l k :: l.drop (k + 1)) := by rw [← split_at hk]
    exact h1.trans List.perm_middle

/-! ### sums, the least, the greatest -/

theorem sum_snoc (l : List Int) (v : Int) : (l ++ [v]).sum = l.sum + v := by simp
theorem sum_perm {a b : List Int} (h : a.Perm b) : a.sum = b.sum := by
  induction h with
  | nil => rfl
  | cons x _ ih => simp [ih]
  | swap x y l => simp; omega
  | trans _ _ h1 h2 => exact h1.trans h2
/-- the least of them; 0 of none -/
def mnOf : List Int → Int
  | [] => 0
  | a :: l => l.foldl min a
theorem mnOf_one (a : Int) : mnOf [a] = a := rfl
theorem mnOf_snoc {l : List Int} (v : Int) (h : l ≠ []) : mnOf (l ++ [v]) = min (mnOf l) v := by
  cases l with
  | nil => exact absurd rfl h
  | cons a l => simp [mnOf]
theorem foldl_min_le (l : List Int) : ∀ a, l.foldl min a ≤ a ∧ ∀ x ∈ l, l.foldl min a ≤ x := by
  induction l with
  | nil => intro a; exact ⟨Int.le_refl _, fun x hx => by cases hx⟩
  | cons b l ih =>
    intro a
    rw [List.foldl_cons]
    obtain ⟨h1, h2⟩ := ih (min a b)
    refine ⟨by omega, fun x hx => ?_⟩
    rcases List.mem_cons.1 hx with rfl | hx
    · omega
    · exact h2 x hx
theorem mnOf_le {l : List Int} {x : Int} (h : x ∈ l) : mnOf l ≤ x := by
  cases l with
  | nil => cases h
  | cons a l =>
    obtain ⟨h1, h2⟩ := foldl_min_le l a
    rcases List.mem_cons.1 h with rfl | h
    · exact h1
    · exact h2 x h
theorem foldl_min_mem (l : List Int) : ∀ a, l.foldl min a ∈ a :: l := by
  induction l with
  | nil => intro a; simp
  | cons b l ih =>
    intro a
    rw [List.foldl_cons]
    rcases List.mem_cons.1 (ih (min a b)) with h | h
    · rw [h]
      by_cases hab : a ≤ b
      · rw [Int.min_eq_left hab]; simp
      · rw [Int.min_eq_right (by omega)]; simp
    · simp [h]
theorem mnOf_mem {l : List Int} (h : l ≠ []) : mnOf l ∈ l := by
  cases l with
  | nil => exact absurd rfl h
  | cons a l => exact foldl_min_mem l a
theorem mnOf_unique {l : List Int} {m : Int} (h : m ∈ l) (hm : ∀ x ∈ l, m ≤ x) : mnOf l = m := by
  have h1 := mnOf_le h
  have h2 := hm _ (mnOf_mem (List.ne_nil_of_mem h))
  omega
theorem mnOf_perm {a b : List Int} (h : a.Perm b) : mnOf a = mnOf b := by
  cases b with
  | nil => rw [h.eq_nil]
  | cons x l =>
    have hm := mnOf_mem (l := x :: l) (by simp)
    exact mnOf_unique (h.mem_iff.2 hm) (fun y hy => mnOf_le (h.mem_iff.1 hy))
theorem mnOf_append {a b : List Int} (ha : a ≠ []) (hb : b ≠ []) : mnOf (a ++ b) = min (mnOf a) (mnOf b) := by
  have h1 := mnOf_mem ha
  have h2 := mnOf_mem hb
  refine mnOf_unique ?_ (fun x hx => ?_)
  · by_cases h : mnOf a ≤ mnOf b
    · rw [Int.min_eq_left h]; exact List.mem_append_left _ h1
    · rw [Int.min_eq_right (by omega)]; exact List.mem_append_right _ h2
  · rcases List.mem_append.1 hx with hx | hx
    · have := mnOf_le hx; omega
    · have := mnOf_le hx; omega
/-- the greatest of them; 0 of none -/
def mxOf (l : List Int) : Int := iat (topOf l) 0
theorem ins_head (v a : Int) (l : List Int) : iat (ins v (a :: l)) 0 = max a v := by
  unfold ins
  split
  · simp [iat]; omega
  · simp [iat]; omega
theorem put4_head {l : List Int} {v : Int} (h : l ≠ []) : iat (put4 l v) 0 = max (iat l 0) v := by
  cases l with
  | nil => exact absurd rfl h
  | cons a l =>
    have : iat (put4 (a :: l) v) 0 = iat (ins v (a :: l)) 0 := by
      unfold put4 iat
      cases ins v (a :: l) <;> simp
    rw [this, ins_head]; simp [iat]
theorem topOf_ne {l : List Int} (h : l ≠ []) : topOf l ≠ [] := by
  intro e
  have := topOf_length l
  rw [e] at this
  have : 0 < l.length := List.length_pos_iff.2 h
  simp at *
  omega
theorem mxOf_one (a : Int) : mxOf [a] = a := rfl
theorem mxOf_snoc {l : List Int} (v : Int) (h : l ≠ []) : mxOf (l ++ [v]) = max (mxOf l) v := by
  unfold mxOf; rw [topOf_snoc, put4_head (topOf_ne h)]
theorem take_snoc {l : List Int} {k : Nat} (h : k < l.length) : l.take (k + 1) = l.take k ++ [iat l k] := by
  rw [List.take_succ_eq_append_getElem h]; simp [iat, h]
end Go.Proofs.Ytlmlckgnmkjkdaa
