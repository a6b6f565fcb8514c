import Derived.Test.YtlmlckgnmkjkdaaBase
import Derived.Deep.DeepCutAuto

/-
  A stable sort by insertion, rotation and merging in place, in numbers alone: E k is the rank of what lies at k.
-/
namespace Go.Proofs.Ytlmlckgnmkjkdaa

/-- two places exchanged -/
def swp {α : Type} (E : Nat → α) (i j : Nat) : Nat → α := fun k => if k = i then E j else if k = j then E i else E k
/-- the parts s..m and m..e exchanged -/
def rot {α : Type} (E : Nat → α) (s m e : Nat) : Nat → α := fun k => if k < s then E k else if k < s + (e - m) then E (k + (m - s)) else if k < e then E (k - (e - m)) else E k
def Up (a b : Nat) (E : Nat → Nat) : Prop := ∀ i j, a ≤ i → i < j → j < b → E i < E j
/-- only a..b has moved, and within itself -/
def Mv (a b : Nat) (E E' : Nat → Nat) : Prop := (∀ k, (k < a ∨ b ≤ k) → E' k = E k) ∧ ∀ k, a ≤ k → k < b → ∃ l, a ≤ l ∧ l < b ∧ E' k = E l
/-- what lies the wrong way round is so strictly (by lt), and no rank lies twice -/
def Inv (lt : Nat → Nat → Prop) (n : Nat) (E : Nat → Nat) : Prop := (∀ i, i < n → E i < n) ∧ ∀ i j, i < j → j < n → E i ≠ E j ∧ (E j < E i → lt (E j) (E i))

theorem Mv.refl (a b : Nat) (E : Nat → Nat) : Mv a b E E := ⟨fun _ _ => rfl, fun k h1 h2 => ⟨k, h1, h2, rfl⟩⟩
theorem Mv.trans {a b : Nat} {E F G : Nat → Nat} (h : Mv a b E F) (k : Mv a b F G) : Mv a b E G := by
  refine ⟨fun x hx => (k.1 x hx).trans (h.1 x hx), fun x h1 h2 => ?_⟩
  obtain ⟨l, l1, l2, e⟩ := k.2 x h1 h2
  obtain ⟨l', m1, m2, e'⟩ := h.2 l l1 l2
  exact ⟨l', m1, m2, e.trans e'⟩
theorem Mv.mono {a b c d : Nat} {E F : Nat → Nat} (h : Mv a b E F) (h1 : c ≤ a) (h2 : b ≤ d) : Mv c d E F := by
  refine ⟨fun x hx => h.1 x (by omega), fun x hx1 hx2 => ?_⟩
  by_cases hx : a ≤ x ∧ x < b
  · obtain ⟨l, l1, l2, e⟩ := h.2 x hx.1 hx.2
    exact ⟨l, by omega, by omega, e⟩
  · exact ⟨x, hx1, hx2, h.1 x (by omega)⟩
theorem Mv.swp {a b i j : Nat} {E : Nat → Nat} (hi : a ≤ i ∧ i < b) (hj : a ≤ j ∧ j < b) : Mv a b E (swp E i j) := by
  refine ⟨fun x hx => ?_, fun x h1 h2 => ?_⟩
  · unfold Go.Proofs.Ytlmlckgnmkjkdaa.swp
    rw [if_neg (by omega), if_neg (by omega)]
  · unfold Go.Proofs.Ytlmlckgnmkjkdaa.swp
    by_cases hxi : x = i
    · exact ⟨j, hj.1, hj.2, by rw [if_pos hxi]⟩
    · by_cases hxj : x = j
      · exact ⟨i, hi.1, hi.2, by rw [if_neg hxi, if_pos hxj]⟩
      · exact ⟨x, h1, h2, by rw [if_neg hxi, if_neg hxj]⟩
theorem rot_low {α : Type} {E : Nat → α} {s m e k : Nat} (h : k < s) : rot E s m e k = E k := by unfold rot; rw [if_pos h]
theorem rot_one {α : Type} {E : Nat → α} {s m e k : Nat} (h : s ≤ k) (h2 : k < s + (e - m)) : rot E s m e k = E (k + (m - s)) := by
  unfold rot; rw [if_neg (by omega), if_pos h2]
theorem rot_two {α : Type} {E : Nat → α} {s m e k : Nat} (h : s + (e - m) ≤ k) (h2 : k < e) : rot E s m e k = E (k - (e - m)) := by
  unfold rot; rw [if_neg (by omega), if_neg (by omega), if_pos h2]
theorem rot_high {α : Type} {E : Nat → α} {s m e k : Nat} (hs : s ≤ m) (hm : m ≤ e) (h : e ≤ k) : rot E s m e k = E k := by
  unfold rot; rw [if_neg (by omega), if_neg (by omega), if_neg (by omega)]
theorem Mv.rot {s m e : Nat} {E : Nat → Nat} (hs : s ≤ m) (hm : m ≤ e) : Mv s e E (rot E s m e) := by
  refine ⟨fun x hx => ?_, fun x h1 h2 => ?_⟩
  · rcases hx with hx | hx
    · exact rot_low hx
    · exact rot_high hs hm hx
  · by_cases h : x < s + (e - m)
    · exact ⟨x + (m - s), by omega, by omega, rot_one h1 h⟩
    · exact ⟨x - (e - m), by omega, by omega, rot_two (by omega) h2⟩
theorem Inv.ne {lt : Nat → Nat → Prop} {n : Nat} {E : Nat → Nat} (h : Inv lt n E) {i j : Nat} (hi : i < n) (hj : j < n) (hij : i ≠ j) : E i ≠ E j := by
  rcases Nat.lt_or_gt_of_ne hij with hl | hl
  · exact (h.2 i j hl hj).1
  · exact Ne.symm (h.2 j i hl hi).1
/-- An exchange of neighbours that lie the wrong way round. -/
theorem Inv.swp {lt : Nat → Nat → Prop} {n : Nat} {E : Nat → Nat} (h : Inv lt n E) {i : Nat} (hi : i + 1 < n) (hlt : E (i + 1) < E i) : Inv lt n (swp E (i + 1) i) := by
  have e0 : Go.Proofs.Ytlmlckgnmkjkdaa.swp E (i + 1) i (i + 1) = E i := by unfold Go.Proofs.Ytlmlckgnmkjkdaa.swp; rw [if_pos rfl]
  have e1 : Go.Proofs.Ytlmlckgnmkjkdaa.swp E (i + 1) i i = E (i + 1) := by unfold Go.Proofs.Ytlmlckgnmkjkdaa.swp; rw [if_neg (by omega), if_pos rfl]
  have e2 : ∀ k, k ≠ i → k ≠ i + 1 → Go.Proofs.Ytlmlckgnmkjkdaa.swp E (i + 1) i k = E k := fun k h1 h2 => by unfold Go.Proofs.Ytlmlckgnmkjkdaa.swp; rw [if_neg h2, if_neg h1]
  refine ⟨fun k hk => ?_, fun p q hpq hq => ?_⟩
  · by_cases k1 : k = i
    · subst k1; rw [e1]; exact h.1 _ (by omega)
    · by_cases k2 : k = i + 1
      · subst k2; rw [e0]; exact h.1 _ (by omega)
      · rw [e2 k k1 k2]; exact h.1 k hk
  · by_cases p1 : p = i
    · subst p1
      rw [e1]
      by_cases q2 : q = p + 1
      · subst q2; rw [e0]; exact ⟨by omega, fun h' => by omega⟩
      · rw [e2 q (by omega) q2]; exact h.2 (p + 1) q (by omega) hq
    · by_cases p2 : p = i + 1
      · subst p2
        rw [e0, e2 q (by omega) (by omega)]
        exact h.2 i q (by omega) hq
      · rw [e2 p p1 p2]
        by_cases q1 : q = i
        · subst q1; rw [e1]; exact h.2 p (q + 1) (by omega) (by omega)
        · by_cases q2 : q = i + 1
          · subst q2; rw [e0]; exact h.2 p i (by omega) (by omega)
          · rw [e2 q q1 q2]; exact h.2 p q hpq hq
/-- A rotation of parts of which the second lies wholly below the first. -/
theorem Inv.rot {lt : Nat → Nat → Prop} {n : Nat} {E : Nat → Nat} (h : Inv lt n E) {s m e : Nat} (hs : s ≤ m) (hm : m ≤ e) (he : e ≤ n) (hlt : ∀ i j, s ≤ i → i < m → m ≤ j → j < e → E j < E i) : Inv lt n (rot E s m e) := by
  have el : ∀ k, k < s → Go.Proofs.Ytlmlckgnmkjkdaa.rot E s m e k = E k := fun k h => rot_low h
  have eh : ∀ k, e ≤ k → Go.Proofs.Ytlmlckgnmkjkdaa.rot E s m e k = E k := fun k h => rot_high hs hm h
  have e1 : ∀ k, s ≤ k → k < s + (e - m) → Go.Proofs.Ytlmlckgnmkjkdaa.rot E s m e k = E (k + (m - s)) := fun k h h2 => rot_one h h2
  have e2 : ∀ k, s + (e - m) ≤ k → k < e → Go.Proofs.Ytlmlckgnmkjkdaa.rot E s m e k = E (k - (e - m)) := fun k h h2 => rot_two h h2
  -- where a place's content came from
  have hk : ∀ k, k < n → (k < s ∧ Go.Proofs.Ytlmlckgnmkjkdaa.rot E s m e k = E k) ∨ (s ≤ k ∧ k < s + (e - m) ∧ Go.Proofs.Ytlmlckgnmkjkdaa.rot E s m e k = E (k + (m - s))) ∨ (s + (e - m) ≤ k ∧ k < e ∧ Go.Proofs.Ytlmlckgnmkjkdaa.rot E s m e k = E (k - (e - m))) ∨ (e ≤ k ∧ Go.Proofs.Ytlmlckgnmkjkdaa.rot E s m e k = E k) := fun k _ => by
    by_cases c1 : k < s
    · exact .inl ⟨c1, el k c1⟩
    · by_cases c2 : k < s + (e - m)
      · exact .inr (.inl ⟨by omega, c2, e1 k (by omega) c2⟩)
      · by_cases c3 : k < e
        · exact .inr (.inr (.inl ⟨by omega, c3, e2 k (by omega) c3⟩))
        · exact .inr (.inr (.inr ⟨by omega, eh k (by omega)⟩))
  refine ⟨fun k hkn => ?_, fun p q hpq hq => ?_⟩
  · rcases hk k hkn with ⟨_, e⟩ | ⟨_, _, e⟩ | ⟨_, _, e⟩ | ⟨_, e⟩
    all_goals rw [e]; exact h.1 _ (by omega)
  · rcases hk p (by omega) with ⟨p1, ep⟩ | ⟨p1, p2, ep⟩ | ⟨p1, p2, ep⟩ | ⟨p1, ep⟩ <;> rcases hk q hq with ⟨q1, eq⟩ | ⟨q1, q2, eq⟩ | ⟨q1, q2, eq⟩ | ⟨q1, eq⟩ <;> rw [ep, eq]
    all_goals first
      | exact h.2 _ _ (by omega) (by omega)
      | (exfalso; omega)
      | (have hl := hlt (q - (e - m)) (p + (m - s)) (by omega) (by omega) (by omega) (by omega); exact ⟨by omega, fun h' => by omega⟩)
/-- After a rotation at the right place each side lies below the other, and each is made of two sorted parts. -/
theorem rot_lower {E : Nat → Nat} {a s m e b : Nat} (has : a ≤ s) (hs : s ≤ m) (hm : m ≤ e) (he : e ≤ b) (h1 : Up a m E) (h2 : Up m b E)
    (hx : a < s → e < b → E (s - 1) < E e) (hy : s < m → m < e → E (e - 1) < E s) :
    ∀ i j, a ≤ i → i < s + (e - m) → s + (e - m) ≤ j → j < b → rot E s m e i < rot E s m e j := by
  intro i j hi him hj hjb
  have A : ∀ x y, a ≤ x → x ≤ y → y < m → E x ≤ E y := fun x y h h' h'' => by
    rcases Nat.lt_or_ge x y with hl | hl
    · exact Nat.le_of_lt (h1 x y h hl h'')
    · rw [show x = y by omega]; exact Nat.le_refl _
  have B : ∀ x y, m ≤ x → x ≤ y → y < b → E x ≤ E y := fun x y h h' h'' => by
    rcases Nat.lt_or_ge x y with hl | hl
    · exact Nat.le_of_lt (h2 x y h hl h'')
    · rw [show x = y by omega]; exact Nat.le_refl _
  by_cases c1 : i < s
  · rw [rot_low c1]
    by_cases c2 : j < e
    · rw [rot_two hj c2]; exact h1 _ _ hi (by omega) (by omega)
    · rw [rot_high hs hm (by omega)]
      have := A i (s - 1) hi (by omega) (by omega)
      have := hx (by omega) (by omega)
      have := B e j (by omega) (by omega) hjb
      omega
  · rw [rot_one (by omega) him]
    by_cases c2 : j < e
    · rw [rot_two hj c2]
      have := B (i + (m - s)) (e - 1) (by omega) (by omega) (by omega)
      have := hy (by omega) (by omega)
      have := A s (j - (e - m)) (by omega) (by omega) (by omega)
      omega
    · rw [rot_high hs hm (by omega)]; exact h2 _ _ (by omega) (by omega) (by omega)
theorem rot_up_left {E : Nat → Nat} {a s m e b : Nat} (hs : s ≤ m) (hm : m ≤ e) (he : e ≤ b) (h1 : Up a m E) (h2 : Up m b E) : Up a s (rot E s m e) ∧ Up s (s + (e - m)) (rot E s m e) := by
  constructor
  · intro i j hi hij hj
    rw [rot_low (by omega), rot_low hj]; exact h1 _ _ hi hij (by omega)
  · intro i j hi hij hj
    rw [rot_one hi (by omega), rot_one (by omega) hj]; exact h2 _ _ (by omega) (by omega) (by omega)
theorem rot_up_right {E : Nat → Nat} {a s m e b : Nat} (has : a ≤ s) (hs : s ≤ m) (hm : m ≤ e) (h1 : Up a m E) (h2 : Up m b E) : Up (s + (e - m)) e (rot E s m e) ∧ Up e b (rot E s m e) := by
  constructor
  · intro i j hi hij hj
    rw [rot_two hi (by omega), rot_two (by omega) hj]; exact h1 _ _ (by omega) (by omega) (by omega)
  · intro i j hi hij hj
    rw [rot_high hs hm hi, rot_high hs hm (by omega)]; exact h2 _ _ (by omega) hij hj
/-- two sorted parts of which the one lies below the other -/
theorem up_join {E : Nat → Nat} {a m b : Nat} (h1 : Up a m E) (h2 : Up m b E) (h : ∀ i j, a ≤ i → i < m → m ≤ j → j < b → E i < E j) : Up a b E := fun i j hi hij hj => by
  by_cases c : j < m
  · exact h1 i j hi hij c
  · by_cases c2 : i < m
    · exact h i j hi c2 (by omega) hj
    · exact h2 i j (by omega) hij hj
theorem Up.keep {E F : Nat → Nat} {a b : Nat} (h : Up a b E) (hk : ∀ k, a ≤ k → k < b → F k = E k) : Up a b F := fun i j hi hij hj => by
  rw [hk i hi (by omega), hk j (by omega) hj]; exact h i j hi hij hj
/-- what lies below goes on lying below, whatever moves within -/
theorem Mv.low {E F : Nat → Nat} {a m b : Nat} (h1 : Mv a m E F) (h : ∀ i j, a ≤ i → i < m → m ≤ j → j < b → E i < E j) : ∀ i j, a ≤ i → i < m → m ≤ j → j < b → F i < F j := fun i j hi him hj hjb => by
  obtain ⟨l, l1, l2, e⟩ := h1.2 i hi him
  rw [e, h1.1 j (.inr hj)]; exact h l j l1 l2 hj hjb
theorem Mv.high {E F : Nat → Nat} {a m b : Nat} (h1 : Mv m b E F) (h : ∀ i j, a ≤ i → i < m → m ≤ j → j < b → E i < E j) : ∀ i j, a ≤ i → i < m → m ≤ j → j < b → F i < F j := fun i j hi him hj hjb => by
  obtain ⟨l, l1, l2, e⟩ := h1.2 j hj hjb
  rw [e, h1.1 i (.inl him)]; exact h i l hi him l1 l2
theorem up_id_aux {n : Nat} {E : Nat → Nat} (hu : Up 0 n E) : ∀ k, k < n → k ≤ E k
  | 0, _ => Nat.zero_le _
  | k + 1, hk => by
    have := up_id_aux hu k (by omega)
    have := hu k (k + 1) (Nat.zero_le _) (by omega) hk
    omega
theorem up_id_top {n : Nat} {E : Nat → Nat} (hu : Up 0 n E) (hb : ∀ i, i < n → E i < n) : ∀ d k, k + d + 1 = n → E k ≤ k
  | 0, k, hd => by have := hb k (by omega); omega
  | d + 1, k, hd => by
    have := up_id_top hu hb d (k + 1) (by omega)
    have := hu k (k + 1) (Nat.zero_le _) (by omega) (by omega)
    omega
/-- Sorted wholly, each rank lies at its place. -/
theorem up_id {n : Nat} {E : Nat → Nat} (hu : Up 0 n E) (hb : ∀ i, i < n → E i < n) {k : Nat} (hk : k < n) : E k = k :=
  Nat.le_antisymm (up_id_top hu hb (n - k - 1) k (by omega)) (up_id_aux hu k hk)

/-! ### insertion -/
/-- before j is sorted, j..i too, and what lies before j lies below what lies behind it -/
structure Ins (a i j : Nat) (E : Nat → Nat) : Prop where
  le : a ≤ j ∧ j ≤ i
  low : Up a j E
  top : Up j (i + 1) E
  mid : ∀ x y, a ≤ x → x < j → j < y → y ≤ i → E x < E y
theorem Ins.start {a i : Nat} {E : Nat → Nat} (h : Up a i E) (ha : a ≤ i) : Ins a i i E := ⟨⟨ha, Nat.le_refl _⟩, h, fun _ _ h1 h2 h3 => by omega, fun _ _ _ _ h1 h2 => by omega⟩
theorem Ins.stop {a i j : Nat} {E : Nat → Nat} (h : Ins a i j E) (hs : j = a ∨ E (j - 1) < E j) : Up a (i + 1) E := by
  refine up_join h.low h.top fun x y hx hxj hy hyi => ?_
  by_cases c : y = j
  · subst c
    rcases hs with hs | hs
    · omega
    · by_cases c2 : x = y - 1
      · rw [c2]; exact hs
      · exact Nat.lt_trans (h.low x (y - 1) hx (by omega) (by omega)) hs
  · exact h.mid x y hx hxj (by omega) (by omega)
theorem Ins.step {a i j : Nat} {E : Nat → Nat} (h : Ins a i (j + 1) E) (ha : a ≤ j) (hs : E (j + 1) < E j) : Ins a i j (swp E (j + 1) j) := by
  have e0 : swp E (j + 1) j (j + 1) = E j := by unfold swp; rw [if_pos rfl]
  have e1 : swp E (j + 1) j j = E (j + 1) := by unfold swp; rw [if_neg (by omega), if_pos rfl]
  have e2 : ∀ k, k ≠ j → k ≠ j + 1 → swp E (j + 1) j k = E k := fun k h1 h2 => by unfold swp; rw [if_neg h2, if_neg h1]
  have hle := h.le
  refine ⟨⟨ha, by omega⟩, fun x y hx hxy hy => ?_, fun x y hx hxy hy => ?_, fun x y hx hxj hy hyi => ?_⟩
  · rw [e2 x (by omega) (by omega), e2 y (by omega) (by omega)]; exact h.low x y hx hxy (by omega)
  · by_cases c : x = j
    · subst c
      rw [e1]
      by_cases c2 : y = x + 1
      · subst c2; rw [e0]; exact hs
      · rw [e2 y (by omega) c2]; exact h.top (x + 1) y (by omega) (by omega) hy
    · by_cases c2 : x = j + 1
      · subst c2
        rw [e0, e2 y (by omega) (by omega)]; exact h.mid j y ha (by omega) (by omega) (by omega)
      · rw [e2 x c c2, e2 y (by omega) (by omega)]; exact h.top x y (by omega) hxy hy
  · rw [e2 x (by omega) (by omega)]
    by_cases c : y = j + 1
    · subst c; rw [e0]; exact h.low x j hx hxj (by omega)
    · rw [e2 y (by omega) c]; exact h.mid x y hx (by omega) (by omega) hyi

/-! ### blocks -/
/-- from a on, blocks of c are sorted; the last may be short -/
def Blk (c a n : Nat) (E : Nat → Nat) : Prop := ∀ q, Up (a + q * c) (min (a + q * c + c) n) E
theorem Blk.next {c a n : Nat} {E : Nat → Nat} (h : Blk c a n E) : Blk c (a + c) n E := fun q => by
  have := h (q + 1)
  rw [show a + (q + 1) * c = a + c + q * c by rw [Nat.add_mul, Nat.one_mul]; omega] at this
  exact this
theorem Blk.first {c a n : Nat} {E : Nat → Nat} (h : Blk c a n E) (hc : a + c ≤ n) : Up a (a + c) E := by
  have := h 0
  rw [Nat.zero_mul, Nat.add_zero, Nat.min_eq_left hc] at this
  exact this
theorem Blk.last {c a n : Nat} {E : Nat → Nat} (h : Blk c a n E) (hc : n ≤ a + c) : Up a n E := by
  have := h 0
  rw [Nat.zero_mul, Nat.add_zero, Nat.min_eq_right hc] at this
  exact this
theorem Up.nil {a b : Nat} {E : Nat → Nat} (h : b ≤ a + 1) : Up a b E := fun _ _ _ _ _ => by omega
theorem Blk.keep {c a n : Nat} {E F : Nat → Nat} (h : Blk c a n E) (hk : ∀ k, a ≤ k → F k = E k) : Blk c a n F := fun q => (h q).keep fun k hk' _ => hk k (by have := Nat.zero_le (q * c); omega)
/-- the blocks before a, sorted, a being the start of the t-th -/
def Done (c t : Nat) (E : Nat → Nat) : Prop := ∀ q, q < t → Up (q * c) (q * c + c) E
theorem Done.zero {c : Nat} {E : Nat → Nat} : Done c 0 E := fun _ h => by omega
theorem Done.keep {c t : Nat} {E F : Nat → Nat} (h : Done c t E) (hk : ∀ k, k < t * c → F k = E k) : Done c t F := fun q hq => (h q hq).keep fun k _ hk' => hk k (by
  have : (q + 1) * c ≤ t * c := Nat.mul_le_mul_right c hq
  rw [Nat.add_mul, Nat.one_mul] at this
  omega)
theorem Done.snoc {c t : Nat} {E : Nat → Nat} (h : Done c t E) (hu : Up (t * c) (t * c + c) E) : Done c (t + 1) E := fun q hq => by
  by_cases c1 : q = t
  · subst c1; exact hu
  · exact h q (by omega)
/-- the blocks before a and a last, short one -/
theorem Done.blk {c t n : Nat} {E : Nat → Nat} (h : Done c t E) (hu : Up (t * c) n E) (hn : n < t * c + c) : Blk c 0 n E := fun q => by
  rw [Nat.zero_add]
  rcases Nat.lt_trichotomy q t with hq | hq | hq
  · intro i j hi hij hj
    exact h q hq i j hi hij (by omega)
  · subst hq
    intro i j hi hij hj
    exact hu i j hi hij (by omega)
  · have : (t + 1) * c ≤ q * c := Nat.mul_le_mul_right c hq
    rw [Nat.add_mul, Nat.one_mul] at this
    exact fun _ _ _ _ _ => by omega
/-! ### rotation by exchanges of ranges -/
/-- two ranges of n places exchanged -/
def swr {α : Type} (E : Nat → α) (a b n : Nat) : Nat → α := fun k => if a ≤ k ∧ k < a + n then E (k - a + b) else if b ≤ k ∧ k < b + n then E (k - b + a) else E k
theorem swr_zero {α : Type} {E : Nat → α} {a b : Nat} : swr E a b 0 = E := by
  funext k
  unfold swr
  rw [if_neg (by omega), if_neg (by omega)]
theorem swr_succ {α : Type} {E : Nat → α} {a b n : Nat} (h : a + n < b) : swp (swr E a b n) (a + n) (b + n) = swr E a b (n + 1) := by
  funext k
  unfold swp swr
  by_cases c1 : k = a + n
  · subst c1
    rw [if_pos rfl, if_neg (by omega), if_neg (by omega), if_pos (by omega)]
    congr 1; omega
  · by_cases c2 : k = b + n
    · subst c2
      rw [if_neg (by omega), if_pos rfl, if_neg (by omega), if_neg (by omega), if_neg (by omega), if_pos (by omega)]
      congr 1; omega
    · rw [if_neg c1, if_neg c2]
      by_cases c3 : a ≤ k ∧ k < a + n
      · rw [if_pos c3, if_pos (show a ≤ k ∧ k < a + (n + 1) by omega)]
      · rw [if_neg c3, if_neg (show ¬ (a ≤ k ∧ k < a + (n + 1)) by omega)]
        by_cases c4 : b ≤ k ∧ k < b + n
        · rw [if_pos c4, if_pos (show b ≤ k ∧ k < b + (n + 1) by omega)]
        · rw [if_neg c4, if_neg (show ¬ (b ≤ k ∧ k < b + (n + 1)) by omega)]
theorem swr_same {α : Type} {E : Nat → α} {m i : Nat} (h : i ≤ m) : swr E (m - i) m i = rot E (m - i) m (m + i) := by
  funext k
  by_cases c1 : k < m - i
  · rw [rot_low c1]; unfold swr; rw [if_neg (by omega), if_neg (by omega)]
  · by_cases c2 : k < m
    · rw [rot_one (by omega) (by omega)]; unfold swr; rw [if_pos (by omega)]; congr 1; omega
    · by_cases c3 : k < m + i
      · rw [rot_two (by omega) c3]; unfold swr; rw [if_neg (by omega), if_pos (by omega)]; congr 1; omega
      · rw [rot_high (by omega) (by omega) (by omega)]; unfold swr; rw [if_neg (by omega), if_neg (by omega)]
theorem rot_more {α : Type} {E : Nat → α} {m i j : Nat} (h : i ≤ m) (hij : j < i) : rot (swr E (m - i) m j) (m - (i - j)) m (m + j) = rot E (m - i) m (m + j) := by
  funext k
  by_cases c1 : k < m - i
  · rw [rot_low c1, rot_low (by omega)]; unfold swr; rw [if_neg (by omega), if_neg (by omega)]
  · by_cases c2 : k < m - i + j
    · rw [rot_low (by omega), rot_one (by omega) (by omega)]; unfold swr; rw [if_pos (by omega)]; congr 1; omega
    · by_cases c3 : k < m - (i - j) + j
      · rw [rot_one (by omega) (by omega), rot_two (by omega) (by omega)]; unfold swr; rw [if_neg (by omega), if_pos (by omega)]; congr 1; omega
      · by_cases c4 : k < m + j
        · rw [rot_two (by omega) c4, rot_two (by omega) c4]; unfold swr; rw [if_neg (by omega), if_neg (by omega)]
        · rw [rot_high (by omega) (by omega) (by omega), rot_high (by omega) (by omega) (by omega)]; unfold swr; rw [if_neg (by omega), if_neg (by omega)]
theorem rot_less {α : Type} {E : Nat → α} {m i j : Nat} (h : i ≤ m) (hij : i < j) : rot (swr E (m - i) (m + j - i) i) (m - i) m (m + (j - i)) = rot E (m - i) m (m + j) := by
  funext k
  by_cases c1 : k < m - i
  · rw [rot_low c1, rot_low c1]; unfold swr; rw [if_neg (by omega), if_neg (by omega)]
  · by_cases c2 : k < m - i + (j - i)
    · rw [rot_one (by omega) (by omega), rot_one (by omega) (by omega)]; unfold swr; rw [if_neg (by omega), if_neg (by omega)]
    · by_cases c3 : k < m + (j - i)
      · rw [rot_two (by omega) c3, rot_one (by omega) (by omega)]; unfold swr; rw [if_pos (by omega)]; congr 1; omega
      · by_cases c4 : k < m + j
        · rw [rot_high (by omega) (by omega) (by omega), rot_two (by omega) c4]; unfold swr; rw [if_neg (by omega), if_pos (by omega)]; congr 1; omega
        · rw [rot_high (by omega) (by omega) (by omega), rot_high (by omega) (by omega) (by omega)]; unfold swr; rw [if_neg (by omega), if_neg (by omega)]
/-- one place moved up by one more -/
theorem rot_up {α : Type} {E : Nat → α} {a k : Nat} (h : a ≤ k) : swp (rot E a (a + 1) (k + 1)) k (k + 1) = rot E a (a + 1) (k + 2) := by
  funext x
  unfold swp
  by_cases c1 : x = k
  · subst c1
    rw [if_pos rfl, rot_high (by omega) (by omega) (Nat.le_refl _), rot_one h (by omega)]
    congr 1; omega
  · by_cases c2 : x = k + 1
    · subst c2
      rw [if_neg c1, if_pos rfl, rot_two (by omega) (by omega), rot_two (by omega) (by omega)]
      congr 1; omega
    · rw [if_neg c1, if_neg c2]
      by_cases c3 : x < a
      · rw [rot_low c3, rot_low c3]
      · by_cases c4 : x < k
        · rw [rot_one (by omega) (by omega), rot_one (by omega) (by omega)]
        · rw [rot_high (by omega) (by omega) (by omega), rot_high (by omega) (by omega) (by omega)]
theorem rot_none {α : Type} {E : Nat → α} {s m e : Nat} (h : s = m ∨ e = m) (hs : s ≤ m) (hm : m ≤ e) : rot E s m e = E := by
  funext k
  by_cases c1 : k < s
  · rw [rot_low c1]
  · by_cases c2 : k < s + (e - m)
    · rw [rot_one (by omega) c2]; congr 1; omega
    · by_cases c3 : k < e
      · rw [rot_two (by omega) c3]; congr 1; omega
      · rw [rot_high hs hm (by omega)]
/-- one place moved down by one more -/
theorem rot_down {α : Type} {E : Nat → α} {k m : Nat} (h : k < m) : swp (rot E (k + 1) m (m + 1)) (k + 1) k = rot E k m (m + 1) := by
  funext x
  unfold swp
  by_cases c1 : x = k + 1
  · subst c1
    rw [if_pos rfl, rot_low (by omega), rot_two (by omega) (by omega)]
    congr 1; omega
  · by_cases c2 : x = k
    · subst c2
      rw [if_neg c1, if_pos rfl, rot_one (by omega) (by omega), rot_one (by omega) (by omega)]
      congr 1; omega
    · rw [if_neg c1, if_neg c2]
      by_cases c3 : x < k
      · rw [rot_low (by omega), rot_low c3]
      · by_cases c4 : x < m + 1
        · rw [rot_two (by omega) c4, rot_two (by omega) c4]
        · rw [rot_high (by omega) (by omega) (by omega), rot_high (by omega) (by omega) (by omega)]

/-- one that is put into a sorted part behind it -/
theorem merge_one_left {E : Nat → Nat} {a i b : Nat} (hi : a + 1 ≤ i) (hb : i ≤ b) (hu : Up (a + 1) b E) (hl : ∀ x, a + 1 ≤ x → x < i → E x < E a) (hg : ∀ x, i ≤ x → x < b → E a < E x) : Up a b (rot E a (a + 1) i) := by
  have e1 : ∀ k, a ≤ k → k + 1 < i → rot E a (a + 1) i k = E (k + 1) := fun k h h2 => by rw [rot_one h (by omega)]; congr 1; omega
  have e2 : rot E a (a + 1) i (i - 1) = E a := by rw [rot_two (by omega) (by omega)]; congr 1; omega
  have e3 : ∀ k, i ≤ k → rot E a (a + 1) i k = E k := fun k h => rot_high (by omega) hi h
  intro p q hp hpq hq
  by_cases c1 : q + 1 < i
  · rw [e1 p hp (by omega), e1 q (by omega) c1]; exact hu _ _ (by omega) (by omega) (by omega)
  · by_cases c2 : q + 1 = i
    · have : q = i - 1 := by omega
      subst this
      rw [e1 p hp (by omega), e2]; exact hl _ (by omega) (by omega)
    · rw [e3 q (by omega)]
      by_cases c3 : p + 1 < i
      · rw [e1 p hp c3]; exact hu _ _ (by omega) (by omega) hq
      · by_cases c4 : p + 1 = i
        · have : p = i - 1 := by omega
          subst this
          rw [e2]; exact hg _ (by omega) hq
        · rw [e3 p (by omega)]; exact hu _ _ (by omega) hpq hq
/-- one that is put into a sorted part ahead of it -/
theorem merge_one_right {E : Nat → Nat} {a i m : Nat} (hi : a ≤ i) (hm : i ≤ m) (hu : Up a m E) (hl : ∀ x, a ≤ x → x < i → E x < E m) (hg : ∀ x, i ≤ x → x < m → E m < E x) : Up a (m + 1) (rot E i m (m + 1)) := by
  have e1 : ∀ k, k < i → rot E i m (m + 1) k = E k := fun k h => rot_low h
  have e2 : rot E i m (m + 1) i = E m := by rw [rot_one (Nat.le_refl _) (by omega)]; congr 1; omega
  have e3 : ∀ k, i < k → k < m + 1 → rot E i m (m + 1) k = E (k - 1) := fun k h h2 => by rw [rot_two (by omega) h2]; congr 1; omega
  intro p q hp hpq hq
  by_cases c1 : q < i
  · rw [e1 p (by omega), e1 q c1]; exact hu _ _ hp hpq (by omega)
  · by_cases c2 : q = i
    · subst c2; rw [e1 p hpq, e2]; exact hl _ hp hpq
    · rw [e3 q (by omega) hq]
      by_cases c3 : p < i
      · rw [e1 p c3]; exact hu _ _ hp (by omega) (by omega)
      · by_cases c4 : p = i
        · subst c4; rw [e2]; exact hg _ (by omega) (by omega)
        · rw [e3 p (by omega) (by omega)]; exact hu _ _ (by omega) (by omega) (by omega)
end Go.Proofs.Ytlmlckgnmkjkdaa

/-
  sort.Stable over any data: what its parts do, in ranks: swapRange, rotate.
-/
namespace Go.Proofs.Ytlmlckgnmkjkdaa
open Go.RowKit

/-- What is sorted: ST E w: in the world w the place k holds what has the rank E k. lt is how two ranks compare by Less. -/
structure SortData (rv : Value) (n : Nat) (lt : Nat → Nat → Prop) (ST : (Nat → Nat) → World → Prop) : Prop where
  small : n < 1152921504606846976
  less : ∀ (E : Nat → Nat) (w : World) (i j : Nat), ST E w → i < n → j < n → Calls Try.prog 166 #[rv, .int .i64 (i : Int), .int .i64 (j : Int)] w fun e w' => e = .returned (.bool (tf (lt (E i) (E j)))) ∧ ST E w'
  swap : ∀ (E : Nat → Nat) (w : World) (i j : Nat), ST E w → i < n → j < n → ¬ i = j → Calls Try.prog 167 #[rv, .int .i64 (i : Int), .int .i64 (j : Int)] w fun e w' => e = .returned (.tuple #[]) ∧ ST (swp E i j) w'
  len : ∀ (E : Nat → Nat) (w : World), ST E w → Calls Try.prog 165 #[rv] w fun e w' => e = .returned (.int .i64 (n : Int)) ∧ ST E w'
  up : ∀ x y, x < y → y < n → ¬ lt y x
  mLess : ∀ (k : Nat) (w : World), Sem.run Try.prog (method (k + 1) 91 rv "Less") w = .ok (166, rv) w
  mSwap : ∀ (k : Nat) (w : World), Sem.run Try.prog (method (k + 1) 91 rv "Swap") w = .ok (167, rv) w
  mLen : ∀ (k : Nat) (w : World), Sem.run Try.prog (method (k + 1) 91 rv "Len") w = .ok (165, rv) w

section
variable {rv : Value} {n : Nat} {lt : Nat → Nat → Prop} {ST : (Nat → Nat) → World → Prop}
/-- Less answers by rank, the later place asked first -/
theorem SortData.asks (D : SortData rv n lt ST) {E : Nat → Nat} (hI : Inv lt n E) {i j : Nat} (hij : i < j) (hj : j < n) : tf (lt (E j) (E i)) = decide (E j < E i) := by
  have hne := (hI.2 i j hij hj).1
  have hl := (hI.2 i j hij hj).2
  by_cases h : E j < E i
  · rw [decide_eq_true h]; exact (tf_yes (hl h)).symm
  · rw [decide_eq_false h]; exact (tf_no (D.up _ _ (by omega) (hI.1 j hj))).symm
theorem SortData.lessIs (D : SortData rv n lt ST) {E : Nat → Nat} (hI : Inv lt n E) {w : World} (hS : ST E w) {i j : Nat} (hij : i < j) (hj : j < n) {x y : Int} (ex : x = (j : Int)) (ey : y = (i : Int)) :
    Calls Try.prog 166 #[rv, .int .i64 x, .int .i64 y] w fun e w' => e = .returned (.bool (decide (E j < E i))) ∧ ST E w' := by
  subst ex ey
  exact as_bool (R := fun w' => ST E w') (D.asks hI hij hj) (D.less E w j i hS hj (by omega))
theorem SortData.swapIs (D : SortData rv n lt ST) {E : Nat → Nat} {w : World} (hS : ST E w) {i j : Nat} (hi : i < n) (hj : j < n) {x y : Int} (ex : x = (i : Int)) (ey : y = (j : Int)) (hne : ¬ i = j := by omega) :
    Calls Try.prog 167 #[rv, .int .i64 x, .int .i64 y] w fun e w' => e = .returned (.tuple #[]) ∧ ST (swp E i j) w' := by
  subst ex ey
  exact D.swap E w i j hS hi hj hne

set_option maxRecDepth 100000 in
set_option maxHeartbeats 400000 in
theorem swapRange_any (D : SortData rv n lt ST) (E : Nat → Nat) (a b m : Nat) (x y z : Int) (w : World) (hS : ST E w) (h1 : a + m ≤ b) (h2 : b + m ≤ n) (ex : x = (a : Int)) (ey : y = (b : Int)) (ez : z = (m : Int)) :
    Calls Try.prog 139 #[.iface 91 rv, .int .i64 x, .int .i64 y, .int .i64 z] w fun e w' => e = .returned (.tuple #[]) ∧ ST (swr E a b m) w' := by
  subst ex ey ez
  have hm := D.mSwap
  have hsm := D.small
  have HS := Lib.hid hS
  have HD := Lib.hid D
  clear D hS
  go_enter Try.func139, Try.ntmps139
  go_wp2
  go_loopw [8] (fun v wr => ∃ i : Nat, i ≤ m ∧ v = .int .i64 i ∧ Hid (ST (swr E a b i) wr)) (fun v _ => m - (intOf v).toNat)
  case atStart => exact ⟨0, Nat.zero_le _, rfl, Lib.hid (by rw [swr_zero]; exact HS.out)⟩
  case round =>
    obtain ⟨i, hi, rfl, hst⟩ := hrel
    by_cases hlt : i < m
    · go_wp2_with fail
      refine (HD.out.swapIs hst.out (i := a + i) (j := b + i) (by omega) (by omega) (by omega) (by omega)).mono ?_
      rintro e w1 ⟨rfl, hs1⟩
      rw [swr_succ (by omega)] at hs1
      have HS1 := Lib.hid hs1
      clear hs1 hst
      go_wp2
      go_roundw
      case rel => exact ⟨i + 1, by omega, by go_num, HS1⟩
      case measure => simp [intOf]; omega
    · obtain rfl : i = m := by omega
      go_wp2
      go_end0
      exact ⟨rfl, hst.out⟩

set_option maxRecDepth 100000 in
set_option maxHeartbeats 1000000 in
theorem rotate_any (D : SortData rv n lt ST) (E : Nat → Nat) (a m b : Nat) (x y z : Int) (w : World) (hS : ST E w) (h1 : a < m) (h2 : m < b) (h3 : b ≤ n) (ex : x = (a : Int)) (ey : y = (m : Int)) (ez : z = (b : Int)) :
    Calls Try.prog 131 #[.iface 91 rv, .int .i64 x, .int .i64 y, .int .i64 z] w fun e w' => e = .returned (.tuple #[]) ∧ ST (rot E a m b) w' := by
  subst ex ey ez
  have hsm := D.small
  have HS := Lib.hid hS
  have HD := Lib.hid D
  clear D hS
  go_enter Try.func131, Try.ntmps131
  go_wp2
  go_loopw [8, 9] (fun v u wr => ∃ (F : Nat → Nat) (i j : Nat), 0 < i ∧ 0 < j ∧ i ≤ m - a ∧ j ≤ b - m ∧ v = .int .i64 i ∧ u = .int .i64 j ∧ Hid (ST F wr ∧ rot F (m - i) m (m + j) = rot E a m b)) (fun v u _ => (intOf v).toNat + (intOf u).toNat)
  case atStart => exact ⟨E, m - a, b - m, by omega, by omega, Nat.le_refl _, Nat.le_refl _, by go_num, by go_num, Lib.hid ⟨HS.out, by rw [show m - (m - a) = a by omega, show m + (b - m) = b by omega]⟩⟩
  case round =>
    obtain ⟨F, i, j, hi0, hj0, hi, hj, rfl, rfl, hst⟩ := hrel
    have hmi : a ≤ m - i ∧ m - i < m := by omega
    by_cases hij : i = j
    · subst hij
      have t0 : ((i : Int) != (i : Int)) = false := by simp
      go_wp2_with fail
      refine (swapRange_any HD.out F (m - i) m i _ _ _ wr hst.out.1 (by omega) (by omega) (by omega) rfl rfl).mono ?_
      rintro e w1 ⟨rfl, hs1⟩
      rw [swr_same (by omega), hst.out.2] at hs1
      go_wp2
      go_end0
      exact ⟨rfl, hs1⟩
    · have t0 : ((i : Int) != (j : Int)) = true := by simp; omega
      by_cases hlt : j < i
      · go_wp2_with fail
        refine (swapRange_any HD.out F (m - i) m j _ _ _ wr hst.out.1 (by omega) (by omega) (by omega) rfl rfl).mono ?_
        rintro e w1 ⟨rfl, hs1⟩
        have HS1 := Lib.hid (And.intro hs1 ((rot_more (E := F) (m := m) (i := i) (j := j) (by omega) hlt).trans hst.out.2))
        clear hs1 hst
        go_wp2
        go_roundw
        case rel => exact ⟨_, i - j, j, by omega, hj0, by omega, hj, by go_num, rfl, HS1⟩
        case measure => simp [intOf]; omega
      · have hlt' : i < j := by omega
        go_wp2_with fail
        refine (swapRange_any HD.out F (m - i) (m + j - i) i _ _ _ wr hst.out.1 (by omega) (by omega) (by omega) (by omega) rfl).mono ?_
        rintro e w1 ⟨rfl, hs1⟩
        have HS1 := Lib.hid (And.intro hs1 ((rot_less (E := F) (m := m) (i := i) (j := j) (by omega) hlt').trans hst.out.2))
        clear hs1 hst
        go_wp2
        go_roundw
        case rel => exact ⟨_, i, j - i, hi0, by omega, hi, by omega, rfl, by go_num, HS1⟩
        case measure => simp [intOf]; omega
end
end Go.Proofs.Ytlmlckgnmkjkdaa

/-
  sort.Stable over any data: insertionSort.
-/
namespace Go.Proofs.Ytlmlckgnmkjkdaa
open Go.RowKit

section
variable {rv : Value} {n : Nat} {lt : Nat → Nat → Prop} {ST : (Nat → Nat) → World → Prop}
/-- in order from a to b, only that part having moved -/
structure Sorted (lt : Nat → Nat → Prop) (n a b : Nat) (E F : Nat → Nat) : Prop where
  inv : Inv lt n F
  mv : Mv a b E F
  up : Up a b F
theorem Up.sub {a b c d : Nat} {E : Nat → Nat} (h : Up a b E) (h1 : a ≤ c) (h2 : d ≤ b) : Up c d E := fun i j hi hij hj => h i j (by omega) hij (by omega)

set_option maxRecDepth 100000 in
set_option maxHeartbeats 1000000 in
theorem insertion_any (D : SortData rv n lt ST) (E : Nat → Nat) (a b : Nat) (x y : Int) (w : World) (hS : ST E w) (hI : Inv lt n E) (h1 : a ≤ n) (h2 : b ≤ n) (ex : x = (a : Int)) (ey : y = (b : Int)) :
    Calls Try.prog 115 #[.iface 91 rv, .int .i64 x, .int .i64 y] w fun e w' => e = .returned (.tuple #[]) ∧ ∃ F, ST F w' ∧ Sorted lt n a b E F := by
  subst ex ey
  have hm := D.mSwap
  have hl := D.mLess
  have hsm := D.small
  have HS := Lib.hid (And.intro hS hI)
  have HD := Lib.hid D
  clear D hS hI
  go_enter Try.func115, Try.ntmps115
  go_wp2
  go_loopw [6] (fun v wr => ∃ (i : Nat) (F : Nat → Nat), a < i ∧ (i ≤ b ∨ i = a + 1) ∧ v = .int .i64 i ∧ Hid (ST F wr ∧ Inv lt n F ∧ Mv a b E F ∧ Up a i F)) (fun v _ => b + 1 - (intOf v).toNat)
  case atStart => exact ⟨a + 1, E, by omega, .inr rfl, by go_num, Lib.hid ⟨HS.out.1, HS.out.2, Mv.refl _ _ _, Up.nil (by omega)⟩⟩
  case round =>
    obtain ⟨i, F, hai, hib, rfl, HF⟩ := hrel
    by_cases hlt : i < b
    · have hin : i < n := by omega
      clear hib
      go_wp2
      go_loopw [7] (fun v wr2 => ∃ (j : Nat) (G : Nat → Nat), a ≤ j ∧ j ≤ i ∧ v = .int .i64 j ∧ Hid (ST G wr2 ∧ Inv lt n G ∧ Mv a b E G ∧ Ins a i j G)) (fun v _ => (intOf v).toNat)
      case atStart => exact ⟨i, F, by omega, Nat.le_refl _, rfl, Lib.hid ⟨HF.out.1, HF.out.2.1, HF.out.2.2.1, Ins.start HF.out.2.2.2 (by omega)⟩⟩
      case round =>
        obtain ⟨j, G, haj, hji, rfl, HG⟩ := hrel
        clear HF
        by_cases hja : a < j
        · obtain ⟨k, rfl⟩ : ∃ k, j = k + 1 := ⟨j - 1, by omega⟩
          go_wp2_with fail
          refine (HD.out.lessIs HG.out.2.1 HG.out.1 (i := k) (j := k + 1) (by omega) (by omega) (by omega) (by omega)).mono ?_
          rintro e w1 ⟨rfl, hs1⟩
          by_cases hlk : G (k + 1) < G k
          · rw [decide_eq_true hlk]
            go_wp2_with fail
            refine (HD.out.swapIs hs1 (i := k + 1) (j := k) (by omega) (by omega) (by omega) (by omega)).mono ?_
            rintro e w2 ⟨rfl, hs2⟩
            have HG2 := Lib.hid (show ST (swp G (k + 1) k) w2 ∧ Inv lt n (swp G (k + 1) k) ∧ Mv a b E (swp G (k + 1) k) ∧ Ins a i k (swp G (k + 1) k) from
              ⟨hs2, HG.out.2.1.swp (by omega) hlk, HG.out.2.2.1.trans (Mv.swp ⟨by omega, by omega⟩ ⟨by omega, by omega⟩), HG.out.2.2.2.step (by omega) hlk⟩)
            clear hs1 hs2 HG hlk
            go_wp2
            go_roundw
            case rel => exact ⟨k, _, by omega, by omega, by go_num, HG2⟩
            case measure => simp [intOf]
          · rw [decide_eq_false hlk]
            have HF2 := Lib.hid (show ST G w1 ∧ Inv lt n G ∧ Mv a b E G ∧ Up a (i + 1) G from ⟨hs1, HG.out.2.1, HG.out.2.2.1, HG.out.2.2.2.stop (.inr (by have := (HG.out.2.1.2 k (k + 1) (by omega) (by omega)).1; simp only [Nat.add_sub_cancel]; omega))⟩)
            clear hs1 HG hlk
            go_wp2
            go_roundw
            case rel => exact ⟨i + 1, _, by omega, .inl (by omega), by go_num, HF2⟩
            case measure => simp [intOf]; omega
        · obtain rfl : a = j := by omega
          have HF2 := Lib.hid (show ST G _ ∧ Inv lt n G ∧ Mv a b E G ∧ Up a (i + 1) G from ⟨HG.out.1, HG.out.2.1, HG.out.2.2.1, HG.out.2.2.2.stop (.inl rfl)⟩)
          clear HG
          go_wp2
          go_roundw
          case rel => exact ⟨i + 1, _, by omega, .inl (by omega), by go_num, HF2⟩
          case measure => simp [intOf]; omega
    · go_wp2
      go_end0
      exact ⟨rfl, F, HF.out.1, HF.out.2.1, HF.out.2.2.1, HF.out.2.2.2.sub (Nat.le_refl _) (by omega)⟩
end
end Go.Proofs.Ytlmlckgnmkjkdaa

/-
  sort.Stable over any data: symMerge where one part is a single place.
-/
namespace Go.Proofs.Ytlmlckgnmkjkdaa
open Go.RowKit

section
variable {rv : Value} {n : Nat} {lt : Nat → Nat → Prop} {ST : (Nat → Nat) → World → Prop}
set_option maxRecDepth 100000 in
set_option maxHeartbeats 1000000 in
theorem symMerge_left (D : SortData rv n lt ST) (E : Nat → Nat) (a b : Nat) (x y z : Int) (w : World) (hS : ST E w) (hI : Inv lt n E) (h1 : a + 1 < b) (h2 : b ≤ n) (hu : Up (a + 1) b E) (ex : x = (a : Int)) (ey : y = (a : Int) + 1) (ez : z = (b : Int)) :
    Calls Try.prog 116 #[.iface 91 rv, .int .i64 x, .int .i64 y, .int .i64 z] w fun e w' => e = .returned (.tuple #[]) ∧ ∃ F, ST F w' ∧ Sorted lt n a b E F := by
  subst ex ey ez
  have hm := D.mSwap
  have hl := D.mLess
  have hsm := D.small
  have HS := Lib.hid (And.intro hS (And.intro hI hu))
  have HD := Lib.hid D
  have t0 : ((((a : Int) + 1) - (a : Int)) == 1) = true := by simp; omega
  clear D hS hI hu
  go_enter Try.func116, Try.ntmps116
  go_wp2
  go_loopw [8, 9] (fun v u wr => ∃ (i j : Nat), a + 1 ≤ i ∧ i ≤ j ∧ j ≤ b ∧ v = .int .i64 i ∧ u = .int .i64 j ∧ Hid (ST E wr ∧ (∀ x, a + 1 ≤ x → x < i → E x < E a) ∧ (∀ x, j ≤ x → x < b → E a < E x))) (fun v u _ => (intOf u).toNat - (intOf v).toNat)
  case atStart => exact ⟨a + 1, b, Nat.le_refl _, by omega, Nat.le_refl _, by go_num, rfl, Lib.hid ⟨HS.out.1, fun x h h' => by omega, fun x h h' => by omega⟩⟩
  case round =>
    obtain ⟨i, j, hi, hij, hj, rfl, rfl, HL⟩ := hrel
    by_cases hlt : i < j
    · obtain ⟨h, hh⟩ : ∃ h, (i + j) / 2 = h := ⟨_, rfl⟩
      have hhi : i ≤ h ∧ h < j := by omega
      have hhc : (((i : Int) + (j : Int)) / 2) = (h : Int) := by omega
      go_wp2_with fail
      refine (HD.out.lessIs HS.out.2.1 HL.out.1 (i := a) (j := h) (by omega) (by omega) rfl rfl).mono ?_
      rintro e w1 ⟨rfl, hs1⟩
      by_cases hc : E h < E a
      · rw [decide_eq_true hc]
        have HL2 := Lib.hid (show ST E w1 ∧ (∀ x, a + 1 ≤ x → x < h + 1 → E x < E a) ∧ (∀ x, j ≤ x → x < b → E a < E x) from ⟨hs1, fun x q1 q2 => by
          by_cases q3 : x = h
          · rw [q3]; exact hc
          · exact Nat.lt_trans (HS.out.2.2 x h q1 (by omega) (by omega)) hc, HL.out.2.2⟩)
        clear hs1 HL hc
        go_wp2
        go_roundw
        case rel => exact ⟨h + 1, j, by omega, by omega, hj, by go_num, rfl, HL2⟩
        case measure => simp [intOf]; omega
      · rw [decide_eq_false hc]
        have HL2 := Lib.hid (show ST E w1 ∧ (∀ x, a + 1 ≤ x → x < i → E x < E a) ∧ (∀ x, h ≤ x → x < b → E a < E x) from ⟨hs1, HL.out.2.1, fun x q1 q2 => by
          have hah : E a < E h := by have := (HS.out.2.1.2 a h (by omega) (by omega)).1; omega
          by_cases q3 : x = h
          · rw [q3]; exact hah
          · exact Nat.lt_trans hah (HS.out.2.2 h x (by omega) (by omega) q2)⟩)
        clear hs1 HL hc
        go_wp2
        go_roundw
        case rel => exact ⟨i, h, hi, by omega, by omega, rfl, by go_num, HL2⟩
        case measure => simp [intOf]; omega
    · obtain rfl : i = j := by omega
      have HF := Lib.hid (show Sorted lt n a b E (rot E a (a + 1) i) from
        ⟨HS.out.2.1.rot (by omega) hi (by omega) (fun p q g1 g2 g3 g4 => by
          have ep : p = a := by omega
          rw [ep]; exact HL.out.2.1 q g3 g4), (Mv.rot (by omega) hi).mono (Nat.le_refl _) hj, merge_one_left hi hj HS.out.2.2 HL.out.2.1 HL.out.2.2⟩)
      have HW := Lib.hid HL.out.1
      clear HL
      go_wp2
      go_loopw [11] (fun v wr => ∃ k : Nat, a ≤ k ∧ k + 1 ≤ i ∧ v = .int .i64 k ∧ Hid (ST (rot E a (a + 1) (k + 1)) wr)) (fun v _ => i - (intOf v).toNat)
      case atStart => exact ⟨a, Nat.le_refl _, hi, rfl, Lib.hid (by rw [rot_none (.inr rfl) (by omega) (Nat.le_refl _)]; exact HW.out)⟩
      case round =>
        obtain ⟨k, hak, hki, rfl, HK⟩ := hrel
        clear HW
        by_cases hlk : k + 1 < i
        · go_wp2_with fail
          refine (HD.out.swapIs HK.out (i := k) (j := k + 1) (by omega) (by omega) rfl (by omega)).mono ?_
          rintro e w1 ⟨rfl, hs1⟩
          rw [rot_up hak] at hs1
          have HK2 := Lib.hid hs1
          clear hs1 HK
          go_wp2
          go_roundw
          case rel => exact ⟨k + 1, by omega, by omega, by go_num, HK2⟩
          case measure => simp [intOf]; omega
        · obtain rfl : k + 1 = i := by omega
          go_wp2
          (try simp only [Exit.inBlock, Exit.then])
          refine bodyPost_ret (results_none rfl _ _ _) rfl ?_
          exact ⟨rfl, _, HK.out, HF.out⟩

set_option maxRecDepth 100000 in
set_option maxHeartbeats 1000000 in
theorem symMerge_right (D : SortData rv n lt ST) (E : Nat → Nat) (a m : Nat) (x y z : Int) (w : World) (hS : ST E w) (hI : Inv lt n E) (h1 : a + 1 < m) (h2 : m + 1 ≤ n) (hu : Up a m E) (ex : x = (a : Int)) (ey : y = (m : Int)) (ez : z = (m : Int) + 1) :
    Calls Try.prog 116 #[.iface 91 rv, .int .i64 x, .int .i64 y, .int .i64 z] w fun e w' => e = .returned (.tuple #[]) ∧ ∃ F, ST F w' ∧ Sorted lt n a (m + 1) E F := by
  subst ex ey ez
  have hm := D.mSwap
  have hl := D.mLess
  have hsm := D.small
  have HS := Lib.hid (And.intro hS (And.intro hI hu))
  have HD := Lib.hid D
  have t0 : (((m : Int) - (a : Int)) == 1) = false := by simp; omega
  have t1 : ((((m : Int) + 1) - (m : Int)) == 1) = true := by simp; omega
  clear D hS hI hu
  go_enter Try.func116, Try.ntmps116
  go_wp2
  go_loopw [12, 13] (fun v u wr => ∃ (i j : Nat), a ≤ i ∧ i ≤ j ∧ j ≤ m ∧ v = .int .i64 i ∧ u = .int .i64 j ∧ Hid (ST E wr ∧ (∀ x, a ≤ x → x < i → E x < E m) ∧ (∀ x, j ≤ x → x < m → E m < E x))) (fun v u _ => (intOf u).toNat - (intOf v).toNat)
  case atStart => exact ⟨a, m, Nat.le_refl _, by omega, Nat.le_refl _, rfl, rfl, Lib.hid ⟨HS.out.1, fun x h h' => by omega, fun x h h' => by omega⟩⟩
  case round =>
    obtain ⟨i, j, hi, hij, hj, rfl, rfl, HL⟩ := hrel
    by_cases hlt : i < j
    · obtain ⟨h, hh⟩ : ∃ h, (i + j) / 2 = h := ⟨_, rfl⟩
      have hhi : i ≤ h ∧ h < j := by omega
      have hhc : (((i : Int) + (j : Int)) / 2) = (h : Int) := by omega
      go_wp2_with fail
      refine (HD.out.lessIs HS.out.2.1 HL.out.1 (i := h) (j := m) (by omega) (by omega) rfl rfl).mono ?_
      rintro e w1 ⟨rfl, hs1⟩
      by_cases hc : E m < E h
      · rw [decide_eq_true hc]
        have HL2 := Lib.hid (show ST E w1 ∧ (∀ x, a ≤ x → x < i → E x < E m) ∧ (∀ x, h ≤ x → x < m → E m < E x) from ⟨hs1, HL.out.2.1, fun x q1 q2 => by
          by_cases q3 : x = h
          · rw [q3]; exact hc
          · exact Nat.lt_trans hc (HS.out.2.2 h x (by omega) (by omega) q2)⟩)
        clear hs1 HL hc
        go_wp2
        go_roundw
        case rel => exact ⟨i, h, hi, by omega, by omega, rfl, by go_num, HL2⟩
        case measure => simp [intOf]; omega
      · rw [decide_eq_false hc]
        have HL2 := Lib.hid (show ST E w1 ∧ (∀ x, a ≤ x → x < h + 1 → E x < E m) ∧ (∀ x, j ≤ x → x < m → E m < E x) from ⟨hs1, fun x q1 q2 => by
          have hah : E h < E m := by have := (HS.out.2.1.2 h m (by omega) (by omega)).1; omega
          by_cases q3 : x = h
          · rw [q3]; exact hah
          · exact Nat.lt_trans (HS.out.2.2 x h q1 (by omega) (by omega)) hah, HL.out.2.2⟩)
        clear hs1 HL hc
        go_wp2
        go_roundw
        case rel => exact ⟨h + 1, j, by omega, by omega, hj, by go_num, rfl, HL2⟩
        case measure => simp [intOf]; omega
    · obtain rfl : i = j := by omega
      have HF := Lib.hid (show Sorted lt n a (m + 1) E (rot E i m (m + 1)) from
        ⟨HS.out.2.1.rot hj (by omega) (by omega) (fun p q g1 g2 g3 g4 => by
          have eq : q = m := by omega
          rw [eq]; exact HL.out.2.2 p g1 g2), (Mv.rot hj (by omega)).mono hi (Nat.le_refl _), merge_one_right hi hj HS.out.2.2 HL.out.2.1 HL.out.2.2⟩)
      have HW := Lib.hid HL.out.1
      clear HL
      go_wp2
      go_loopw [15] (fun v wr => ∃ k : Nat, i ≤ k ∧ k ≤ m ∧ v = .int .i64 k ∧ Hid (ST (rot E k m (m + 1)) wr)) (fun v _ => (intOf v).toNat)
      case atStart => exact ⟨m, hj, Nat.le_refl _, rfl, Lib.hid (by rw [rot_none (.inl rfl) (Nat.le_refl _) (by omega)]; exact HW.out)⟩
      case round =>
        obtain ⟨k, hik, hkm, rfl, HK⟩ := hrel
        clear HW
        by_cases hlk : i < k
        · obtain ⟨c, rfl⟩ : ∃ c, k = c + 1 := ⟨k - 1, by omega⟩
          go_wp2_with fail
          refine (HD.out.swapIs HK.out (i := c + 1) (j := c) (by omega) (by omega) (by omega) (by omega)).mono ?_
          rintro e w1 ⟨rfl, hs1⟩
          rw [rot_down (by omega)] at hs1
          have HK2 := Lib.hid hs1
          clear hs1 HK
          go_wp2
          go_roundw
          case rel => exact ⟨c, by omega, by omega, by go_num, HK2⟩
          case measure => simp [intOf]
        · obtain rfl : k = i := by omega
          go_wp2
          (try simp only [Exit.inBlock, Exit.then])
          refine bodyPost_ret (results_none rfl _ _ _) rfl ?_
          exact ⟨rfl, _, HK.out, HF.out⟩
end
end Go.Proofs.Ytlmlckgnmkjkdaa

/-
  sort.Stable over any data: symMerge.
-/
namespace Go.Proofs.Ytlmlckgnmkjkdaa
open Go.RowKit

section
variable {rv : Value} {n : Nat} {lt : Nat → Nat → Prop} {ST : (Nat → Nat) → World → Prop}
def SymMerges (rv : Value) (n : Nat) (lt : Nat → Nat → Prop) (ST : (Nat → Nat) → World → Prop) (d : Nat) : Prop :=
  ∀ (E : Nat → Nat) (a m b : Nat) (x y z : Int) (w : World), b - a ≤ d → ST E w → Inv lt n E → a < m → m < b → b ≤ n → Up a m E → Up m b E → x = (a : Int) → y = (m : Int) → z = (b : Int) →
    Calls Try.prog 116 #[.iface 91 rv, .int .i64 x, .int .i64 y, .int .i64 z] w fun e w' => e = .returned (.tuple #[]) ∧ ∃ F, ST F w' ∧ Sorted lt n a b E F

set_option maxRecDepth 100000 in
set_option maxHeartbeats 4000000 in
theorem symMerge_step (D : SortData rv n lt ST) {d : Nat} (ih : SymMerges rv n lt ST d) : SymMerges rv n lt ST (d + 1) := by
  intro E a m b x y z w hd hS hI h1 h2 h3 hu1 hu2 ex ey ez
  by_cases c1 : m = a + 1
  · subst c1
    exact symMerge_left D E a b x y z w hS hI h2 h3 hu2 ex (by omega) ez
  by_cases c2 : b = m + 1
  · subst c2
    exact symMerge_right D E a m x y z w hS hI (by omega) h3 hu1 ex ey (by omega)
  subst ex ey ez
  have hm := D.mSwap
  have hl := D.mLess
  have hsm := D.small
  have HS := Lib.hid (And.intro hS (And.intro hI (And.intro hu1 hu2)))
  have HD := Lib.hid D
  have HIH := Lib.hid ih
  have HDD := Lib.hid hd
  have t0 : (((m : Int) - (a : Int)) == 1) = false := by simp; omega
  have t1 : (((b : Int) - (m : Int)) == 1) = false := by simp; omega
  obtain ⟨mid, HM⟩ : ∃ mid, Hid ((a + b) / 2 = mid) := ⟨_, Lib.hid rfl⟩
  have hmid : (((a : Int) + (b : Int)) / 2) = (mid : Int) := by have := HM.out; omega
  have hm1 : a + 2 ≤ mid ∧ mid + 2 ≤ b := by have := HM.out; omega
  have hm2 : 2 * mid ≤ a + b ∧ a + b ≤ 2 * mid + 1 := by have := HM.out; omega
  clear D hS hI hu1 hu2 ih hd HM
  go_enter Try.func116, Try.ntmps116
  go_upto_if 102 with (fail)
  go_cut [18, 19] (fun u v wx => ∃ s0 r0 : Nat, u = .int .i64 (s0 : Int) ∧ v = .int .i64 (r0 : Int) ∧ ((mid < m ∧ s0 + b = mid + m ∧ r0 = mid) ∨ (m ≤ mid ∧ s0 = a ∧ r0 = m)) ∧ wx = w)
  case first =>
    by_cases hc : mid < m
    · go_wp2_with fail
      go_meet
      case rel => exact ⟨mid + m - b, mid, by go_num, rfl, .inl ⟨hc, by omega, rfl⟩, rfl⟩
    · go_wp2_with fail
      go_meet
      case rel => exact ⟨a, m, rfl, rfl, .inr ⟨by omega, rfl, rfl⟩, rfl⟩
  case rest =>
    obtain ⟨s0, r0, rfl, rfl, h0, rfl⟩ := hcut
    have hs0 : a ≤ s0 ∧ s0 ≤ r0 ∧ r0 ≤ m ∧ r0 ≤ mid ∧ mid + m < b + r0 + b := by omega
    have hp : mid + m ≤ b + s0 := by omega
    go_wp2
    go_loopw [18, 19] (fun u v wr => ∃ (s r : Nat), s0 ≤ s ∧ s ≤ r ∧ r ≤ r0 ∧ u = .int .i64 (s : Int) ∧ v = .int .i64 (r : Int) ∧ Hid (ST E wr ∧ (s = s0 ∨ E (s - 1) < E (mid + m - s)) ∧ (r = r0 ∨ E (mid + m - 1 - r) < E r))) (fun u v _ => (intOf v).toNat - (intOf u).toNat)
    case atStart => exact ⟨s0, r0, Nat.le_refl _, by omega, Nat.le_refl _, rfl, rfl, Lib.hid ⟨HS.out.1, .inl rfl, .inl rfl⟩⟩
    case round =>
      obtain ⟨s, r, hs, hsr, hr, rfl, rfl, HL⟩ := hrel
      by_cases hlt : s < r
      · obtain ⟨h, hh⟩ : ∃ h, (s + r) / 2 = h := ⟨_, rfl⟩
        have hhi : s ≤ h ∧ h < r := by omega
        have hhc : (((s : Int) + (r : Int)) / 2) = (h : Int) := by omega
        go_wp2_with fail
        refine (HD.out.lessIs HS.out.2.1 HL.out.1 (i := h) (j := mid + m - 1 - h) (by omega) (by omega) (by omega) rfl).mono ?_
        rintro e w1 ⟨rfl, hs1⟩
        by_cases hc : E (mid + m - 1 - h) < E h
        · rw [decide_eq_true hc]
          have HL2 := Lib.hid (show ST E w1 ∧ (s = s0 ∨ E (s - 1) < E (mid + m - s)) ∧ (h = r0 ∨ E (mid + m - 1 - h) < E h) from ⟨hs1, HL.out.2.1, .inr hc⟩)
          clear hs1 HL hc
          go_wp2
          go_roundw
          case rel => exact ⟨s, h, hs, by omega, by omega, rfl, rfl, HL2⟩
          case measure => simp [intOf]; omega
        · rw [decide_eq_false hc]
          have HL2 := Lib.hid (show ST E w1 ∧ (h + 1 = s0 ∨ E (h + 1 - 1) < E (mid + m - (h + 1))) ∧ (r = r0 ∨ E (mid + m - 1 - r) < E r) from ⟨hs1, .inr (by
            have := (HS.out.2.1.2 h (mid + m - 1 - h) (by omega) (by omega)).1
            rw [show mid + m - (h + 1) = mid + m - 1 - h by omega, Nat.add_sub_cancel]; omega), HL.out.2.2⟩)
          clear hs1 HL hc
          go_wp2
          go_roundw
          case rel => exact ⟨h + 1, r, by omega, by omega, hr, by go_num, rfl, HL2⟩
          case measure => simp [intOf]; omega
      · obtain rfl : s = r := by omega
        obtain ⟨e, he⟩ : ∃ e, mid + m - s = e := ⟨_, rfl⟩
        have hee : (mid : Int) + (m : Int) - (s : Int) = (e : Int) := by omega
        have hse : s ≤ m ∧ m ≤ e ∧ e ≤ b ∧ s ≤ mid ∧ s + (e - m) = mid := by omega
        have hx : a < s → e < b → E (s - 1) < E e := fun q1 q2 => by
          rcases HL.out.2.1 with q | q
          · omega
          · rw [← he]; exact q
        have hy : s < m → m < e → E (e - 1) < E s := fun q1 q2 => by
          rcases HL.out.2.2 with q | q
          · omega
          · rw [show e - 1 = mid + m - 1 - s by omega]; exact q
        have hlow := rot_lower (by omega) hse.1 hse.2.1 hse.2.2.1 HS.out.2.2.1 HS.out.2.2.2 hx hy
        rw [hse.2.2.2.2] at hlow
        have hal : ∀ p q, s ≤ p → p < m → m ≤ q → q < e → E q < E p := fun p q q1 q2 q3 q4 => by
          have k1 := hy (by omega) (by omega)
          have k2 : E q ≤ E (e - 1) := by
            by_cases g : q = e - 1
            · rw [g]; exact Nat.le_refl _
            · exact Nat.le_of_lt (HS.out.2.2.2 q (e - 1) q3 (by omega) (by omega))
          have k3 : E s ≤ E p := by
            by_cases g : s = p
            · rw [g]; exact Nat.le_refl _
            · exact Nat.le_of_lt (HS.out.2.2.1 s p (by omega) (by omega) q2)
          omega
        have hl2 := rot_up_left hse.1 hse.2.1 hse.2.2.1 HS.out.2.2.1 HS.out.2.2.2
        have hr2 := rot_up_right (a := a) (by omega) hse.1 hse.2.1 HS.out.2.2.1 HS.out.2.2.2
        rw [hse.2.2.2.2] at hl2 hr2
        have HR := Lib.hid (show Inv lt n (rot E s m e) ∧ Mv a b E (rot E s m e) ∧ (Up a s (rot E s m e) ∧ Up s mid (rot E s m e)) ∧ (Up mid e (rot E s m e) ∧ Up e b (rot E s m e)) ∧ (∀ i j, a ≤ i → i < mid → mid ≤ j → j < b → rot E s m e i < rot E s m e j) from
          ⟨HS.out.2.1.rot hse.1 hse.2.1 (by omega) hal, (Mv.rot hse.1 hse.2.1).mono (by omega) hse.2.2.1, hl2, hr2, hlow⟩)
        have HW := Lib.hid HL.out.1
        clear HL hx hy hlow hal hl2 hr2 HS
        obtain ⟨F, HF⟩ : ∃ F, Hid (rot E s m e = F) := ⟨_, Lib.hid rfl⟩
        rw [HF.out] at HR
        have has : a ≤ s := by omega
        have hor : (s = a ∨ s = mid ∨ a < s ∧ s < mid) ∧ (e = mid ∨ e = b ∨ mid < e ∧ e < b) ∧ mid ≤ e := by omega
        clear hs0 hp h0 hs hsr hr he
        obtain ⟨B1, hB1⟩ : ∃ B1, decide (s < m ∧ m < e) = B1 := ⟨_, rfl⟩
        have HB1 := Lib.hid hB1
        clear hB1
        go_upto_region 39 with (fail)
        go_cut [22, 140] (fun u v wx => u = .int .i64 (e : Int) ∧ v = .bool B1 ∧ wx = wr)
        case first =>
          by_cases hsm' : s < m
          · by_cases hme : m < e
            · have hb : B1 = true := by rw [← HB1.out]; exact decide_eq_true ⟨hsm', hme⟩
              go_wp2_with fail
              go_meet
              case rel => exact ⟨by go_num, by first | rfl | rw [hb] | simp [hb], rfl⟩
            · have hb : B1 = false := by rw [← HB1.out]; exact decide_eq_false (fun h => hme h.2)
              go_wp2_with fail
              go_meet
              case rel => exact ⟨by go_num, by first | rfl | rw [hb] | simp [hb], rfl⟩
          · have hb : B1 = false := by rw [← HB1.out]; exact decide_eq_false (fun h => hsm' h.1)
            go_wp2_with fail
            go_meet
            case rel => exact ⟨by go_num, by first | rfl | rw [hb] | simp [hb], rfl⟩
        case rest =>
        obtain ⟨rfl, rfl, rfl⟩ := hcut
        go_upto_if 140 with (fail)
        go_cut [22] (fun u wx => u = .int .i64 (e : Int) ∧ Hid (ST F wx))
        case first =>
          by_cases hsm' : s < m
          · by_cases hme : m < e
            · obtain rfl : true = B1 := by rw [← HB1.out]; exact (decide_eq_true ⟨hsm', hme⟩).symm
              go_wp2_with fail
              refine (rotate_any HD.out E s m e _ _ _ _ HW.out hsm' hme (by omega) rfl rfl (by omega)).mono ?_
              rintro e' w1 ⟨rfl, hs1⟩
              rw [HF.out] at hs1
              go_wp2_with fail
              go_meet
              case rel => exact ⟨by go_num, Lib.hid hs1⟩
            · have hFE : F = E := by rw [← HF.out]; exact rot_none (.inr (by omega)) hse.1 hse.2.1
              obtain rfl : false = B1 := by rw [← HB1.out]; exact (decide_eq_false (fun h => hme h.2)).symm
              go_wp2_with fail
              go_meet
              case rel => exact ⟨by go_num, Lib.hid (by rw [hFE]; exact HW.out)⟩
          · have hFE : F = E := by rw [← HF.out]; exact rot_none (.inl (by omega)) hse.1 hse.2.1
            obtain rfl : false = B1 := by rw [← HB1.out]; exact (decide_eq_false (fun h => hsm' h.1)).symm
            go_wp2_with fail
            go_meet
            case rel => exact ⟨by go_num, Lib.hid (by rw [hFE]; exact HW.out)⟩
        case rest =>
          obtain ⟨rfl, HW2⟩ := hcut
          clear HW HF hee
          generalize wc = w2 at *
          obtain ⟨B2, hB2⟩ : ∃ B2, decide (a < s ∧ s < mid) = B2 := ⟨_, rfl⟩
          have HB2 := Lib.hid hB2
          clear hB2
          go_upto_region 41 with (fail)
          go_cut [22, 153] (fun u v wx => u = .int .i64 (e : Int) ∧ v = .bool B2 ∧ wx = w2)
          case first =>
            by_cases q1 : a < s
            · by_cases q2 : s < mid
              · have hb : B2 = true := by rw [← HB2.out]; exact decide_eq_true ⟨q1, q2⟩
                go_wp2_with fail
                go_meet
                case rel => exact ⟨rfl, by first | rfl | rw [hb] | simp [hb], rfl⟩
              · have hb : B2 = false := by rw [← HB2.out]; exact decide_eq_false (fun h => q2 h.2)
                go_wp2_with fail
                go_meet
                case rel => exact ⟨rfl, by first | rfl | rw [hb] | simp [hb], rfl⟩
            · have hb : B2 = false := by rw [← HB2.out]; exact decide_eq_false (fun h => q1 h.1)
              go_wp2_with fail
              go_meet
              case rel => exact ⟨rfl, by first | rfl | rw [hb] | simp [hb], rfl⟩
          case rest =>
          obtain ⟨rfl, rfl, rfl⟩ := hcut
          go_upto_if 153 with (fail)
          go_cut [22] (fun u wx => u = .int .i64 (e : Int) ∧ Hid (∃ G, ST G wx ∧ Sorted lt n a mid F G))
          case first =>
            by_cases q1 : a < s
            · by_cases q2 : s < mid
              · obtain rfl : true = B2 := by rw [← HB2.out]; exact (decide_eq_true ⟨q1, q2⟩).symm
                go_wp2_with fail
                refine (HIH.out F a s mid _ _ _ _ (by have := HDD.out; omega) HW2.out HR.out.1 q1 q2 (by omega) HR.out.2.2.1.1 HR.out.2.2.1.2 rfl rfl rfl).mono ?_
                rintro e' w3 ⟨rfl, hs1⟩
                go_wp2_with fail
                go_meet
                case rel => exact ⟨rfl, Lib.hid hs1⟩
              · have hU := HR.out.2.2.1.1
                rw [show s = mid by omega] at hU
                obtain rfl : false = B2 := by rw [← HB2.out]; exact (decide_eq_false (fun h => q2 h.2)).symm
                go_wp2_with fail
                go_meet
                case rel => exact ⟨rfl, Lib.hid ⟨F, HW2.out, HR.out.1, Mv.refl _ _ _, hU⟩⟩
            · have hU := HR.out.2.2.1.2
              rw [show s = a by omega] at hU
              obtain rfl : false = B2 := by rw [← HB2.out]; exact (decide_eq_false (fun h => q1 h.1)).symm
              go_wp2_with fail
              go_meet
              case rel => exact ⟨rfl, Lib.hid ⟨F, HW2.out, HR.out.1, Mv.refl _ _ _, hU⟩⟩
          case rest =>
            obtain ⟨rfl, HG⟩ := hcut
            obtain ⟨G, hG1, hG2⟩ := HG.out
            have HG' := Lib.hid (And.intro hG1 hG2)
            clear HG hG1 hG2 HW2
            generalize wc = w3 at *
            -- what lies behind mid is as it was
            have hkeep : ∀ k, mid ≤ k → G k = F k := fun k hk => HG'.out.2.mv.1 k (.inr hk)
            have hU1 : Up mid e G := HR.out.2.2.2.1.1.keep (fun k q1 _ => hkeep k q1)
            have hU2 : Up e b G := HR.out.2.2.2.1.2.keep (fun k q1 _ => hkeep k (by omega))
            have hfin : ∀ H, Sorted lt n mid b G H → Sorted lt n a b E H := fun H hH => by
              refine ⟨hH.inv, (HR.out.2.1.trans (HG'.out.2.mv.mono (Nat.le_refl _) (by omega))).trans (hH.mv.mono (by omega) (Nat.le_refl _)), up_join (m := mid) ?_ hH.up ?_⟩
              · exact HG'.out.2.up.keep fun k _ hk => hH.mv.1 k (.inl hk)
              · exact hH.mv.high (HG'.out.2.mv.low HR.out.2.2.2.2)
            have HFN := Lib.hid (And.intro hfin (And.intro hU1 hU2))
            clear hkeep hU1 hU2 hfin HR
            by_cases q1 : mid < e
            · by_cases q2 : e < b
              · go_wp2_with fail
                refine (HIH.out G mid e b _ _ _ _ (by have := HDD.out; omega) HG'.out.1 HG'.out.2.inv q1 q2 h3 HFN.out.2.1 HFN.out.2.2 rfl rfl rfl).mono ?_
                rintro e' w4 ⟨rfl, H, hs1, hs2⟩
                have HE := Lib.hid (And.intro hs1 (HFN.out.1 H hs2))
                clear hs1 hs2 HFN HG'
                go_wp2
                go_end0
                exact ⟨rfl, H, HE.out.1, HE.out.2⟩
              · have hU := HFN.out.2.1
                rw [show e = b by omega] at hU
                have HE := Lib.hid (And.intro HG'.out.1 (HFN.out.1 G ⟨HG'.out.2.inv, Mv.refl _ _ _, hU⟩))
                clear hU HFN HG'
                go_wp2
                go_end0
                exact ⟨rfl, G, HE.out.1, HE.out.2⟩
            · have hU := HFN.out.2.2
              rw [show e = mid by omega] at hU
              have HE := Lib.hid (And.intro HG'.out.1 (HFN.out.1 G ⟨HG'.out.2.inv, Mv.refl _ _ _, hU⟩))
              clear hU HFN HG'
              go_wp2
              go_end0
              exact ⟨rfl, G, HE.out.1, HE.out.2⟩

theorem symMerge_any (D : SortData rv n lt ST) : ∀ d, SymMerges rv n lt ST d
  | 0 => fun E a m b x y z w hd _ _ h1 h2 _ _ _ _ _ _ => by omega
  | d + 1 => symMerge_step D (symMerge_any D d)
end
end Go.Proofs.Ytlmlckgnmkjkdaa

/-
  sort.Stable over any data: the whole.
-/
namespace Go.Proofs.Ytlmlckgnmkjkdaa
open Go.RowKit

section
variable {rv : Value} {n : Nat} {lt : Nat → Nat → Prop} {ST : (Nat → Nat) → World → Prop}
theorem Done.add {c t a b : Nat} {E F : Nat → Nat} (h : Done c t E) (ha : a = t * c) (hb : b = a + c) (hs : Sorted lt n a b E F) : Done c (t + 1) F := by
  subst ha hb
  exact (h.keep fun k hk => hs.mv.1 k (.inl hk)).snoc hs.up

set_option maxRecDepth 100000 in
set_option maxHeartbeats 4000000 in
theorem stable_any (D : SortData rv n lt ST) (E : Nat → Nat) (x : Int) (w : World) (hS : ST E w) (hI : Inv lt n E) (ex : x = (n : Int)) :
    Calls Try.prog 93 #[.iface 91 rv, .int .i64 x] w fun e w' => e = .returned (.tuple #[]) ∧ ∃ F, ST F w' ∧ Inv lt n F ∧ Up 0 n F := by
  subst ex
  have hsm := D.small
  have HS := Lib.hid (And.intro hS hI)
  have HD := Lib.hid D
  clear D hS hI
  go_enter Try.func93, Try.ntmps93
  go_wp2
  go_loopw [5, 6] (fun u v wr => ∃ (t a : Nat) (F : Nat → Nat), a ≤ n ∧ u = .int .i64 (a : Int) ∧ v = .int .i64 ((a : Int) + 20) ∧ Hid (a = t * 20 ∧ ST F wr ∧ Inv lt n F ∧ Done 20 t F)) (fun u _ _ => n + 20 - (intOf u).toNat)
  case atStart => exact ⟨0, 0, E, Nat.zero_le _, rfl, by go_num, Lib.hid ⟨by omega, HS.out.1, HS.out.2, Done.zero⟩⟩
  case round =>
    obtain ⟨t, a, F, han, rfl, rfl, HF⟩ := hrel
    clear HS
    by_cases hlt : a + 20 ≤ n
    · go_wp2_with fail
      refine (insertion_any HD.out F a (a + 20) _ _ _ HF.out.2.1 HF.out.2.2.1 han hlt rfl (by omega)).mono ?_
      rintro e w1 ⟨rfl, G, hs1, hs2⟩
      have HG := Lib.hid (show a + 20 = (t + 1) * 20 ∧ ST G w1 ∧ Inv lt n G ∧ Done 20 (t + 1) G from
        ⟨by have := HF.out.1; omega, hs1, hs2.inv, HF.out.2.2.2.add HF.out.1 rfl hs2⟩)
      clear hs1 hs2 HF
      go_wp2
      go_roundw
      case rel => exact ⟨t + 1, a + 20, G, hlt, by go_num, by go_num, HG⟩
      case measure => simp [intOf]; omega
    · go_wp2_with fail
      refine (insertion_any HD.out F a n _ _ _ HF.out.2.1 HF.out.2.2.1 han (Nat.le_refl _) rfl rfl).mono ?_
      rintro e w1 ⟨rfl, G, hs1, hs2⟩
      have HG := Lib.hid (show ST G w1 ∧ Inv lt n G ∧ Blk 20 0 n G from ⟨hs1, hs2.inv, by
        have h1 := HF.out.1
        have h2 := hs2.up
        rw [h1] at h2
        exact (HF.out.2.2.2.keep fun k hk => hs2.mv.1 k (.inl (by omega))).blk h2 (by omega)⟩)
      clear hs1 hs2 HF
      go_wp2
      go_loopw [4] (fun u wr => ∃ (c : Nat) (F : Nat → Nat), 20 ≤ c ∧ (c = 20 ∨ c < 2 * n) ∧ u = .int .i64 (c : Int) ∧ Hid (ST F wr ∧ Inv lt n F ∧ Blk c 0 n F)) (fun u _ => n - (intOf u).toNat)
      case atStart => exact ⟨20, G, Nat.le_refl _, .inl rfl, rfl, HG⟩
      case round =>
        clear HG hlt han
        obtain ⟨c, F, hc20, hcn, rfl, HF⟩ := hrel
        by_cases hlt : c < n
        · clear hcn
          go_wp2
          go_loopw [5, 6] (fun u v wr => ∃ (t a : Nat) (F : Nat → Nat), a ≤ n ∧ u = .int .i64 (a : Int) ∧ v = .int .i64 ((a : Int) + 2 * (c : Int)) ∧ Hid (a = t * (2 * c) ∧ ST F wr ∧ Inv lt n F ∧ Done (2 * c) t F ∧ Blk c a n F)) (fun u _ _ => n + 2 * c - (intOf u).toNat)
          case atStart => exact ⟨0, 0, F, Nat.zero_le _, rfl, by go_num, Lib.hid ⟨by omega, HF.out.1, HF.out.2.1, Done.zero, HF.out.2.2⟩⟩
          case round =>
            obtain ⟨t2, a2, F2, han, rfl, rfl, HF2⟩ := hrel
            clear HF
            by_cases hb : a2 + 2 * c ≤ n
            · go_wp2_with fail
              refine (symMerge_any HD.out (a2 + 2 * c - a2) F2 a2 (a2 + c) (a2 + 2 * c) _ _ _ _ (Nat.le_refl _) HF2.out.2.1 HF2.out.2.2.1 (by omega) (by omega) hb (HF2.out.2.2.2.2.first (by omega)) (by
                have h1 := HF2.out.2.2.2.2.next.first (by omega)
                rw [show a2 + c + c = a2 + 2 * c by omega] at h1
                exact h1) rfl (by omega) (by omega)).mono ?_
              rintro e w1 ⟨rfl, G2, hs1, hs2⟩
              have HG := Lib.hid (show a2 + 2 * c = (t2 + 1) * (2 * c) ∧ ST G2 w1 ∧ Inv lt n G2 ∧ Done (2 * c) (t2 + 1) G2 ∧ Blk c (a2 + 2 * c) n G2 from
                ⟨by rw [Nat.add_mul, Nat.one_mul]; exact congrArg (· + 2 * c) HF2.out.1, hs1, hs2.inv, HF2.out.2.2.2.1.add HF2.out.1 rfl hs2, by
                  have h1 := HF2.out.2.2.2.2.next.next
                  rw [show a2 + c + c = a2 + 2 * c by omega] at h1
                  exact h1.keep fun k hk => hs2.mv.1 k (.inr hk)⟩)
              clear hs1 hs2 HF2
              go_wp2
              go_roundw
              case rel => exact ⟨t2 + 1, a2 + 2 * c, G2, hb, by go_num, by go_num, HG⟩
              case measure => simp [intOf]; omega
            · by_cases hm : a2 + c < n
              · go_wp2_with fail
                refine (symMerge_any HD.out (n - a2) F2 a2 (a2 + c) n _ _ _ _ (Nat.le_refl _) HF2.out.2.1 HF2.out.2.2.1 (by omega) hm (Nat.le_refl _) (HF2.out.2.2.2.2.first (by omega)) (HF2.out.2.2.2.2.next.last (by omega)) rfl (by omega) rfl).mono ?_
                rintro e w1 ⟨rfl, G2, hs1, hs2⟩
                have HG := Lib.hid (show ST G2 w1 ∧ Inv lt n G2 ∧ Blk (c * 2) 0 n G2 from
                  ⟨hs1, hs2.inv, by
                    have h1 := HF2.out.1
                    have h2 := hs2.up
                    rw [h1] at h2
                    rw [Nat.mul_comm c 2]
                    exact (HF2.out.2.2.2.1.keep fun k hk => hs2.mv.1 k (.inl (by omega))).blk h2 (by omega)⟩)
                clear hs1 hs2 HF2
                go_wp2
                go_roundw
                case rel => exact ⟨c * 2, G2, by omega, .inr (by omega), by go_num, HG⟩
                case measure => simp [intOf]; omega
              · have HG := Lib.hid (show ST F2 _ ∧ Inv lt n F2 ∧ Blk (c * 2) 0 n F2 from
                  ⟨HF2.out.2.1, HF2.out.2.2.1, by
                    have h1 := HF2.out.1
                    have h2 := HF2.out.2.2.2.2.last (by omega)
                    rw [h1] at h2
                    rw [Nat.mul_comm c 2]
                    exact HF2.out.2.2.2.1.blk h2 (by omega)⟩)
                clear HF2
                go_wp2
                go_roundw
                case rel => exact ⟨c * 2, F2, by omega, .inr (by omega), by go_num, HG⟩
                case measure => simp [intOf]; omega
        · have HE := Lib.hid (And.intro HF.out.1 (And.intro HF.out.2.1 (HF.out.2.2.last (by omega))))
          clear HF
          go_wp2
          go_end0
          exact ⟨rfl, F, HE.out.1, HE.out.2.1, HE.out.2.2⟩

set_option maxRecDepth 100000 in
theorem sortStable_any (D : SortData rv n lt ST) (E : Nat → Nat) (w : World) (hS : ST E w) (hI : Inv lt n E) :
    Calls Try.prog 49 #[.iface 91 rv] w fun e w' => e = .returned (.tuple #[]) ∧ ∃ F, ST F w' ∧ Inv lt n F ∧ Up 0 n F := by
  have hm := D.mLen
  have HS := Lib.hid (And.intro hS hI)
  have HD := Lib.hid D
  clear D hS hI
  go_enter Try.func49, Try.ntmps49
  go_wp2_with fail
  refine (HD.out.len E _ HS.out.1).mono ?_
  rintro e w1 ⟨rfl, hs1⟩
  have HS1 := Lib.hid (And.intro hs1 HS.out.2)
  clear hs1 HS
  go_wp2_with fail
  refine (stable_any HD.out E _ _ HS1.out.1 HS1.out.2 rfl).mono ?_
  rintro e w2 ⟨rfl, F, hs1, hs2⟩
  have HE := Lib.hid (And.intro hs1 hs2)
  clear hs1 hs2 HS1
  go_wp2
  go_end0
  exact ⟨rfl, F, HE.out.1, HE.out.2⟩
end
end Go.Proofs.Ytlmlckgnmkjkdaa

/-
  The stable order of places: unique; by insertion from behind; as ranks.
-/
namespace Go.Proofs.Ytlmlckgnmkjkdaa

/-- a strict weak order of places -/
structure Swo (lt : Nat → Nat → Prop) : Prop where
  asymm : ∀ a b, lt a b → ¬ lt b a
  ntrans : ∀ a b c, ¬ lt a b → ¬ lt b c → ¬ lt a c
/-- s lists the places below m, in order, stably -/
structure Stab (lt : Nat → Nat → Prop) (m : Nat) (s : List Nat) : Prop where
  perm : s.Perm (List.range m)
  pair : s.Pairwise (fun a b => ¬ lt b a ∧ (b < a → lt a b))
section
variable {lt : Nat → Nat → Prop} {m : Nat} {s t : List Nat}
theorem Stab.length (h : Stab lt m s) : s.length = m := by rw [h.perm.length_eq, List.length_range]
theorem Stab.mem (h : Stab lt m s) {a : Nat} : a ∈ s ↔ a < m := by rw [h.perm.mem_iff, List.mem_range]
theorem Stab.nodup (h : Stab lt m s) : s.Nodup := h.perm.nodup_iff.2 List.nodup_range
theorem Stab.lt_at (h : Stab lt m s) {k : Nat} (hk : k < m) : s.getD k 0 < m := by
  have hl : k < s.length := by rw [h.length]; exact hk
  rw [show s.getD k 0 = s[k] by simp [hl]]
  exact h.mem.1 (List.getElem_mem hl)
theorem Stab.zero : Stab lt 0 [] := ⟨List.Perm.refl _, List.Pairwise.nil⟩
/-- one more place, put behind the last that it does not precede -/
theorem Stab.step (W : Swo lt) (h : Stab lt m s) {p : Nat} (hp : p ≤ m) (h1 : ∀ k, p ≤ k → k < m → lt m (s.getD k 0)) (h2 : p = 0 ∨ ¬ lt m (s.getD (p - 1) 0)) : Stab lt (m + 1) (s.take p ++ m :: s.drop p) := by
  have hlen := h.length
  have hat : ∀ k (hk : k < s.length), s.getD k 0 = s[k] := fun k hk => by simp [hk]
  have hpw := h.pair
  rw [← List.take_append_drop p s, List.pairwise_append] at hpw
  obtain ⟨q1, q2, q3⟩ := hpw
  refine ⟨?_, ?_⟩
  · rw [List.range_succ]
    refine (List.perm_middle).trans ?_
    rw [List.take_append_drop]
    exact (h.perm.cons m).trans (List.perm_append_singleton m (List.range m)).symm
  · rw [List.pairwise_append, List.pairwise_cons]
    refine ⟨q1, ⟨fun b hb => ?_, q2⟩, fun a ha b hb => ?_⟩
    · obtain ⟨k, hk, rfl⟩ := List.getElem_of_mem hb
      rw [List.length_drop] at hk
      rw [List.getElem_drop]
      have := h1 (p + k) (by omega) (by omega)
      rw [hat (p + k) (by omega)] at this
      exact ⟨W.asymm _ _ this, fun _ => this⟩
    · have ham : a < m := h.mem.1 (List.mem_of_mem_take ha)
      rcases List.mem_cons.1 hb with rfl | hb
      · refine ⟨?_, fun hc => by omega⟩
        obtain ⟨k, hk, rfl⟩ := List.getElem_of_mem ha
        rw [List.length_take] at hk
        rw [List.getElem_take]
        rcases h2 with h2 | h2
        · omega
        · rw [hat (p - 1) (by omega)] at h2
          by_cases c : k = p - 1
          · subst c; exact h2
          · have := List.pairwise_iff_getElem.1 h.pair k (p - 1) (by omega) (by omega) (by omega)
            exact W.ntrans _ _ _ h2 this.1
      · exact q3 a ha b hb
theorem stab_place (lt : Nat → Nat → Prop) (m : Nat) (s : List Nat) : ∀ n, ∃ p, p ≤ n ∧ (∀ k, p ≤ k → k < n → lt m (s.getD k 0)) ∧ (p = 0 ∨ ¬ lt m (s.getD (p - 1) 0))
  | 0 => ⟨0, Nat.le_refl _, fun k _ h => by omega, .inl rfl⟩
  | n + 1 => by
    by_cases c : lt m (s.getD n 0)
    · obtain ⟨p, h1, h2, h3⟩ := stab_place lt m s n
      refine ⟨p, by omega, fun k hk hk2 => ?_, h3⟩
      by_cases c2 : k = n
      · subst c2; exact c
      · exact h2 k hk (by omega)
    · exact ⟨n + 1, Nat.le_refl _, fun k _ _ => by omega, .inr (by simpa using c)⟩
theorem stab_exists (W : Swo lt) : ∀ m, ∃ s, Stab lt m s
  | 0 => ⟨[], Stab.zero⟩
  | m + 1 => by
    obtain ⟨s, hs⟩ := stab_exists W m
    obtain ⟨p, h1, h2, h3⟩ := stab_place lt m s m
    exact ⟨_, hs.step W h1 h2 h3⟩
theorem stab_unique (h : Stab lt m s) (k : Stab lt m t) : s = t := by
  refine List.Perm.eq_of_pairwise (le := fun a b => ¬ lt b a ∧ (b < a → lt a b)) ?_ h.pair k.pair (h.perm.trans k.perm.symm)
  intro a b _ _ h1 h2
  rcases Nat.lt_trichotomy a b with c | c | c
  · exact absurd (h2.2 c) h1.1
  · exact c
  · exact absurd (h1.2 c) h2.1
theorem stab_id (h : ∀ i j, i < j → j < m → ¬ lt j i) : Stab lt m (List.range m) :=
  ⟨List.Perm.refl _, by
    rw [List.pairwise_iff_getElem]
    intro i j hi hj hij
    simp only [List.getElem_range]
    rw [List.length_range] at hj
    exact ⟨h i j hij hj, fun hc => by omega⟩⟩
/-- the order depends on lt below m alone -/
theorem Stab.congr {lt' : Nat → Nat → Prop} (h : Stab lt m s) (he : ∀ a b, a < m → b < m → (lt a b ↔ lt' a b)) : Stab lt' m s :=
  ⟨h.perm, h.pair.imp_of_mem fun {a b} ha hb hr => by
    have h1 := h.mem.1 ha
    have h2 := h.mem.1 hb
    rw [he b a h2 h1, he a b h1 h2] at hr
    exact hr⟩
/-- the rank of a place -/
def rankOf (s : List Nat) (i : Nat) : Nat := s.idxOf i
theorem Stab.rank (h : Stab lt m s) {i : Nat} (hi : i < m) : rankOf s i < m ∧ s.getD (rankOf s i) 0 = i := by
  have hm : i ∈ s := h.mem.2 hi
  have hl : s.idxOf i < s.length := List.idxOf_lt_length_of_mem hm
  refine ⟨by unfold rankOf; rw [← h.length]; exact hl, ?_⟩
  unfold rankOf
  rw [show s.getD (s.idxOf i) 0 = s[s.idxOf i] by simp [hl]]
  exact List.getElem_idxOf hl
theorem Stab.inv (h : Stab lt m s) : Inv (fun x y => lt (s.getD x 0) (s.getD y 0)) m (rankOf s) := by
  refine ⟨fun i hi => (h.rank hi).1, fun i j hij hj => ?_⟩
  obtain ⟨a1, a2⟩ := h.rank (i := i) (by omega)
  obtain ⟨b1, b2⟩ := h.rank hj
  refine ⟨fun e => ?_, fun hlt => ?_⟩
  · rw [e, b2] at a2; omega
  · show lt (s.getD (rankOf s j) 0) (s.getD (rankOf s i) 0)
    rw [a2, b2]
    have := List.pairwise_iff_getElem.1 h.pair (rankOf s j) (rankOf s i) (by rw [h.length]; exact b1) (by rw [h.length]; exact a1) hlt
    have e1 : s[rankOf s j]'(by rw [h.length]; exact b1) = j := by
      have hl : rankOf s j < s.length := by rw [h.length]; exact b1
      exact (show s[rankOf s j] = s.getD (rankOf s j) 0 by simp [hl]).trans b2
    have e2 : s[rankOf s i]'(by rw [h.length]; exact a1) = i := by
      have hl : rankOf s i < s.length := by rw [h.length]; exact a1
      exact (show s[rankOf s i] = s.getD (rankOf s i) 0 by simp [hl]).trans a2
    rw [e1, e2] at this
    exact this.2 hij
theorem Stab.up (h : Stab lt m s) : ∀ x y, x < y → y < m → ¬ lt (s.getD y 0) (s.getD x 0) := fun x y hxy hy => by
  have hl : y < s.length := by rw [h.length]; exact hy
  have := List.pairwise_iff_getElem.1 h.pair x y (by omega) hl hxy
  rw [show s.getD y 0 = s[y] by simp [hl], show s.getD x 0 = s[x] by simp [show x < s.length by omega]]
  exact this.1
theorem Stab.inj (h : Stab lt m s) {x y : Nat} (hx : x < m) (hy : y < m) (hne : x ≠ y) : s.getD x 0 ≠ s.getD y 0 := fun e => by
  have l1 : x < s.length := by rw [h.length]; exact hx
  have l2 : y < s.length := by rw [h.length]; exact hy
  rw [show s.getD x 0 = s[x] by simp [l1], show s.getD y 0 = s[y] by simp [l2]] at e
  have hp := List.pairwise_iff_getElem.1 h.nodup
  rcases Nat.lt_or_gt_of_ne hne with c | c
  · exact hp x y l1 l2 c e
  · exact hp y x l2 l1 c e.symm
end
end Go.Proofs.Ytlmlckgnmkjkdaa
