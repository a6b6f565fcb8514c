/-
  The label policy as lists of quadruples (source, bits, key, label). Plain mathematics.
-/
import Derived.Lib.Hide
namespace Go.Proofs.Ytipcjofmplpffaa

abbrev Pn := Int × Int × Int × Int
/-- 2 to the power n, for n up to 4 -/
def pw (n : Int) : Int := if n ≤ 0 then 1 else if n = 1 then 2 else if n = 2 then 4 else if n = 3 then 8 else 16
def inRange (p : Pn) : Prop := 0 ≤ p.1 ∧ p.1 < 4 ∧ 0 ≤ p.2.1 ∧ p.2.1 ≤ 4 ∧ 0 ≤ p.2.2.1 ∧ p.2.2.1 ≤ 15
def rightP (p : Pn) : Prop := inRange p ∧ p.2.2.1 % pw (4 - p.2.1) = 0
def hasP (p : Pn) (src key : Int) : Prop := inRange p ∧ p.1 = src ∧ (0 ≤ key ∧ key ≤ 15) ∧ key / pw (4 - p.2.1) = p.2.2.1 / pw (4 - p.2.1)
def lessP (a b : Pn) : Prop := a.1 < b.1 ∨ a.1 = b.1 ∧ (a.2.1 < b.2.1 ∨ a.2.1 = b.2.1 ∧ a.2.2.1 < b.2.2.1)
def sameP (a b : Pn) : Prop := a.1 = b.1 ∧ a.2.1 = b.2.1 ∧ a.2.2.1 = b.2.2.1
def goodP (N : Int) (p : Pn) : Prop := (0 ≤ p.2.2.2 ∧ p.2.2.2 < N) ∧ rightP p
instance (p : Pn) : Decidable (inRange p) := by unfold inRange; infer_instance
instance (p : Pn) : Decidable (rightP p) := by unfold rightP; infer_instance
instance (p : Pn) (s k : Int) : Decidable (hasP p s k) := by unfold hasP; infer_instance
instance (a b : Pn) : Decidable (lessP a b) := by unfold lessP; infer_instance
instance (a b : Pn) : Decidable (sameP a b) := by unfold sameP; infer_instance
instance (N : Int) (p : Pn) : Decidable (goodP N p) := by unfold goodP; infer_instance
theorem pw_range (n : Int) : 1 ≤ pw n ∧ pw n ≤ 16 := by
  unfold pw
  split
  · omega
  split
  · omega
  split
  · omega
  split <;> omega
theorem pw_zero : pw 0 = 1 := rfl
theorem pw_step {n : Int} (h0 : 0 ≤ n) (h4 : n < 4) : 2 * pw n = pw (n + 1) := by
  have h : n = 0 ∨ n = 1 ∨ n = 2 ∨ n = 3 := by omega
  rcases h with rfl | rfl | rfl | rfl <;> rfl

theorem less_trans {a b c : Pn} (h : lessP a b) (k : lessP b c) : lessP a c := by unfold lessP at *; omega
theorem less_not_same {a b : Pn} (h : lessP a b) : ¬ sameP a b := by unfold lessP sameP at *; omega
theorem less_not_same' {a b : Pn} (h : lessP a b) : ¬ sameP b a := by unfold lessP sameP at *; omega
theorem less_asymm {a b : Pn} (h : lessP a b) : ¬ lessP b a := by unfold lessP at *; omega
theorem less_irrefl (a : Pn) : ¬ lessP a a := by unfold lessP; omega
theorem less_of_not {a b : Pn} (h : ¬ lessP a b) (k : ¬ sameP a b) : lessP b a := by unfold lessP sameP at *; omega
theorem same_refl (a : Pn) : sameP a a := ⟨rfl, rfl, rfl⟩
theorem same_symm {a b : Pn} (h : sameP a b) : sameP b a := ⟨h.1.symm, h.2.1.symm, h.2.2.symm⟩
theorem has_same {a b : Pn} (h : sameP a b) {s k : Int} (ha : hasP a s k) : hasP b s k := by
  obtain ⟨h1, h2, h3⟩ := h
  unfold hasP inRange at *
  rw [← h1, ← h2, ← h3]
  exact ha
/-- two right entries that match, of as many bits, are the same -/
theorem has_one {a b : Pn} {s k : Int} (ra : rightP a) (rb : rightP b) (ha : hasP a s k) (hb : hasP b s k) (e : a.2.1 = b.2.1) : sameP a b := by
  refine ⟨ha.2.1.trans hb.2.1.symm, e, ?_⟩
  have q : a.2.2.1 / pw (4 - a.2.1) = b.2.2.1 / pw (4 - b.2.1) := by rw [← ha.2.2.2, ← hb.2.2.2, e]
  have da := Int.mul_ediv_add_emod a.2.2.1 (pw (4 - a.2.1))
  have db := Int.mul_ediv_add_emod b.2.2.1 (pw (4 - b.2.1))
  rw [ra.2] at da
  rw [rb.2] at db
  rw [← da, ← db, q, e]

def qat (ps : List Pn) (k : Nat) : Pn := ps.getD k (0, 0, 0, 0)
theorem qat_mem {ps : List Pn} {k : Nat} (h : k < ps.length) : qat ps k ∈ ps := by
  unfold qat; rw [List.getD_eq_getElem?_getD, List.getElem?_eq_getElem h]; exact List.getElem_mem h
theorem qat_get {ps : List Pn} {k : Nat} (h : k < ps.length) : ps[k] = qat ps k := by simp [qat, h]
theorem mem_qat {ps : List Pn} {p : Pn} (h : p ∈ ps) : ∃ k, k < ps.length ∧ qat ps k = p := by
  obtain ⟨k, hk, e⟩ := List.getElem_of_mem h
  exact ⟨k, hk, by rw [← qat_get hk]; exact e⟩

/-- the first k entries are good and go up -/
def okTo (N : Int) (ps : List Pn) (k : Nat) : Prop := ∀ i, i < k → goodP N (qat ps i) ∧ (0 < i → lessP (qat ps (i - 1)) (qat ps i))
def listOk (N : Int) (ps : List Pn) : Prop := ps.length ≤ 12 ∧ (∀ p ∈ ps, goodP N p) ∧ ps.Pairwise lessP
theorem okTo_zero (N : Int) (ps : List Pn) : okTo N ps 0 := fun i h => by omega
theorem okTo_succ {N : Int} {ps : List Pn} {k : Nat} : okTo N ps (k + 1) ↔ okTo N ps k ∧ goodP N (qat ps k) ∧ (0 < k → lessP (qat ps (k - 1)) (qat ps k)) := by
  constructor
  · exact fun h => ⟨fun i hi => h i (by omega), h k (by omega)⟩
  · rintro ⟨h, hk⟩ i hi
    by_cases e : i = k
    · subst e; exact hk
    · exact h i (by omega)
theorem okTo_cons {N : Int} {p : Pn} {ps : List Pn} : okTo N (p :: ps) (ps.length + 1) ↔ goodP N p ∧ okTo N ps ps.length ∧ (0 < ps.length → lessP p (qat ps 0)) := by
  constructor
  · intro h
    refine ⟨(h 0 (by omega)).1, fun i hi => ?_, fun h0 => ?_⟩
    · have := h (i + 1) (by omega)
      refine ⟨by simpa [qat] using this.1, fun hi0 => ?_⟩
      have h2 := this.2 (by omega)
      obtain ⟨j, rfl⟩ : ∃ j, i = j + 1 := ⟨i - 1, by omega⟩
      simpa [qat] using h2
    · have := (h 1 (by omega)).2 (by omega)
      simpa [qat] using this
  · rintro ⟨hp, h, h0⟩ i hi
    cases i with
    | zero => exact ⟨by simpa [qat] using hp, fun h => by omega⟩
    | succ i =>
      refine ⟨by simpa [qat] using (h i (by omega)).1, fun _ => ?_⟩
      cases i with
      | zero => simpa [qat] using h0 (by omega)
      | succ i => simpa [qat] using (h (i + 1) (by omega)).2 (by omega)
theorem okTo_iff {N : Int} {ps : List Pn} : okTo N ps ps.length ↔ (∀ p ∈ ps, goodP N p) ∧ ps.Pairwise lessP := by
  induction ps with
  | nil => simp [okTo]
  | cons p ps ih =>
    rw [List.length_cons, okTo_cons, ih]
    constructor
    · rintro ⟨hp, ⟨hall, hpw⟩, h0⟩
      refine ⟨fun q hq => ?_, List.pairwise_cons.2 ⟨fun q hq => ?_, hpw⟩⟩
      · rcases List.mem_cons.1 hq with rfl | hq
        · exact hp
        · exact hall q hq
      · cases ps with
        | nil => simp at hq
        | cons r rs =>
          have hr : lessP p r := by simpa [qat] using h0 (by simp)
          rcases List.mem_cons.1 hq with rfl | hq
          · exact hr
          · exact less_trans hr ((List.pairwise_cons.1 hpw).1 q hq)
    · rintro ⟨hall, hpw⟩
      refine ⟨hall p (by simp), ⟨fun q hq => hall q (by simp [hq]), (List.pairwise_cons.1 hpw).2⟩, fun h0 => ?_⟩
      exact (List.pairwise_cons.1 hpw).1 _ (qat_mem h0)
theorem listOk_iff {N : Int} {ps : List Pn} : listOk N ps ↔ ps.length ≤ 12 ∧ okTo N ps ps.length := by
  unfold listOk; rw [okTo_iff]
theorem okTo_not {N : Int} {ps : List Pn} {k : Nat} (hk : k < ps.length) (h : ¬ (goodP N (qat ps k) ∧ (0 < k → lessP (qat ps (k - 1)) (qat ps k)))) : ¬ listOk N ps := fun hl => by
  have := listOk_iff.1 hl
  exact h (this.2 k hk)

/-- the entries other than p's own -/
def without (ps : List Pn) (p : Pn) : List Pn := ps.filter fun q => !decide (sameP q p)
theorem mem_without {ps : List Pn} {p q : Pn} : q ∈ without ps p ↔ q ∈ ps ∧ ¬ sameP q p := by simp [without]
theorem without_sorted {ps : List Pn} (p : Pn) (h : ps.Pairwise lessP) : (without ps p).Pairwise lessP := h.sublist List.filter_sublist
theorem without_length (ps : List Pn) (p : Pn) : (without ps p).length ≤ ps.length := List.length_filter_le _ _
theorem without_none {ps : List Pn} {p : Pn} (h : ∀ q ∈ ps, ¬ sameP q p) : without ps p = ps := List.filter_eq_self.2 fun q hq => by simp [h q hq]
theorem without_snoc {ps : List Pn} {p : Pn} {k : Nat} (hk : k < ps.length) : without (ps.take (k + 1)) p = without (ps.take k) p ++ (if sameP (qat ps k) p then [] else [qat ps k]) := by
  rw [List.take_succ_eq_append_getElem hk, qat_get hk]
  unfold without
  rw [List.filter_append]
  by_cases h : sameP (qat ps k) p <;> simp [h]

/-- p set into a list that goes up -/
def ins (p : Pn) : List Pn → List Pn
  | [] => [p]
  | q :: r => if lessP q p then q :: ins p r else p :: q :: r
def setP (ps : List Pn) (p : Pn) : List Pn := ins p (without ps p)
def posOf (p : Pn) : List Pn → Nat
  | [] => 0
  | q :: r => if lessP q p then posOf p r + 1 else 0
theorem posOf_le (p : Pn) : ∀ r : List Pn, posOf p r ≤ r.length
  | [] => Nat.le_refl _
  | q :: r => by unfold posOf; split <;> simp [posOf_le p r]
theorem ins_pos (p : Pn) : ∀ r : List Pn, ins p r = r.take (posOf p r) ++ p :: r.drop (posOf p r)
  | [] => rfl
  | q :: r => by unfold ins posOf; split <;> simp [ins_pos p r]
/-- the place is the first k at which the entry is not below p -/
theorem posOf_is {p : Pn} : ∀ {r : List Pn} {k : Nat}, k ≤ r.length → (∀ i, i < k → lessP (qat r i) p) → (k < r.length → ¬ lessP (qat r k) p) → posOf p r = k
  | [], k, hk, _, _ => by simp at hk; simp [posOf, hk]
  | q :: r, k, hk, h1, h2 => by
    cases k with
    | zero => have : ¬ lessP q p := by simpa [qat] using h2 (by simp)
              simp [posOf, this]
    | succ k =>
      have hq : lessP q p := by simpa [qat] using h1 0 (by omega)
      have := posOf_is (p := p) (r := r) (k := k) (by simpa using hk) (fun i hi => by simpa [qat] using h1 (i + 1) (by omega)) (fun hi => by simpa [qat] using h2 (by simpa using hi))
      simp [posOf, hq, this]
theorem mem_ins {p q : Pn} : ∀ {r : List Pn}, q ∈ ins p r ↔ q = p ∨ q ∈ r
  | [] => by simp [ins]
  | x :: r => by
    unfold ins; split
    · rw [List.mem_cons, mem_ins, List.mem_cons]
      constructor
      · rintro (h | h | h) <;> simp [h]
      · rintro (h | h | h) <;> simp [h]
    · simp
theorem ins_length (p : Pn) : ∀ r : List Pn, (ins p r).length = r.length + 1
  | [] => rfl
  | q :: r => by unfold ins; split <;> simp [ins_length p r]
theorem ins_sorted {p : Pn} : ∀ {r : List Pn}, r.Pairwise lessP → (∀ q ∈ r, ¬ sameP q p) → (ins p r).Pairwise lessP
  | [], _, _ => by simp [ins]
  | q :: r, h, hs => by
    obtain ⟨hq, hr⟩ := List.pairwise_cons.1 h
    unfold ins; split
    · rename_i hl
      refine List.pairwise_cons.2 ⟨fun x hx => ?_, ins_sorted hr fun y hy => hs y (by simp [hy])⟩
      rcases mem_ins.1 hx with rfl | hx
      · exact hl
      · exact hq x hx
    · rename_i hl
      have hpq := less_of_not hl (hs q (by simp))
      refine List.pairwise_cons.2 ⟨fun x hx => ?_, h⟩
      rcases List.mem_cons.1 hx with rfl | hx
      · exact hpq
      · exact less_trans hpq (hq x hx)
theorem mem_set {ps : List Pn} {p q : Pn} : q ∈ setP ps p ↔ q = p ∨ (q ∈ ps ∧ ¬ sameP q p) := by
  unfold setP; rw [mem_ins, mem_without]
theorem set_sorted {ps : List Pn} (p : Pn) (h : ps.Pairwise lessP) : (setP ps p).Pairwise lessP :=
  ins_sorted (without_sorted p h) fun _ hq => (mem_without.1 hq).2
theorem set_length (ps : List Pn) (p : Pn) : (setP ps p).length = (without ps p).length + 1 := ins_length _ _
theorem set_ok {N : Int} {ps : List Pn} {p : Pn} (h : listOk N ps) (hp : goodP N p) (hn : (without ps p).length ≠ 12) : listOk N (setP ps p) := by
  refine ⟨?_, fun q hq => ?_, set_sorted p h.2.2⟩
  · have := without_length ps p
    have := h.1
    rw [set_length]; omega
  · rcases mem_set.1 hq with rfl | hq
    · exact hp
    · exact h.2.1 q hq.1
/-- lists that go up and have the same members are the same -/
theorem sorted_ext : ∀ {a b : List Pn}, a.Pairwise lessP → b.Pairwise lessP → (∀ q, q ∈ a ↔ q ∈ b) → a = b
  | [], [], _, _, _ => rfl
  | [], y :: b, _, _, h => by have := (h y).2 (by simp); simp at this
  | x :: a, [], _, _, h => by have := (h x).1 (by simp); simp at this
  | x :: a, y :: b, ha, hb, h => by
    obtain ⟨hx, ha'⟩ := List.pairwise_cons.1 ha
    obtain ⟨hy, hb'⟩ := List.pairwise_cons.1 hb
    have exy : x = y := by
      rcases List.mem_cons.1 ((h x).1 (by simp)) with e | m
      · exact e
      · rcases List.mem_cons.1 ((h y).2 (by simp)) with e | m'
        · exact e.symm
        · exact absurd (hx y m') (less_asymm (hy x m))
    subst exy
    congr 1
    refine sorted_ext ha' hb' fun q => ⟨fun hq => ?_, fun hq => ?_⟩
    · rcases List.mem_cons.1 ((h q).1 (by simp [hq])) with rfl | m
      · exact absurd (hx q hq) (less_irrefl q)
      · exact m
    · rcases List.mem_cons.1 ((h q).2 (by simp [hq])) with rfl | m
      · exact absurd (hy q hq) (less_irrefl q)
      · exact m
theorem sorted_cases {a b : Pn} : ∀ {ps : List Pn}, ps.Pairwise lessP → a ∈ ps → b ∈ ps → a = b ∨ lessP a b ∨ lessP b a
  | [], _, h, _ => by simp at h
  | p :: ps, hs, ha, hb => by
    obtain ⟨hp, hs'⟩ := List.pairwise_cons.1 hs
    rcases List.mem_cons.1 ha with rfl | ha'
    · rcases List.mem_cons.1 hb with rfl | hb'
      · exact .inl rfl
      · exact .inr (.inl (hp b hb'))
    · rcases List.mem_cons.1 hb with rfl | hb'
      · exact .inr (.inr (hp a ha'))
      · exact sorted_cases hs' ha' hb'
theorem sorted_same {a b : Pn} {ps : List Pn} (h : ps.Pairwise lessP) (ha : a ∈ ps) (hb : b ∈ ps) (e : sameP a b) : a = b := by
  rcases sorted_cases h ha hb with h | h | h
  · exact h
  · exact absurd e (less_not_same h)
  · exact absurd e (less_not_same' h)
/-- what is set can be dropped again -/
theorem drop_set (ps : List Pn) (p : Pn) (h : ps.Pairwise lessP) : without (setP ps p) p = without ps p := by
  refine sorted_ext (without_sorted p (set_sorted p h)) (without_sorted p h) fun q => ?_
  rw [mem_without, mem_set, mem_without]
  constructor
  · rintro ⟨rfl | h, h2⟩
    · exact absurd (same_refl q) h2
    · exact h
  · exact fun h => ⟨.inr h, h.2⟩

/-- the best match so far: its bits, its label -/
def bestOf : List Pn → Int → Int → Int → Int → Int × Int
  | [], _, _, b, l => (b, l)
  | p :: ps, s, k, b, l => if hasP p s k ∧ b < p.2.1 then bestOf ps s k p.2.1 p.2.2.2 else bestOf ps s k b l
def forP (ps : List Pn) (s k top : Int) : Int := (bestOf ps s k (-1) top).2
theorem bestOf_step {ps : List Pn} {j : Nat} {s k b l : Int} (hj : j < ps.length) :
    bestOf (ps.drop j) s k b l = if hasP (qat ps j) s k ∧ b < (qat ps j).2.1 then bestOf (ps.drop (j + 1)) s k (qat ps j).2.1 (qat ps j).2.2.2 else bestOf (ps.drop (j + 1)) s k b l := by
  rw [List.drop_eq_getElem_cons hj, qat_get hj, bestOf]
theorem bestOf_is {s k : Int} : ∀ (ps : List Pn) (b l : Int), (bestOf ps s k b l = (b, l) ∧ ∀ q ∈ ps, hasP q s k → q.2.1 ≤ b) ∨
    ∃ q ∈ ps, hasP q s k ∧ b < q.2.1 ∧ (∀ r ∈ ps, hasP r s k → r.2.1 ≤ q.2.1) ∧ bestOf ps s k b l = (q.2.1, q.2.2.2)
  | [], b, l => .inl ⟨rfl, fun q hq => by simp at hq⟩
  | p :: ps, b, l => by
    unfold bestOf
    by_cases h : hasP p s k ∧ b < p.2.1
    · rw [if_pos h]
      rcases bestOf_is ps p.2.1 p.2.2.2 with ⟨e, hm⟩ | ⟨q, hq, h1, h2, h3, e⟩
      · refine .inr ⟨p, by simp, h.1, h.2, fun r hr hh => ?_, e⟩
        rcases List.mem_cons.1 hr with rfl | hr
        · exact Int.le_refl _
        · exact hm r hr hh
      · refine .inr ⟨q, by simp [hq], h1, by omega, fun r hr hh => ?_, e⟩
        rcases List.mem_cons.1 hr with rfl | hr
        · omega
        · exact h3 r hr hh
    · rw [if_neg h]
      rcases bestOf_is ps b l with ⟨e, hm⟩ | ⟨q, hq, h1, h2, h3, e⟩
      · refine .inl ⟨e, fun r hr hh => ?_⟩
        rcases List.mem_cons.1 hr with rfl | hr
        · by_cases hb : b < r.2.1
          · exact absurd ⟨hh, hb⟩ h
          · omega
        · exact hm r hr hh
      · refine .inr ⟨q, by simp [hq], h1, h2, fun r hr hh => ?_, e⟩
        rcases List.mem_cons.1 hr with rfl | hr
        · by_cases hb : b < r.2.1
          · exact absurd ⟨hh, hb⟩ h
          · omega
        · exact h3 r hr hh
theorem forP_is (ps : List Pn) (s k top : Int) : ((∀ q ∈ ps, ¬ hasP q s k) ∧ forP ps s k top = top) ∨ ∃ q ∈ ps, hasP q s k ∧ (∀ r ∈ ps, hasP r s k → r.2.1 ≤ q.2.1) ∧ forP ps s k top = q.2.2.2 := by
  unfold forP
  rcases bestOf_is (s := s) (k := k) ps (-1) top with ⟨e, h⟩ | ⟨q, hq, h1, _, h3, e⟩
  · refine .inl ⟨fun q hq hh => ?_, by rw [e]⟩
    have := h q hq hh
    have := hh.1.2.2.1
    omega
  · exact .inr ⟨q, hq, h1, h3, by rw [e]⟩
theorem forP_none {ps : List Pn} {s k top : Int} (h : ∀ q ∈ ps, ¬ hasP q s k) : forP ps s k top = top := by
  rcases forP_is ps s k top with ⟨_, e⟩ | ⟨q, hq, h1, _⟩
  · exact e
  · exact absurd h1 (h q hq)
theorem forP_max {N : Int} {ps : List Pn} {s k top : Int} (ho : listOk N ps) {q : Pn} (hq : q ∈ ps) (hh : hasP q s k) (hm : ∀ r ∈ ps, hasP r s k → r.2.1 ≤ q.2.1) : forP ps s k top = q.2.2.2 := by
  rcases forP_is ps s k top with ⟨h, _⟩ | ⟨r, hr, h1, h2, e⟩
  · exact absurd hh (h q hq)
  · have eb : q.2.1 = r.2.1 := by have := hm r hr h1; have := h2 q hq hh; omega
    have := sorted_same ho.2.2 hq hr (has_one (ho.2.1 q hq).2 (ho.2.1 r hr).2 hh h1 eb)
    rw [e, this]
/-- the label of a valid policy is a label -/
theorem forP_label {N : Int} {ps : List Pn} {s k top : Int} (ho : listOk N ps) (ht : 0 ≤ top ∧ top < N) : 0 ≤ forP ps s k top ∧ forP ps s k top < N := by
  rcases forP_is ps s k top with ⟨_, e⟩ | ⟨r, hr, _, _, e⟩
  · rw [e]; exact ht
  · rw [e]; exact (ho.2.1 r hr).1

def longerP (ps : List Pn) (p : Pn) (k : Int) : Prop := ∃ q ∈ ps, p.2.1 < q.2.1 ∧ hasP q p.1 k
/-- P6: what is set applies where no longer prefix is set -/
theorem for_set_here {N : Int} {ps : List Pn} {p : Pn} {k top : Int} (ho : listOk N ps) (hp : goodP N p) (hn : (without ps p).length ≠ 12) (hh : hasP p p.1 k) (hl : ¬ longerP ps p k) :
    forP (setP ps p) p.1 k top = p.2.2.2 := by
  refine forP_max (set_ok ho hp hn) (mem_set.2 (.inl rfl)) hh fun r hr hr1 => ?_
  rcases mem_set.1 hr with rfl | ⟨hr, _⟩
  · exact Int.le_refl _
  · by_cases hb : p.2.1 < r.2.1
    · exact absurd ⟨r, hr, hb, hr1⟩ hl
    · omega
/-- elsewhere everything is as it was -/
theorem for_set_else {N : Int} {ps : List Pn} {p : Pn} {k top : Int} (ho : listOk N ps) (hp : goodP N p) (hn : (without ps p).length ≠ 12) (h : ¬ hasP p p.1 k ∨ longerP ps p k) :
    forP (setP ps p) p.1 k top = forP ps p.1 k top := by
  rcases forP_is ps p.1 k top with ⟨h0, e⟩ | ⟨q, hq, h1, h2, e⟩
  · rw [e]
    have hnp : ¬ hasP p p.1 k := by
      rcases h with h | ⟨q, hq, _, hh⟩
      · exact h
      · exact absurd hh (h0 q hq)
    refine forP_none fun r hr => ?_
    rcases mem_set.1 hr with rfl | ⟨hr, _⟩
    · exact hnp
    · exact h0 r hr
  · rw [e]
    have hns : ¬ sameP q p := by
      rcases h with h | ⟨q0, hq0, hb, hh⟩
      · exact fun hs => h (has_same hs h1)
      · intro hs
        have := h2 q0 hq0 hh
        have := hs.2.1
        omega
    refine forP_max (set_ok ho hp hn) (mem_set.2 (.inr ⟨hq, hns⟩)) h1 fun r hr hr1 => ?_
    rcases mem_set.1 hr with rfl | ⟨hr, _⟩
    · rcases h with h | ⟨q0, hq0, hb, hh⟩
      · exact absurd hr1 h
      · have := h2 q0 hq0 hh
        omega
    · exact h2 r hr hr1
end Go.Proofs.Ytipcjofmplpffaa
