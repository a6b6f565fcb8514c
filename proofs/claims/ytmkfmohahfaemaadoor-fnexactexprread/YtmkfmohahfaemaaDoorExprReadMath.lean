/-
  Reading the text of a postfix expression. Plain mathematics.
-/
import Derived.Test.YtmkfmohahfaemaaDoorExprWords
import Derived.Lib.AtoiAll
namespace Go.Proofs.YtmkfmohahfaemaaDoor

/-- the words between blanks -/
def cutW : List UInt8 → List (List UInt8)
  | [] => [[]]
  | c :: l => if c = 32 then [] :: cutW l else match cutW l with | [] => [[c]] | w :: ws => (c :: w) :: ws
theorem cutW_ne (l : List UInt8) : cutW l ≠ [] := by
  cases l with
  | nil => simp [cutW]
  | cons c l => unfold cutW; split; · simp
                · split <;> simp
theorem cutW_none {l : List UInt8} (h : 32 ∉ l) : cutW l = [l] := by
  induction l with
  | nil => rfl
  | cons c l ih =>
    have h1 : ¬ c = 32 := fun e => h (by simp [e])
    have h2 : 32 ∉ l := fun e => h (by simp [e])
    simp [cutW, h1, ih h2]
theorem cutW_app {a b : List UInt8} (h : 32 ∉ a) : cutW (a ++ 32 :: b) = a :: cutW b := by
  induction a with
  | nil => simp [cutW]
  | cons c a ih =>
    have h1 : ¬ c = 32 := fun e => h (by simp [e])
    have h2 : 32 ∉ a := fun e => h (by simp [e])
    simp [cutW, h1, ih h2]
theorem joinW_cut (l : List UInt8) : joinW (cutW l) = l := by
  induction l with
  | nil => simp [cutW, joinW_one]
  | cons c l ih =>
    unfold cutW
    split
    · rename_i h
      subst h
      cases hc : cutW l with
      | nil => exact absurd hc (cutW_ne l)
      | cons w ws => rw [joinW_cons, ← hc, ih]; rfl
    · cases hc : cutW l with
      | nil => exact absurd hc (cutW_ne l)
      | cons w ws =>
        rw [hc] at ih
        cases ws with
        | nil => rw [joinW_one] at ih ⊢; rw [ih]
        | cons v vs => rw [joinW_cons] at ih ⊢; rw [← ih]; rfl
theorem cutW_join {ws : List (List UInt8)} (hne : ws ≠ []) (h : ∀ w ∈ ws, 32 ∉ w) : cutW (joinW ws) = ws := by
  induction ws with
  | nil => exact absurd rfl hne
  | cons a l ih =>
    cases l with
    | nil => rw [joinW_one]; exact cutW_none (h a (by simp))
    | cons b l => rw [joinW_cons, cutW_app (h a (by simp)), ih (by simp) (fun w hw => h w (by simp [hw]))]
theorem cutW_le (l : List UInt8) : (cutW l).length ≤ l.length + 1 := by
  induction l with
  | nil => simp [cutW]
  | cons c l ih =>
    unfold cutW
    split
    · simp; omega
    · cases hc : cutW l with
      | nil => simp
      | cons w ws => rw [hc] at ih; simp at ih ⊢; omega

/-! ### digits -/
theorem dec_digits (u : Nat) : ∀ c ∈ dec u, ∃ d, d < 10 ∧ c = dby d := by
  induction u using Nat.strongRecOn with
  | _ u ih =>
    intro c hc
    by_cases h : u < 10
    · rw [dec_small h] at hc; exact ⟨u, h, by simpa using hc⟩
    · rw [dec_big h] at hc
      rcases List.mem_append.1 hc with hc | hc
      · exact ih (u / 10) (by omega) c hc
      · exact ⟨u % 10, by omega, by simpa using hc⟩
theorem dby_ne {d : Nat} (h : d < 10) {c : UInt8} (hc : c.toNat < 48) : dby d ≠ c := fun e => by
  have := congrArg UInt8.toNat e; rw [dby_nat h] at this; omega
theorem dec_head {u : Nat} : ∃ d r, d < 10 ∧ dec u = dby d :: r := by
  cases h : dec u with
  | nil => exact absurd h (dec_ne u)
  | cons c r => obtain ⟨d, hd, rfl⟩ := dec_digits u c (by rw [h]; simp); exact ⟨d, r, hd, rfl⟩
theorem parse_dec (u : Nat) (hu : u < 18446744073709551616) (r : List UInt8) : Lib.parseUint10 0 (dec u ++ r) = Lib.parseUint10 u r := by
  induction u using Nat.strongRecOn generalizing r with
  | _ u ih =>
    by_cases h : u < 10
    · rw [dec_small h]
      have hd := dby_nat h
      simp only [List.cons_append, List.nil_append, Lib.parseUint10, hd]
      rw [if_pos (by omega), if_neg (by omega), if_neg (by omega)]
      congr 1; omega
    · rw [dec_big h, List.append_assoc, ih (u / 10) (by omega) (by omega)]
      have hd := dby_nat (d := u % 10) (by omega)
      simp only [List.cons_append, List.nil_append, Lib.parseUint10, hd]
      rw [if_pos (by omega), if_neg (by omega), if_neg (by omega)]
      congr 1; omega
theorem parseMag_dec (u : Nat) (hu : u < 18446744073709551616) : Lib.parseMag (dec u) = .ok u := by
  unfold Lib.parseMag
  rw [if_neg (dec_ne u)]
  have := parse_dec u hu []
  rw [List.append_nil] at this
  rw [this]; rfl
theorem atoi_decS {n : Int} (h0 : -9223372036854775808 ≤ n) (h1 : n ≤ 9223372036854775807) : Lib.atoiAll (decS n) = .ok n := by
  unfold decS
  by_cases hn : n < 0
  · rw [if_pos hn]
    unfold Lib.atoiAll
    have h45 : (45 : UInt8).toNat = 45 := rfl
    simp only [h45]
    rw [if_pos (by simp), parseMag_dec _ (by omega)]
    simp only
    rw [if_neg (by simp), if_neg (by simp; omega), if_pos trivial]
    congr 1; omega
  · rw [if_neg hn]
    obtain ⟨d, r, hd, he⟩ := dec_head (u := n.natAbs)
    have hm := parseMag_dec n.natAbs (by omega)
    rw [he] at hm ⊢
    unfold Lib.atoiAll
    simp only [dby_nat hd]
    rw [if_neg (by omega), hm]
    simp only
    rw [if_neg (by omega), if_neg (by omega), if_neg (by omega)]
    congr 1; omega

/-! ### words -/
theorem sign_blank : ∀ j, j < 12 → 32 ∉ sign j := by decide
theorem sign_apart : ∀ i, i < 12 → ∀ j, j < 12 → sign i = sign j → i = j := by decide
theorem decS_blank (n : Int) : 32 ∉ decS n := by
  have hd : 32 ∉ dec n.natAbs := fun h => by
    obtain ⟨d, hd, e⟩ := dec_digits _ _ h
    exact dby_ne hd (by decide) e.symm
  unfold decS
  split
  · intro h
    rcases List.mem_cons.1 h with h | h
    · exact absurd h (by decide)
    · exact hd h
  · exact hd
def signLike : List UInt8 → Bool
  | [] => true
  | c :: r => (decide (c.toNat < 48) || decide (57 < c.toNat)) && (decide (c ≠ 45) || r.isEmpty)
theorem sign_like : ∀ j, j < 12 → signLike (sign j) = true := by decide
theorem sign_two : ∀ j, j < 12 → ∀ c r, sign j = c :: r → (c.toNat < 48 ∨ 57 < c.toNat) ∧ (c = 45 → r = []) := by
  intro j hj c r h
  have := sign_like j hj
  rw [h] at this
  simp [signLike] at this
  exact ⟨this.1, fun e => by rcases this.2 with h' | h'; · exact absurd e h'
                             · exact h'⟩
theorem decS_sign (n : Int) {j : Nat} (hj : j < 12) : decS n ≠ sign j := fun e => by
  obtain ⟨d, r, hd, he⟩ := dec_head (u := n.natAbs)
  unfold decS at e
  split at e
  · have := (sign_two j hj 45 _ e.symm).2 rfl
    exact dec_ne _ this
  · rw [he] at e
    have := (sign_two j hj _ _ e.symm).1
    rw [dby_nat hd] at this; omega
theorem word_blank {t : Int × Int} (h : tokGood t) : 32 ∉ word t := by
  unfold word
  split
  · exact decS_blank _
  · exact sign_blank _ (by unfold tokGood at h; omega)

/-- good tokens, all of them -/
def Goods (es : List (Int × Int)) : Prop := ∀ t ∈ es, tokGood t ∧ -9223372036854775808 ≤ t.2 ∧ t.2 ≤ 9223372036854775807
theorem goods_ints {es : List (Int × Int)} (h : Goods es) : Ints es := fun k hk => by
  have hm : es.getD k (0, 0) ∈ es := by simp [List.getD, hk]
  have := h _ hm
  refine ⟨?_, this.2⟩
  have hg := this.1
  unfold tokGood at hg; omega
theorem cut_words {es : List (Int × Int)} (hne : es ≠ []) (h : Goods es) : cutW (joinW (es.map word)) = es.map word :=
  cutW_join (by simpa using hne) (fun w hw => by obtain ⟨t, ht, rfl⟩ := List.mem_map.1 hw; exact word_blank (h t ht).1)
/-- the text of a valid expression -/
def IsText (s : List UInt8) (es : List (Int × Int)) : Prop := Goods es ∧ 0 ≤ depthOf es ∧ joinW (es.map word) = s
theorem isText_ne {s : List UInt8} {es : List (Int × Int)} (h : IsText s es) : es ≠ [] := by
  rintro rfl; have := h.2.1; rw [depthOf_nil] at this; omega
theorem isText_cut {s : List UInt8} {es : List (Int × Int)} (h : IsText s es) : cutW s = es.map word := by
  rw [← h.2.2]; exact cut_words (isText_ne h) h.1
theorem word_inj {t t' : Int × Int} (hg : tokGood t ∧ -9223372036854775808 ≤ t.2 ∧ t.2 ≤ 9223372036854775807) (hg' : tokGood t' ∧ -9223372036854775808 ≤ t'.2 ∧ t'.2 ≤ 9223372036854775807) (h : word t = word t') : t = t' := by
  obtain ⟨a, b⟩ := t
  obtain ⟨c, d⟩ := t'
  simp only at hg hg'
  obtain ⟨g1, i1⟩ := hg
  obtain ⟨g2, i2⟩ := hg'
  unfold tokGood at g1 g2
  simp only at g1 g2
  unfold word at h
  simp only at h
  by_cases ha : a = 0
  · rw [if_pos ha] at h
    by_cases hc : c = 0
    · rw [if_pos hc] at h
      have e1 := atoi_decS i1.1 i1.2
      rw [h, atoi_decS i2.1 i2.2] at e1
      injection e1 with e1
      rw [ha, hc, e1]
    · rw [if_neg hc] at h
      exact absurd h (decS_sign b (by omega))
  · rw [if_neg ha] at h
    by_cases hc : c = 0
    · rw [if_pos hc] at h
      exact absurd h.symm (decS_sign d (by omega))
    · rw [if_neg hc] at h
      have := sign_apart a.toNat (by omega) c.toNat (by omega) h
      have e1 : a = c := by omega
      have e2 : b = d := by omega
      rw [e1, e2]
theorem words_inj : ∀ {es es' : List (Int × Int)}, Goods es → Goods es' → es.map word = es'.map word → es = es'
  | [], [], _, _, _ => rfl
  | [], _ :: _, _, _, h => by simp at h
  | _ :: _, [], _, _, h => by simp at h
  | t :: es, t' :: es', hg, hg', h => by
    simp only [List.map_cons, List.cons.injEq] at h
    rw [word_inj (hg t (by simp)) (hg' t' (by simp)) h.1, words_inj (fun x hx => hg x (by simp [hx])) (fun x hx => hg' x (by simp [hx])) h.2]
end Go.Proofs.YtmkfmohahfaemaaDoor
