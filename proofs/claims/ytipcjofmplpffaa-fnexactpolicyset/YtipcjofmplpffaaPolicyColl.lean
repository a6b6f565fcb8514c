/-
  sortedPolicy: what it returns.
-/
import Derived.Test.YtipcjofmplpffaaPolicySort
import Derived.Test.YtipcjofmplpffaaPlaceMap
import Derived.Test.YtipcjofmplpffaaPolicyWo
import Derived.Sort.OwnSorted
namespace Go.Proofs.Ytipcjofmplpffaa
open Go.RowKit Go.WideMaps Go.Maps

/-- The entries met so far in a range over D. -/
structure Coll (D : DataW Unit) (left : Lit → Bool) (ss : List Pn) : Prop where
  sound : ∀ p ∈ ss, wfPl (plc p) ∧ left (kp (plc p)) = false ∧ ∀ z, D.atKey (kp (plc p)) z = .lit (.int .i64 p.2.2.2)
  full : ∀ k, Maps.has D k = true → left k = false → ∃ p ∈ ss, kp (plc p) = k
  one : ss.Pairwise (fun a b => ¬ sameP a b)

theorem Coll.start (D : DataW Unit) : Coll D (Maps.has D) [] := ⟨fun p hp => by simp at hp, fun k h1 h2 => absurd (h1.symm.trans h2) (by simp), List.Pairwise.nil⟩
theorem Coll.step {D : DataW Unit} {left : Lit → Bool} {ss : List Pn} (h : Coll D left ss) {x : Pl} {c : Int} (hw : wfPl x) (hl : left (kp x) = true) (hat : ∀ z, D.atKey (kp x) z = .lit (.int .i64 c)) :
    Coll D (fun z => left z && !z.sameKey (kp x)) (ss ++ [(x.1, x.2.1, x.2.2, c)]) := by
  refine ⟨fun p hp => ?_, fun k h1 h2 => ?_, ?_⟩
  · rcases List.mem_append.1 hp with hp | hp
    · obtain ⟨a, b, c⟩ := h.sound p hp
      exact ⟨a, by simp [b], c⟩
    · obtain rfl := List.mem_singleton.1 hp
      refine ⟨hw, ?_, hat⟩
      show (left (kp x) && !(kp x).sameKey (kp x)) = false
      rw [WideAt.sameKey_self (kp_key x)]
      simp
  · cases hk : left k with
    | false =>
      obtain ⟨p, hp, e⟩ := h.full k h1 hk
      exact ⟨p, List.mem_append.2 (.inl hp), e⟩
    | true =>
      rw [hk, Bool.true_and] at h2
      have := WideAt.sameKey_eq (by simpa using h2)
      subst this
      exact ⟨_, List.mem_append.2 (.inr (List.mem_singleton.2 rfl)), rfl⟩
  · refine List.pairwise_append.2 ⟨h.one, List.pairwise_singleton _ _, fun a ha b hb => ?_⟩
    obtain rfl := List.mem_singleton.1 hb
    intro hs
    obtain ⟨_, h2, _⟩ := h.sound a ha
    have : kp (plc a) = kp x := by unfold plc; rw [hs.1, hs.2.1, hs.2.2]
    rw [this, hl] at h2
    cases h2
theorem Coll.same {D : DataW Unit} {left : Lit → Bool} {ss qs : List Pn} (h : Coll D left ss) (ht : Tie D qs) (hl : ∀ k, left k = false) (q : Pn) : q ∈ ss ↔ q ∈ qs := by
  have eqs : ∀ p r : Pn, wfPl (plc p) → wfPl (plc r) → kp (plc p) = kp (plc r) → (∀ z, D.atKey (kp (plc p)) z = .lit (.int .i64 p.2.2.2)) → (∀ z, D.atKey (kp (plc r)) z = .lit (.int .i64 r.2.2.2)) → p = r := by
    intro p r wp wr e hp hr
    have h1 := kp_inj wp wr e
    have h2 : (DataW.lit (.int .i64 p.2.2.2) : DataW Unit) = .lit (.int .i64 r.2.2.2) := by rw [← hp (.lit (.int .i64 0)), ← hr (.lit (.int .i64 0)), e]
    simp only [plc, Prod.mk.injEq] at h1
    simp only [DataW.lit.injEq, Lit.int.injEq, true_and] at h2
    obtain ⟨a, b, c, d⟩ := p
    obtain ⟨a', b', c', d'⟩ := r
    simp_all
  constructor
  · intro hq
    obtain ⟨hw, _, hat⟩ := h.sound q hq
    obtain ⟨r, hr, e⟩ := (ht.keys _).1 (has_true_of_atKey hat)
    rw [eqs q r hw (ht.wf r hr) e.symm hat (ht.vals r hr)]
    exact hr
  · intro hq
    obtain ⟨p, hp, e⟩ := h.full _ ((ht.keys _).2 ⟨q, hq, rfl⟩) (hl _)
    obtain ⟨hw, _, hat⟩ := h.sound p hp
    rw [← eqs p q hw (ht.wf q hq) e hat (ht.vals q hq)]
    exact hp
theorem sorted_perm_less {ss ts : List Pn} (hp : ts.Perm ss) (h1 : ss.Pairwise (fun a b => ¬ sameP a b)) (h2 : ts.Pairwise (fun a b => ¬ lessP b a)) : ts.Pairwise lessP := by
  have h3 : ts.Pairwise (fun a b => ¬ sameP a b) := (hp.symm.pairwise_iff (fun {a b} h e => h (same_symm e))).1 h1
  exact (h2.and h3).imp fun {a b} h => less_of_not h.1 (fun e => h.2 (same_symm e))

set_option maxRecDepth 100000 in
set_option maxHeartbeats 2000000 in
theorem sortedPolicy_any (g n : Nat) (D : DataW Unit) (qs : List Pn) (w : World) (hown : ownsP w g n D) (htie : Tie D qs) (hn : n ≤ 1048588) :
    Calls Try.prog 47 #[.map (some g)] w fun e w' => ∃ v rs, e = .returned v ∧ rs.Pairwise lessP ∧ (∀ q, q ∈ rs ↔ q ∈ qs) ∧ w'.ownsRow w.heap.size 29 4 v rs.length (iz (qz rs)) ∧ Below w.heap.size w w' := by
  obtain ⟨i0, hi, hz0, hz1, hz2⟩ := info_parts info_Punct
  have hsl := hown.size_le
  have hgl := hown.lt
  go_enter Try.func47, Try.ntmps47
  go_wp2_with (first
    | (at_len; refine wpList_len_own _ rfl _ 67 rfl 70 3 Try.underlying67 _ g n D rfl hown ?_)
    | (at_make; refine wpList_make_own _ rfl _ _ 27 rfl w.heap.size 29 i0 (.agg #[.int .i64 0, .int .i64 0, .int .i64 0, .int .i64 0]) 4 Try.underlying27 hi hz0 hz1 _ _ _ (Maps.size D) rfl rfl rfl (by rw [hz2]; omega) (by unfold maxLen; omega) (Nat.le_refl _) ?_; intro w1 hrow1 hg1)
    | (at_range; refine wpList_range_own _ rfl _ 67 rfl 70 3 placeLaw Try.underlying67 _ g n D rfl (hown.kept hg1 (by simp)) ?_; intro w2 hrg0 hg0 hs0))
  go_frame
  go_loopw [3] (fun v wr => ∃ left cnt ss, wr.ranges Try.prog 70 (plainElem Try.prog 3) g w1.heap.size n D left cnt ∧ ss.length + cnt ≤ Maps.size D ∧
      wr.ownsRow w.heap.size 29 4 v ss.length (iz (qz ss)) ∧ v ≠ .slice none 0 0 ∧ Coll D left ss ∧ Below w.heap.size w wr)
    (fun _ wr => wr.rangeLeft g w1.heap.size)
  case atStart =>
    exact ⟨_, _, [], hrg0, by simp, hrow1.kept hg0 (Or.inr (by simp [Value.ownBlock])), by simp, Coll.start D,
      ((Below.refl _ _).grown hg1 (Nat.le_refl _) (fun j hj => by cases hj)).grown hg0 hg1.size (fun j hj => by cases hj)⟩
  case round =>
    obtain ⟨left, cnt, ss, hrg, hcs, hrow, hnn, hC, hnx⟩ := hrel
    have hg1s := hg1.size
    clear hrow1 hrg0 hg0 hs0
    go_wp2_with (first
      | (at_next; refine wpList_next_ranges _ rfl _ rfl 70 placeLaw (plainElem Try.prog 3) plV (Value.int .i64) (fun key kl hk => by obtain ⟨x, hx, _⟩ := keyOf_place_inv hk; exact ⟨x, hx⟩) (fun v y hv => by obtain ⟨c, rfl, _⟩ := plainElem_int_inv Try.underlying3 hv; exact ⟨c, rfl⟩) g w1.heap.size n _ _ _ rfl hrg ?_ ?_)
      | go_in)
    · intro hc0 hl0
      have HS := Lib.hid (sortPuncts_any _ w.heap.size ss wr hrow hnn (by omega))
      go_wp2_with (go_at_call 78; refine HS.out.mono ?_; rintro e w' ⟨rfl, ts, hp, hs, hrow', hg'⟩)
      go_ret
      refine ⟨_, ts, rfl, sorted_perm_less hp hC.one hs, fun q => ?_, by rw [hp.length_eq]; exact hrow', hnx.grown hg' hnx.size (fun j hj => (hrow.lt j hj).1)⟩
      rw [hp.mem_iff]
      exact hC.same htie hl0 q
    · intro a b d c kl yd yp w2 cnt2 hkey hlk hv hat hrg2 hlt hg2 hs2 hen
      obtain ⟨x', ex, hwx, rfl⟩ := keyOf_place_inv hkey
      obtain rfl : (a, b, d) = x' := by obtain ⟨a', b', c'⟩ := x'; simpa using ex
      obtain ⟨c', ec, ey, hwc⟩ := plainElem_int_inv Try.underlying3 hv
      obtain rfl : c = c' := by simpa using ec
      have HC := Lib.hid (hC.step hwx hlk (c := c) (fun z => by rw [hat z]; exact congrArg Prod.fst ey))
      have hrow2 := hrow.kept hg2 (Or.inr (row_ne_iter hrow hrg).symm)
      have hnx2 := hnx.grown hg2 hnx.size (fun j hj => by cases hj; exact hg1.size)
      have hws2 := hnx2.size
      clear hs2 hat hv ec ex hkey hlk ey hwx hwc hC
      go_wp2_with (first
        | (at_builtin; refine wpList_append_own _ rfl _ _ 27 rfl w.heap.size 29 i0 (.agg #[.int .i64 0, .int .i64 0, .int .i64 0, .int .i64 0]) 4 32 Try.underlying27 hi hz0 hz1 hz2 rfl (by decide) _ _ _ rfl ((hrow2.alloc _).alloc _) ⟨w2.heap.size + 1, 0, none⟩ 1 1 [.int .i64 a, .int .i64 b, .int .i64 d, .int .i64 c] rfl rfl ?c1 ?c2 ?c3 ?c4 ?c5 ?_)
        | go_in)
      case c2 => exact ⟨rfl, rfl, rfl, rfl⟩
      case c3 => unfold maxLen; omega
      case c4 => omega
      case c5 => omega
      intro v' w3 hown' hg3 hnil3
      have hrg3 := ((hrg2.alloc _).alloc _).kept hg3 (row_ne_low hrow2 hgl) (row_ne_iter hrow2 hrg2)
      have hnx3 := ((hnx2.alloc hws2 _).alloc (by simp; omega) _).grown hg3 (by simp; omega) (fun j hj => (hrow2.lt j hj).1)
      have hrow3 : w3.ownsRow w.heap.size 29 4 v' (ss ++ [(a, b, d, c)]).length (iz (qz (ss ++ [(a, b, d, c)]))) := by
        rw [qz_append, iz_append]; simpa [iz, qz, qf] using hown'
      have hnn3 : v' ≠ .slice none 0 0 := hnil3
      clear hg3 hown' hnil3 hen
      go_wp2
      go_roundw
      case rel => exact ⟨_, cnt2, _, hrg3, by simp; omega, hrow3, hnn3, HC.out, hnx3⟩
      case measure => rw [hrg3.left_eq, hrg.left_eq]; exact hlt
end Go.Proofs.Ytipcjofmplpffaa
