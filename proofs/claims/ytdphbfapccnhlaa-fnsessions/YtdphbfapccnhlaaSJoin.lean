/-
  SessJoin, the program's and the model's: what they return.
-/
import Derived.Test.YtdphbfapccnhlaaSAddS
import Derived.Lib.SliceRun
namespace Go.Proofs.Ytdphbfapccnhlaa
open Go.RowKit

open Classical in
/-- one session more, if it can be added -/
noncomputable def joinStep (q : Option (List Wn)) (x : Wn) : Option (List Wn) := q.bind fun ws => if addOk ws x then some (addAll ws x) else none
noncomputable def joinTo (xs bs : List Wn) (k : Nat) : Option (List Wn) := (bs.take k).foldl joinStep (some xs)
def joinOk (xs bs : List Wn) : Prop := sessOk xs ∧ sessOk bs ∧ (joinTo xs bs bs.length).isSome
open Classical in
noncomputable def sessJoin (xs bs : List Wn) : List Wn := if joinOk xs bs then (joinTo xs bs bs.length).getD [] else []
theorem joinTo_zero (xs bs : List Wn) : joinTo xs bs 0 = some xs := by simp [joinTo]
theorem joinTo_succ {xs bs : List Wn} {k : Nat} (h : k < bs.length) : joinTo xs bs (k + 1) = joinStep (joinTo xs bs k) (wat bs k) := by
  unfold joinTo
  rw [List.take_succ_eq_append_getElem h, List.foldl_append]
  simp [wat, h]
theorem joinTo_yes {xs bs ws : List Wn} {k : Nat} (h : k < bs.length) (hk : joinTo xs bs k = some ws) (ha : addOk ws (wat bs k)) : joinTo xs bs (k + 1) = some (addAll ws (wat bs k)) := by
  rw [joinTo_succ h, hk]; simp [joinStep, ha]
theorem foldl_none : ∀ (l : List Wn), l.foldl joinStep none = none
  | [] => rfl
  | _ :: l => by rw [List.foldl_cons]; exact foldl_none l
theorem joinTo_no {xs bs ws : List Wn} {k : Nat} (h : k < bs.length) (hk : joinTo xs bs k = some ws) (ha : ¬ addOk ws (wat bs k)) : ¬ joinOk xs bs := by
  rintro ⟨_, _, hs⟩
  have h1 : joinTo xs bs (k + 1) = none := by rw [joinTo_succ h, hk]; simp [joinStep, ha]
  have h2 : joinTo xs bs bs.length = none := by
    unfold joinTo at h1 ⊢
    rw [List.take_length]
    rw [← List.take_append_drop (k + 1) bs, List.foldl_append, h1]
    exact foldl_none _
  rw [h2] at hs
  cases hs
theorem sessJoin_yes {xs bs ws : List Wn} (h1 : sessOk xs) (h2 : sessOk bs) (h : joinTo xs bs bs.length = some ws) : joinOk xs bs ∧ sessJoin xs bs = ws := by
  have hk : joinOk xs bs := ⟨h1, h2, by rw [h]; rfl⟩
  refine ⟨hk, ?_⟩
  unfold sessJoin
  rw [if_pos hk, h]; rfl
theorem sessJoin_no {xs bs : List Wn} (h : ¬ joinOk xs bs) : sessJoin xs bs = [] := by unfold sessJoin; rw [if_neg h]
theorem joinTo_len {xs bs : List Wn} (ha : xs.length ≤ 300) : ∀ {k : Nat} {ws : List Wn}, k ≤ bs.length → joinTo xs bs k = some ws → ws.length ≤ 300
  | 0, ws, _, h => by rw [joinTo_zero] at h; cases h; exact ha
  | k + 1, ws, hk, h => by
    rw [joinTo_succ (by omega)] at h
    cases hq : joinTo xs bs k with
    | none => rw [hq] at h; simp [joinStep] at h
    | some vs =>
      rw [hq] at h
      by_cases hx : addOk vs (wat bs k)
      · simp [joinStep, hx] at h; rw [← h]; exact hx.2.2
      · simp [joinStep, hx] at h
theorem sessJoin_len (xs bs : List Wn) : (sessJoin xs bs).length ≤ 300 := by
  by_cases h : joinOk xs bs
  · obtain ⟨ws, hw⟩ := Option.isSome_iff_exists.1 h.2.2
    rw [(sessJoin_yes h.1 h.2.1 hw).2]
    exact joinTo_len h.1.1 (Nat.le_refl _) hw
  · rw [sessJoin_no h]; simp

set_option maxHeartbeats 1000000 in
theorem cloneWin_any (A : Option Addr) (n c : Nat) (ws : List Wn) (w : World) (hR : Rd w A (ez ws)) (hz : ws.length = n) (hn : n ≤ 1048576) (hf : SFit A n c) :
    Calls Try.prog 54 #[.slice A n c] w fun e w' => ∃ A' c', e = .returned (.slice A' n c') ∧ w'.ownsRow w.heap.size 32 2 (.slice A' n c') n (ez ws) ∧ Below w.heap.size w w' := by
  have q : ∀ (w : World) (a : Option Addr) (n c n' c' : Nat), (binOp .eql 28 (.slice a n c) (.slice none n' c')).run Try.prog w = .ok (.bool a.isNone) w := fun w a n c n' c' => Lib.run_eql_slice_nil w _ _ a n c n' c' Try.underlying28
  have HR := Lib.hid (hR.below (below_alloc w (.cells #[] 32)))
  have HE := Lib.hid (owns_empty (size := 2) (Own.new w 32 []) (Nat.le_refl w.heap.size))
  have HL := Lib.hid (show (ez ws).length = n * 2 by rw [ez_length, hz])
  have HN : Hid (0 + n ≤ 2097152) := Lib.hid (by omega)
  have HF := Lib.hid hf
  cases A with
  | none =>
    have hc : c = 0 := hf.2 rfl
    obtain rfl : n = 0 := by have := hf.1; omega
    subst hc
    obtain rfl : ws = [] := List.eq_nil_of_length_eq_zero hz
    clear hR hf
    go_enter Try.func54, Try.ntmps54
    go_wp2
    go_ret
    exact ⟨none, 0, rfl, ⟨rfl, .inl ⟨rfl, rfl⟩⟩, Below.refl _ _⟩
  | some ad =>
    clear hR hf
    go_enter Try.func54, Try.ntmps54
    go_wp2_with (at_builtin; refine appWin.rd rfl _ (.tmp 6) rfl w.heap.size (.slice (some ⟨w.heap.size, 0, none⟩) 0 0) 0 [] rfl HE.out (some ad) n c (ez ws) rfl HR.out HF.out HL.out (ez_one _) HN (by simp) ?_)
    intro A' c' w1 hown hgrow hb1

    have hb := (below_alloc w (.cells #[] 32)).trans hb1
    go_wp2
    go_ret
    exact ⟨A', c', rfl, hown, hb⟩

set_option maxRecDepth 100000 in
set_option maxHeartbeats 2000000 in
theorem implSessJoin_any (A : Option Addr) (n ca : Nat) (xs : List Wn) (B : Option Addr) (m cb : Nat) (bs : List Wn) (w : World) (hA : Rd w A (ez xs)) (hz : xs.length = n) (hn : n ≤ 1048576) (hf : SFit A n ca) (hB : Rd w B (ez bs)) (hy : bs.length = m) (hm : m ≤ 1048576) :
    Calls Try.prog 22 #[.slice A n ca, .slice B m cb] w (WbRes (sessJoin xs bs) (tf (joinOk xs bs)) w) := by
  have HA := Lib.hid (fun W (h : Below w.heap.size w W) => hA.below h)
  have HB := Lib.hid (fun W (h : Below w.heap.size w W) => hB.below h)
  have HR := Lib.hid hB
  have HZ := Lib.hid hz
  have HY := Lib.hid hy
  have HF := Lib.hid hf
  have HN2 : Hid (n ≤ 2097152) := Lib.hid (by omega)
  have HM2 : Hid (m ≤ 2097152) := Lib.hid (by omega)
  clear hA hz hf hB hy
  go_enter Try.func22, Try.ntmps22
  go_wp2_with fail
  by_cases hs : sessOk xs
  · refine (as_bool (tf_yes hs).symm (implSessOk_any A n ca xs _ (HA.out _ (Below.refl _ _)) HZ.out HN2.out)).mono ?_
    have HS := Lib.hid hs
    clear hs
    rintro e w1 ⟨rfl, hb⟩
    by_cases hx : sessOk bs
    · go_wp2_with fail
      refine (as_bool (tf_yes hx).symm (implSessOk_any B m cb bs _ (HB.out _ hb) HY.out HM2.out)).mono ?_
      have HX := Lib.hid hx
      clear hx
      rintro e w2 ⟨rfl, hb2⟩
      replace hb := below_trans hb hb2
      clear hb2
      go_wp2_with fail
      refine (cloneWin_any A n ca xs _ (HA.out _ hb) HZ.out hn HF.out).mono ?_
      rintro e w3 ⟨A3, c3, rfl, hrow3, hb3⟩
      have hrow3' := owns_base hrow3 hb.size
      replace hb := below_trans hb hb3
      clear hb3 hrow3
      go_wp2
      go_loopw [6, 23] (fun s6 s23 wr => ∃ k cur A6 c6, k ≤ m ∧ s23 = .int .i64 (k : Int) ∧ s6 = .slice A6 cur.length c6 ∧ Hid (joinTo xs bs k = some cur) ∧ wr.ownsRow w.heap.size 32 2 (.slice A6 cur.length c6) cur.length (ez cur) ∧ Below w.heap.size w wr) (fun _ s23 _ => m - (intOf s23).toNat)
      case atStart => exact ⟨0, xs, A3, c3, Nat.zero_le _, rfl, by rw [HZ.out], Lib.hid (joinTo_zero _ _), by rw [HZ.out]; exact hrow3', hb⟩
      case round =>
        obtain ⟨k, cur, A6, c6, hk, rfl, rfl, HT, hrow, hbel⟩ := hrel
        clear hb hrow3'
        have HLEN := Lib.hid (joinTo_len HS.out.1 (by rw [HY.out]; exact hk) HT.out)
        by_cases hlt : k < m
        · have hlm : k < bs.length := by rw [HY.out]; exact hlt
          obtain ⟨bb, off, rfl, c0, c1⟩ := win_cells HR.out hbel hlm
          replace c0 := c0 ⟨wr, Below.refl _ _⟩
          replace c1 := c1 ⟨wr, Below.refl _ _⟩
          simp only at c0 c1
          have HNY := Lib.hid (joinTo_yes hlm HT.out)
          have HNN := Lib.hid (joinTo_no hlm HT.out)
          generalize wat bs k = q at *
          obtain ⟨s0, s1⟩ := q
          obtain ⟨k0, k1⟩ := (Own.new wr 32 [.int .i64 s0, .int .i64 s1]).two
          have hcl : cur.length ≤ 1048576 := by have := HLEN.out; omega
          have HC := Lib.hid (implSessAdd_any A6 cur.length c6 cur s0 s1 (wr.alloc (.cells #[.int .i64 s0, .int .i64 s1] 32)) (RowAt.reads (RowAt.of (hrow.alloc _))) rfl hcl (owns_fit hrow))
          have hbel' := below_trans hbel (below_alloc wr (.cells #[.int .i64 s0, .int .i64 s1] 32))
          by_cases hq : addOk cur (s0, s1)
          · go_wp2_with fail
            refine HC.out.mono ?_
            have HQ := Lib.hid (HNY.out hq)
            have HT1 := Lib.hid (tf_yes hq).symm
            have HE := Lib.hid (sessAdd_yes hq)
            clear hq HC
            rintro e w4 ⟨A4, c4, rfl, hrow4, hb4⟩
            rw [HT1.out]
            rw [HE.out] at hrow4 ⊢
            have hb5 := below_trans hbel' hb4
            have hrow5 : w4.ownsRow w.heap.size 32 2 (.slice A4 (addAll cur (s0, s1)).length c4) (addAll cur (s0, s1)).length (ez (addAll cur (s0, s1))) := owns_base hrow4.1 hbel'.size
            clear hrow4 hb4
            go_wp2
            go_roundw
            case rel => exact ⟨k + 1, addAll cur (s0, s1), A4, c4, by omega, by go_num, rfl, HQ, hrow5, hb5⟩
            case measure => simp [intOf]; omega
          · go_wp2_with fail
            refine HC.out.mono ?_
            have HQ := Lib.hid (HNN.out hq)
            have HT1 := Lib.hid (tf_no hq).symm
            clear hq HC
            rintro e w4 ⟨A4, c4, rfl, hrow4, hb4⟩
            rw [HT1.out]
            have hb5 := below_trans hbel' hb4
            clear hrow4 hb4
            go_wp2
            go_ret2
            exact wb_no (sessJoin_no HQ.out) HQ.out hb5
        · have HQ := Lib.hid (sessJoin_yes HS.out HX.out (by have h := HT.out; rw [show k = bs.length by rw [HY.out]; omega] at h; exact h))
          go_wp2
          go_ret2
          exact wb_yes HQ.out.2 HQ.out.1 rfl ⟨hrow, fun k hk => (hrow.lt k hk).2⟩ hbel
    · go_wp2_with fail
      refine (as_bool (tf_no hx).symm (implSessOk_any B m cb bs _ (HB.out _ hb) HY.out HM2.out)).mono ?_
      have HQ := Lib.hid (show ¬ joinOk xs bs from fun h => hx h.2.1)
      clear hx
      rintro e w2 ⟨rfl, hb2⟩
      go_wp2
      go_ret2
      exact wb_no (sessJoin_no HQ.out) HQ.out (below_trans hb hb2)
  · refine (as_bool (tf_no hs).symm (implSessOk_any A n ca xs _ (HA.out _ (Below.refl _ _)) HZ.out HN2.out)).mono ?_
    have HQ := Lib.hid (show ¬ joinOk xs bs from fun h => hs h.1)
    clear hs
    rintro e w1 ⟨rfl, hb1⟩
    go_wp2
    go_ret2
    exact wb_no (sessJoin_no HQ.out) HQ.out hb1

set_option maxRecDepth 100000 in
set_option maxHeartbeats 2000000 in
theorem specSessJoin_any (A : Option Addr) (n ca : Nat) (xs : List Wn) (B : Option Addr) (m cb : Nat) (bs : List Wn) (w : World) (hA : Rd w A (ez xs)) (hz : xs.length = n) (hn : n ≤ 1048576) (hf : SFit A n ca) (hB : Rd w B (ez bs)) (hy : bs.length = m) (hm : m ≤ 1048576) :
    Calls Try.prog 38 #[.slice A n ca, .slice B m cb] w (WbRes (sessJoin xs bs) (tf (joinOk xs bs)) w) := by
  have HA := Lib.hid (fun W (h : Below w.heap.size w W) => hA.below h)
  have HB := Lib.hid (fun W (h : Below w.heap.size w W) => hB.below h)
  have HR := Lib.hid hB
  have HZ := Lib.hid hz
  have HY := Lib.hid hy
  have HF := Lib.hid hf
  have HN2 : Hid (n ≤ 2097152) := Lib.hid (by omega)
  have HM2 : Hid (m ≤ 2097152) := Lib.hid (by omega)
  clear hA hz hf hB hy
  go_enter Try.func38, Try.ntmps38
  go_wp2_with fail
  by_cases hs : sessOk xs
  · refine (as_bool (tf_yes hs).symm (specSessOk_any A n ca xs _ (HA.out _ (Below.refl _ _)) HZ.out HN2.out)).mono ?_
    have HS := Lib.hid hs
    clear hs
    rintro e w1 ⟨rfl, hb⟩
    by_cases hx : sessOk bs
    · go_wp2_with fail
      refine (as_bool (tf_yes hx).symm (specSessOk_any B m cb bs _ (HB.out _ hb) HY.out HM2.out)).mono ?_
      have HX := Lib.hid hx
      clear hx
      rintro e w2 ⟨rfl, hb2⟩
      replace hb := below_trans hb hb2
      clear hb2
      have HE := Lib.hid (owns_empty (size := 2) (base := w.heap.size) (Own.new w2 32 []) hb.size)
      have HL := Lib.hid (show (ez xs).length = n * 2 by rw [ez_length, HZ.out])
      have HN : Hid (0 + n ≤ 2097152) := Lib.hid (by omega)
      have HR2 := Lib.hid (HA.out _ (below_trans hb (below_alloc w2 (.cells #[] 32))))
      have hsz := hb.size
      go_wp2_with (at_builtin; refine appWin.rd rfl _ (.tmp 19) rfl w.heap.size (.slice (some ⟨w2.heap.size, 0, none⟩) 0 0) 0 [] rfl HE.out A n ca (ez xs) rfl HR2.out HF.out HL.out (ez_one _) HN (by simp; omega) ?_)
      intro A3 c3 w3 hown hgrow hb1
      have hrow3' := hown

      replace hb := below_trans' (below_trans hb (below_alloc w2 (.cells #[] 32))) hb1
      clear hown hgrow hb1 hsz
      go_wp2
      go_loopw [6, 7] (fun s6 s23 wr => ∃ k cur A6 c6, k ≤ m ∧ s23 = .int .i64 (k : Int) ∧ s6 = .slice A6 cur.length c6 ∧ Hid (joinTo xs bs k = some cur) ∧ wr.ownsRow w.heap.size 32 2 (.slice A6 cur.length c6) cur.length (ez cur) ∧ Below w.heap.size w wr) (fun _ s23 _ => m - (intOf s23).toNat)
      case atStart => exact ⟨0, xs, A3, c3, Nat.zero_le _, rfl, by rw [HZ.out], Lib.hid (joinTo_zero _ _), by rw [HZ.out]; exact hrow3', hb⟩
      case round =>
        obtain ⟨k, cur, A6, c6, hk, rfl, rfl, HT, hrow, hbel⟩ := hrel
        clear hb hrow3'
        have HLEN := Lib.hid (joinTo_len HS.out.1 (by rw [HY.out]; exact hk) HT.out)
        by_cases hlt : k < m
        · have hlm : k < bs.length := by rw [HY.out]; exact hlt
          obtain ⟨bb, off, rfl, c0, c1⟩ := win_cells HR.out hbel hlm
          replace c0 := c0 ⟨wr, Below.refl _ _⟩
          replace c1 := c1 ⟨wr, Below.refl _ _⟩
          simp only at c0 c1
          have HNY := Lib.hid (joinTo_yes hlm HT.out)
          have HNN := Lib.hid (joinTo_no hlm HT.out)
          generalize wat bs k = q at *
          obtain ⟨s0, s1⟩ := q
          have hcl : cur.length ≤ 1048576 := by have := HLEN.out; omega
          have HC := Lib.hid (specSessAdd_any A6 cur.length c6 cur s0 s1 wr (RowAt.reads (RowAt.of hrow)) rfl hcl)
          have hbel' := hbel
          by_cases hq : addOk cur (s0, s1)
          · go_wp2_with fail
            refine HC.out.mono ?_
            have HQ := Lib.hid (HNY.out hq)
            have HT1 := Lib.hid (tf_yes hq).symm
            have HE := Lib.hid (sessAdd_yes hq)
            clear hq HC
            rintro e w4 ⟨A4, c4, rfl, hrow4, hb4⟩
            rw [HT1.out]
            rw [HE.out] at hrow4 ⊢
            have hb5 := below_trans hbel' hb4
            have hrow5 : w4.ownsRow w.heap.size 32 2 (.slice A4 (addAll cur (s0, s1)).length c4) (addAll cur (s0, s1)).length (ez (addAll cur (s0, s1))) := owns_base hrow4.1 hbel'.size
            clear hrow4 hb4
            go_wp2
            go_roundw
            case rel => exact ⟨k + 1, addAll cur (s0, s1), A4, c4, by omega, by go_num, rfl, HQ, hrow5, hb5⟩
            case measure => simp [intOf]; omega
          · go_wp2_with fail
            refine HC.out.mono ?_
            have HQ := Lib.hid (HNN.out hq)
            have HT1 := Lib.hid (tf_no hq).symm
            clear hq HC
            rintro e w4 ⟨A4, c4, rfl, hrow4, hb4⟩
            rw [HT1.out]
            have hb5 := below_trans hbel' hb4
            clear hrow4 hb4
            go_wp2
            go_ret2
            exact wb_no (sessJoin_no HQ.out) HQ.out hb5
        · have HQ := Lib.hid (sessJoin_yes HS.out HX.out (by have h := HT.out; rw [show k = bs.length by rw [HY.out]; omega] at h; exact h))
          go_wp2
          go_ret2
          exact wb_yes HQ.out.2 HQ.out.1 rfl ⟨hrow, fun k hk => (hrow.lt k hk).2⟩ hbel
    · go_wp2_with fail
      refine (as_bool (tf_no hx).symm (specSessOk_any B m cb bs _ (HB.out _ hb) HY.out HM2.out)).mono ?_
      have HQ := Lib.hid (show ¬ joinOk xs bs from fun h => hx h.2.1)
      clear hx
      rintro e w2 ⟨rfl, hb2⟩
      go_wp2
      go_ret2
      exact wb_no (sessJoin_no HQ.out) HQ.out (below_trans hb hb2)
  · refine (as_bool (tf_no hs).symm (specSessOk_any A n ca xs _ (HA.out _ (Below.refl _ _)) HZ.out HN2.out)).mono ?_
    have HQ := Lib.hid (show ¬ joinOk xs bs from fun h => hs h.1)
    clear hs
    rintro e w1 ⟨rfl, hb1⟩
    go_wp2
    go_ret2
    exact wb_no (sessJoin_no HQ.out) HQ.out hb1
end Go.Proofs.Ytdphbfapccnhlaa
