/-
  PolicyFor, the program's: what it returns.
-/
import Derived.Test.YtipcjofmplpffaaPlaceMap
import Derived.Test.YtipcjofmplpffaaLatEnds
namespace Go.Proofs.Ytipcjofmplpffaa
open Go.RowKit Go.WideMaps Go.Maps

def askF (N : Int) (xs : List Nat) (ps : List Pn) (s k : Int) : Prop := okL N xs ps ∧ (0 ≤ s ∧ s < 4) ∧ (0 ≤ k ∧ k ≤ 15)
noncomputable def forV (N : Int) (xs : List Nat) (ps : List Pn) (s k : Int) : Int := if tf (askF N xs ps s k) = true then forP ps s k (endOf xs true) else -1
theorem forV_no {N : Int} {xs : List Nat} {ps : List Pn} {s k : Int} (h : ¬ askF N xs ps s k) : -1 = forV N xs ps s k := by unfold forV; rw [← tf_no h]; rfl
theorem forV_yes {N : Int} {xs : List Nat} {ps : List Pn} {s k : Int} (h : askF N xs ps s k) : forP ps s k (endOf xs true) = forV N xs ps s k := by unfold forV; rw [← tf_yes h]; rfl

theorem zero_int (w : World) : (zeroValue 3).run Try.prog w = .ok (.int .i64 0) w := by kernel_rfl

/-- an entry at the place that is asked for matches -/
theorem has_of_place {q : Pn} {s k b : Int} (hr : rightP q) (hk : 0 ≤ k ∧ k ≤ 15) (e : plc q = (s, b, cutK k b)) : hasP q s k ∧ q.2.1 = b := by
  simp only [plc, Prod.mk.injEq] at e
  obtain ⟨e1, e2, e3⟩ := e
  refine ⟨⟨hr.1, e1, hk, ?_⟩, e2⟩
  rw [e2]
  refine cutK_same.1 ?_
  have := hr.2
  rw [e2] at this
  rw [cutK_self.2 this, e3]
theorem place_of_has {q : Pn} {s k : Int} (hr : rightP q) (h : hasP q s k) : plc q = (s, q.2.1, cutK k q.2.1) := by
  simp only [plc, Prod.mk.injEq]
  refine ⟨h.2.1, trivial, ?_⟩
  rw [cutK_same.2 h.2.2.2, cutK_self.2 hr.2]
/-- nothing that matches has more bits -/
def noneAbove (ps : List Pn) (s k b : Int) : Prop := ∀ q ∈ ps, hasP q s k → q.2.1 ≤ b
theorem none_next {ps : List Pn} {s k b : Int} (hr : ∀ q ∈ ps, rightP q) (h : noneAbove ps s k b) (hn : ∀ q ∈ ps, plc q ≠ (s, b, cutK k b)) : noneAbove ps s k (b - 1) := fun q hq hh => by
  have h1 := h q hq hh
  by_cases e : q.2.1 = b
  · exact absurd (e ▸ place_of_has (hr q hq) hh) (hn q hq)
  · omega
theorem cut_range {k b : Int} (h0 : 0 ≤ k) : 0 ≤ cutK k b ∧ cutK k b ≤ k := by
  have hp := pw_range (4 - b)
  have h1 := Int.mul_ediv_add_emod k (pw (4 - b))
  have h2 := Int.emod_nonneg k (b := pw (4 - b)) (by omega)
  have h3 : 0 ≤ k / pw (4 - b) := Int.ediv_nonneg h0 (by omega)
  unfold cutK
  rw [Int.mul_comm] at h1
  exact ⟨Int.mul_nonneg h3 (by omega), by omega⟩

set_option maxRecDepth 100000 in
set_option maxHeartbeats 1000000 in
theorem implPolicyFor_any (N : Int) (A : Option Addr) (ca : Nat) (xs : List Nat) (B : Option Addr) (cb : Nat) (ps : List Pn) (s k : Int) (w : World) (hA : Rd w A (us xs)) (hu : U64 xs) (hn : xs.length ≤ 1048576) (hB : Rd w B (iz (qz ps))) (hm : ps.length ≤ 1048588) :
    Calls Try.prog 17 #[.agg #[.int .i64 N, .slice A xs.length ca], .slice B ps.length cb, .int .i64 s, .int .i64 k] w fun e w' => e = .returned (.int .i64 (forV N xs ps s k)) ∧ Below w.heap.size w w' := by
  have HA := Lib.hid (fun W (h : Below w.heap.size w W) => hA.below h)
  have HB := Lib.hid (fun W (h : Below w.heap.size w W) => hB.below h)
  clear hA hB
  go_enter Try.func17, Try.ntmps17
  go_wp2_with fail
  by_cases hL : okL N xs ps
  · refine (as_bool (tf_yes hL).symm (implPolicyOk_any N A ca xs B cb ps _ (HA.out _ (below_alloc _ _)) hu hn (HB.out _ (below_alloc _ _)) hm)).mono ?_
    have HL := Lib.hid hL
    clear hL
    rintro e w1 ⟨rfl, hb1⟩
    obtain ⟨ho, hb⟩ := box_own hb1
    clear hb1
    go_wp2_with fail
    by_cases hs : 0 ≤ s ∧ s < 4
    · refine (isSource_is (decide_eq_true hs) _).mono ?_
      rintro e _ ⟨rfl, rfl⟩
      go_wp2_with fail
      by_cases hk : 0 ≤ k ∧ k ≤ 15
      · refine (isKey_is (decide_eq_true hk) _).mono ?_
        rintro e _ ⟨rfl, rfl⟩
        go_wp2_with fail
        have hN := HL.out.1.len
        refine (labelsByPlace_any B cb ps _ (HB.out _ hb) hm (fun p hp => good_wf (by omega) (HL.out.2.2.1 p hp)) (ok_one HL.out.2)).mono ?_
        rintro e w2 ⟨g, n, D, rfl, hg, hnn, hown, htie, hb2⟩
        replace ho := ho.grow hb2
        replace hb := below_trans hb hb2
        clear hb2 hg hnn hN
        have HT := Lib.hid htie
        clear htie
        go_wp2
        go_loop [10] (fun i => ∃ b : Int, -1 ≤ b ∧ b ≤ 4 ∧ i = .int .i64 b ∧ noneAbove ps s k b) (fun i => (intOf i + 1).toNat)
        case atStart => exact ⟨4, by omega, by omega, rfl, fun q hq hh => hh.1.2.2.2.1⟩
        case round =>
          obtain ⟨b, hb0, hb4, rfl, hno⟩ := hrel
          by_cases hlt : 0 ≤ b
          · have hc := cut_range (b := b) hk.1
            have hw : wfPl (s, b, cutK k b) := ⟨small_wf (z := s) hs.1 (by omega), small_wf (z := b) hlt (by omega), small_wf (z := cutK k b) hc.1 (by omega)⟩
            have HK := Lib.hid (keyOf_place hw)
            have HC := Lib.hid (fun W => keyPrefix_any k b W hk.1 hk.2 hlt hb4)
            rcases HT.out.look hw with ⟨hh, q, hq, e, hv⟩ | ⟨hh, hne⟩
            · have HQ := Lib.hid (has_of_place (HL.out.2.2.1 q hq).2 hk e)
              have HF := Lib.hid (show q.2.2.2 = forV N xs ps s k by
                rw [← forV_yes ⟨HL.out, hs, hk⟩]
                exact (forP_max HL.out.2 hq HQ.out.1 (fun r hr hrh => by rw [HQ.out.2]; exact hno r hr hrh)).symm)
              have HV := Lib.hid hv
              clear hv e hno HQ
              generalize cutK k b = c at *
              go_wp2_with (first | (go_at_call 54; refine (HC.out _).mono ?_; rintro e w' ⟨rfl, rfl⟩) | (at_lookup; refine wpList_lookup_own_ok_int _ rfl _ _ 67 rfl 70 3 .i64 placeLaw Try.underlying67 Try.underlying3 (zero_int _) g n D rfl hown _ _ rfl HK.out ?_; intro l hat hwl))
              go_ret
              refine ⟨ret_int ?_, hb⟩
              rw [← HF.out]
              have := (HV.out (.lit (.int .i64 0))).symm.trans hat
              simpa using this.symm
            · have HS := Lib.hid (none_next (fun q hq => (HL.out.2.2.1 q hq).2) hno hne)
              clear hne hno
              generalize cutK k b = c at *
              go_wp2_with (first | (go_at_call 54; refine (HC.out _).mono ?_; rintro e w' ⟨rfl, rfl⟩) | (at_lookup; refine wpList_lookup_own_ok_int _ rfl _ _ 67 rfl 70 3 .i64 placeLaw Try.underlying67 Try.underlying3 (zero_int _) g n D rfl hown _ _ rfl HK.out ?_; intro l hat hwl))
              go_round
              case rel => exact ⟨b - 1, by omega, by omega, by go_num, HS.out⟩
              case measure => simp [intOf]; omega
          · have HF := Lib.hid (show endV N xs true = forV N xs ps s k by
              rw [← forV_yes ⟨HL.out, hs, hk⟩, endV_yes HL.out.1]
              exact (forP_none (fun q hq hh => by have := hno q hq hh; have := hh.1.2.2.1; omega)).symm)
            clear hno
            obtain ⟨c0, c1⟩ := ho.two
            go_wp2_with fail
            clear c0 c1
            refine (implLatEnds_any N A ca xs _ (HA.out _ hb) hu hn).mono ?_
            rintro e w3 ⟨rfl, hb3⟩
            go_wp2
            go_ret
            exact ⟨ret_int HF.out, below_trans hb hb3⟩
      · refine (isKey_is (decide_eq_false hk) _).mono ?_
        rintro e _ ⟨rfl, rfl⟩
        go_wp2
        go_ret
        exact ⟨ret_int (forV_no (fun h => hk h.2.2)), hb⟩
    · refine (isSource_is (decide_eq_false hs) _).mono ?_
      rintro e _ ⟨rfl, rfl⟩
      go_wp2
      go_ret
      exact ⟨ret_int (forV_no (fun h => hs h.2.1)), hb⟩
  · refine (as_bool (tf_no hL).symm (implPolicyOk_any N A ca xs B cb ps _ (HA.out _ (below_alloc _ _)) hu hn (HB.out _ (below_alloc _ _)) hm)).mono ?_
    have HL := Lib.hid hL
    clear hL
    rintro e w1 ⟨rfl, hb1⟩
    go_wp2
    go_ret
    exact ⟨ret_int (forV_no (fun h => HL.out h.1)), (box_own hb1).2⟩
end Go.Proofs.Ytipcjofmplpffaa
