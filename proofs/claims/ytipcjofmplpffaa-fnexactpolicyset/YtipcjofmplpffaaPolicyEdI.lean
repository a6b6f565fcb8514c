/-
  PolicySet and PolicyDrop, the program's: what they return.
-/
import Derived.Test.YtipcjofmplpffaaPolicyColl
namespace Go.Proofs.Ytipcjofmplpffaa
open Go.RowKit Go.WideMaps Go.Maps

/-- a list of one's own, and a word -/
def PolRes (w : World) (rs : List Pn) (ok : Bool) (e : Ending) (w' : World) : Prop := ∃ v, e = .returned (.tuple #[v, .bool ok]) ∧ w'.ownsRow w.heap.size 29 4 v rs.length (iz (qz rs)) ∧ Below w.heap.size w w'

def setOk (N : Int) (xs : List Nat) (ps : List Pn) (p : Pn) : Prop := okL N xs ps ∧ goodP N p ∧ (without ps p).length ≠ 12
noncomputable def setV (N : Int) (xs : List Nat) (ps : List Pn) (p : Pn) : List Pn := if tf (setOk N xs ps p) = true then setP ps p else []
theorem setV_no {N : Int} {xs : List Nat} {ps : List Pn} {p : Pn} (h : ¬ setOk N xs ps p) : setV N xs ps p = [] := by unfold setV; rw [← tf_no h]; rfl
theorem setV_yes {N : Int} {xs : List Nat} {ps : List Pn} {p : Pn} (h : setOk N xs ps p) : setV N xs ps p = setP ps p := by unfold setV; rw [← tf_yes h]; rfl
def dropOk (N : Int) (xs : List Nat) (ps : List Pn) (p : Pn) : Prop := okL N xs ps ∧ (without ps p).length ≠ ps.length
noncomputable def dropV (N : Int) (xs : List Nat) (ps : List Pn) (p : Pn) : List Pn := if tf (dropOk N xs ps p) = true then without ps p else []
theorem dropV_no {N : Int} {xs : List Nat} {ps : List Pn} {p : Pn} (h : ¬ dropOk N xs ps p) : dropV N xs ps p = [] := by unfold dropV; rw [← tf_no h]; rfl
theorem dropV_yes {N : Int} {xs : List Nat} {ps : List Pn} {p : Pn} (h : dropOk N xs ps p) : dropV N xs ps p = without ps p := by unfold dropV; rw [← tf_yes h]; rfl
theorem without_same_length {ps : List Pn} {p : Pn} : (without ps p).length = ps.length ↔ ∀ q ∈ ps, ¬ sameP q p := by
  unfold without
  rw [List.length_filter_eq_length_iff]
  simp

theorem zero_intD (w : World) : (zeroValue 3).run Try.prog w = .ok (.int .i64 0) w := by kernel_rfl
theorem res_no {w w' : World} {rs : List Pn} {ok : Bool} (hr : rs = []) (ho : ok = false) (hb : Below w.heap.size w w') : PolRes w rs ok (.returned (.tuple #[.slice none 0 0, .bool false])) w' := by
  subst hr ho
  exact ⟨_, rfl, World.ownsRow_nil _ _ _ _, hb⟩
theorem ownsP_size {w : World} {g n : Nat} {D : DataW Unit} {qs : List Pn} (h : ownsP w g n D) (ht : Tie D qs) : Maps.size D = qs.length := by
  refine ht.size (h.tidy placeLaw) fun es e p hp => ?_
  obtain ⟨es', e', _, hk⟩ := h.entries placeLaw
  rw [e] at e'
  cases e'
  exact hk p hp

set_option maxRecDepth 100000 in
set_option maxHeartbeats 2000000 in
theorem implPolicySet_any (N : Int) (A : Option Addr) (ca : Nat) (xs : List Nat) (B : Option Addr) (cb : Nat) (ps : List Pn) (a b c d : Int) (w : World) (hA : Rd w A (us xs)) (hu : U64 xs) (hn : xs.length ≤ 1048576) (hB : Rd w B (iz (qz ps))) (hm : ps.length ≤ 1048588) :
    Calls Try.prog 14 #[.agg #[.int .i64 N, .slice A xs.length ca], .slice B ps.length cb, pv a b c d] w (PolRes w (setV N xs ps (a, b, c, d)) (tf (setOk N xs ps (a, b, c, d)))) := by
  have HA := Lib.hid (fun W (h : Below w.heap.size w W) => hA.below h)
  have HB := Lib.hid (fun W (h : Below w.heap.size w W) => hB.below h)
  clear hA hB
  go_enter Try.func14, Try.ntmps14
  go_wp2_with fail
  by_cases hL : okL N xs ps
  · refine (as_bool (tf_yes hL).symm (implPolicyOk_any N A ca xs B cb ps _ (HA.out _ (below_trans (below_alloc _ _) (below_alloc _ _))) hu hn (HB.out _ (below_trans (below_alloc _ _) (below_alloc _ _))) hm)).mono ?_
    have HL := Lib.hid hL
    clear hL
    rintro e w1 ⟨rfl, hb1⟩
    obtain ⟨ho, hp, hb⟩ := box_two hb1
    clear hb1
    obtain ⟨c0, c1⟩ := ho.two
    obtain ⟨d0, d1, d2, d3⟩ := hp.four
    go_wp2_with fail
    clear c0 c1 d0 d1 d2 d3
    by_cases hg : goodP N (a, b, c, d)
    · refine (as_bool (tf_yes ⟨HL.out.1, hg⟩).symm (implPunctOk_any N A ca xs a b c d _ (HA.out _ hb) hu hn)).mono ?_
      rintro e w2 ⟨rfl, hb2⟩
      replace hp := hp.grow hb2
      replace hb := below_trans hb hb2
      clear hb2 ho
      have hN := HL.out.1.len
      have hwf := good_wf (by omega) hg
      have HG := Lib.hid hg
      go_wp2_with fail
      refine (labelsByPlace_any B cb ps _ (HB.out _ hb) hm (fun p hp => good_wf (by omega) (HL.out.2.2.1 p hp)) (ok_one HL.out.2)).mono ?_
      rintro e w3 ⟨g, n, D, rfl, hgw, hnn, hown, htie, hb3⟩
      replace hp := hp.grow hb3
      have hgB : w.heap.size ≤ g := Nat.le_trans hb.size hgw
      have hbw := below_trans hb hb3
      have hb := hbw
      have hps := HL.out.2.1
      have HT := Lib.hid (htie.put hown.isMap hwf.1)
      have HK := Lib.hid (keyOf_place hwf.1)
      have HV := Lib.hid (plainElem_int (H := Unit) Try.underlying3 hwf.2)
      have HN := Lib.hid hown
      clear hown htie hb3 hgw hbw hwf hN hg
      have p0 : ∀ u : Bel w3, u.w.cell? ⟨w.heap.size + 1, 0, none⟩ = some (.int .i64 a) := fun u => (hp.grow u.ok).cell 0
      have p1 : ∀ u : Bel w3, u.w.cell? ⟨w.heap.size + 1, 1, none⟩ = some (.int .i64 b) := fun u => (hp.grow u.ok).cell 1
      have p2 : ∀ u : Bel w3, u.w.cell? ⟨w.heap.size + 1, 2, none⟩ = some (.int .i64 c) := fun u => (hp.grow u.ok).cell 2
      have p3 : ∀ u : Bel w3, u.w.cell? ⟨w.heap.size + 1, 3, none⟩ = some (.int .i64 d) := fun u => (hp.grow u.ok).cell 3
      go_wp2
      refine wp_region_belt 5 (by kernel_rfl) (by kernel_rfl) ?_
      simp only [List.take_succ_cons, List.take_zero, List.drop_succ_cons, List.drop_zero]
      repeat (go_big_quiet_step ((go_at_call 46; exact bel_of _ (placeOf_any a b c d _))))
      refine wpQuiet_nil ?_
      rintro _ ⟨u, rfl⟩
      clear p0 p1 p2 p3
      have hown := HN.out.kept (grownBy_of u.ok none) (by simp)
      have hb4 := below_trans hb u.ok
      have hwl := without_length ps (a, b, c, d)
      go_wp2_with (first
        | (at_mapUpdate; refine wpList_mapUpdate_own _ rfl _ _ _ 67 rfl 70 3 placeLaw Try.underlying67 _ g n _ rfl hown (by unfold maxLen; omega) _ _ _ rfl rfl HK.out _ [] HV.out ?_; intro w5 hown5 hgrow5)
        | (at_len; refine wpList_len_own _ rfl _ 67 rfl 70 3 Try.underlying67 _ g (n + 1) _ rfl hown5 ?_)
        | (go_at_call 47; refine (sortedPolicy_any g (n + 1) _ _ _ hown5 HT.out (by omega)).mono ?_; rintro e w6 ⟨v, rs, rfl, hs, hmem, hrow, hb6⟩))
      · rename_i hc
        have hb5 := hb4.grown hgrow5 hb4.size (fun j hj => by cases hj; exact hgB)
        have hsz := ownsP_size hown5 HT.out
        rw [List.length_append, List.length_singleton] at hsz
        have HS := Lib.hid (show ¬ setOk N xs ps (a, b, c, d) from fun h => by
          have h12 := h.2.2
          have hc' : (12 : Int) < ((Maps.size (D.put (kp (plc (a, b, c, d))) (.lit (.int .i64 (a, b, c, d).2.2.2))) : Nat) : Int) := hc
          rw [hsz] at hc'
          omega)
        go_ret2
        exact res_no (setV_no HS.out) (tf_no HS.out).symm hb5
      · rename_i hc
        have hb5 := hb4.grown hgrow5 hb4.size (fun j hj => by cases hj; exact hgB)
        have hsz := ownsP_size hown5 HT.out
        rw [List.length_append, List.length_singleton] at hsz
        have HS := Lib.hid (show setOk N xs ps (a, b, c, d) from ⟨HL.out, HG.out, by
          have hc' : ((Maps.size (D.put (kp (plc (a, b, c, d))) (.lit (.int .i64 (a, b, c, d).2.2.2))) : Nat) : Int) ≤ 12 := hc
          rw [hsz] at hc'
          omega⟩)
        go_ret2
        have hrs : rs = setP ps (a, b, c, d) := sorted_ext hs (set_sorted _ HL.out.2.2.2) fun q => by
          rw [hmem, mem_set, List.mem_append, mem_without, List.mem_singleton, or_comm]
        refine ⟨v, by rw [← tf_yes HS.out]; rfl, ?_, below_trans hb5 hb6⟩
        rw [setV_yes HS.out, ← hrs]
        exact owns_base hrow hb5.size
    · refine (as_bool (tf_no (fun h => hg h.2)).symm (implPunctOk_any N A ca xs a b c d _ (HA.out _ hb) hu hn)).mono ?_
      rintro e w2 ⟨rfl, hb2⟩
      have HS := Lib.hid (show ¬ setOk N xs ps (a, b, c, d) from fun h => hg h.2.1)
      clear hg
      go_wp2
      go_ret2
      exact res_no (setV_no HS.out) (tf_no HS.out).symm (below_trans hb hb2)
  · refine (as_bool (tf_no hL).symm (implPolicyOk_any N A ca xs B cb ps _ (HA.out _ (below_trans (below_alloc _ _) (below_alloc _ _))) hu hn (HB.out _ (below_trans (below_alloc _ _) (below_alloc _ _))) hm)).mono ?_
    have HS := Lib.hid (show ¬ setOk N xs ps (a, b, c, d) from fun h => hL h.1)
    clear hL
    rintro e w1 ⟨rfl, hb1⟩
    go_wp2
    go_ret2
    exact res_no (setV_no HS.out) (tf_no HS.out).symm (box_two hb1).2.2

set_option maxRecDepth 100000 in
set_option maxHeartbeats 2000000 in
theorem implPolicyDrop_any (N : Int) (A : Option Addr) (ca : Nat) (xs : List Nat) (B : Option Addr) (cb : Nat) (ps : List Pn) (a b c d : Int) (w : World) (hA : Rd w A (us xs)) (hu : U64 xs) (hn : xs.length ≤ 1048576) (hB : Rd w B (iz (qz ps))) (hm : ps.length ≤ 1048588) (hw : wfPl (a, b, c)) :
    Calls Try.prog 19 #[.agg #[.int .i64 N, .slice A xs.length ca], .slice B ps.length cb, pv a b c d] w (PolRes w (dropV N xs ps (a, b, c, d)) (tf (dropOk N xs ps (a, b, c, d)))) := by
  have HA := Lib.hid (fun W (h : Below w.heap.size w W) => hA.below h)
  have HB := Lib.hid (fun W (h : Below w.heap.size w W) => hB.below h)
  have HW := Lib.hid hw
  clear hA hB hw
  go_enter Try.func19, Try.ntmps19
  go_wp2_with fail
  by_cases hL : okL N xs ps
  · refine (as_bool (tf_yes hL).symm (implPolicyOk_any N A ca xs B cb ps _ (HA.out _ (below_trans (below_alloc _ _) (below_alloc _ _))) hu hn (HB.out _ (below_trans (below_alloc _ _) (below_alloc _ _))) hm)).mono ?_
    have HL := Lib.hid hL
    clear hL
    rintro e w1 ⟨rfl, hb1⟩
    obtain ⟨ho, hp, hb⟩ := box_two hb1
    clear hb1 ho
    have hN := HL.out.1.len
    have hps := HL.out.2.1
    go_wp2_with fail
    refine (labelsByPlace_any B cb ps _ (HB.out _ hb) hm (fun p hp => good_wf (by omega) (HL.out.2.2.1 p hp)) (ok_one HL.out.2)).mono ?_
    rintro e w3 ⟨g, n, D, rfl, hgw, hnn, hown, htie, hb3⟩
    replace hp := hp.grow hb3
    have hgB : w.heap.size ≤ g := Nat.le_trans hb.size hgw
    replace hb := below_trans hb hb3
    have HT := Lib.hid htie
    have HK := Lib.hid (keyOf_place HW.out)
    clear htie hb3 hgw hN
    obtain ⟨d0, d1, d2, d3⟩ := hp.four
    go_wp2_with fail
    clear d0 d1 d2 d3
    refine (placeOf_any a b c d _).mono ?_
    rintro e w4 ⟨rfl, hb4⟩
    replace hp := hp.grow hb4
    replace hown := hown.kept (grownBy_of hb4 none) (by simp)
    replace hb := below_trans hb hb4
    clear hb4
    rcases HT.out.look HW.out with ⟨hh, q, hq, hqe, hv⟩ | ⟨hh, hne⟩
    · have HS := Lib.hid (show dropOk N xs ps (a, b, c, d) from ⟨HL.out, fun h => by
        simp only [plc, Prod.mk.injEq] at hqe
        exact without_same_length.1 h q hq ⟨hqe.1, hqe.2.1, hqe.2.2⟩⟩)
      clear hv hq hqe
      obtain ⟨d0, d1, d2, d3⟩ := hp.four
      go_wp2_with (first | (at_lookup; refine wpList_lookup_own_ok_int _ rfl _ _ 67 rfl 70 3 .i64 placeLaw Try.underlying67 Try.underlying3 (zero_intD _) g n D rfl hown _ _ rfl HK.out ?_; intro l hat hwl) | fail)
      clear d0 d1 d2 d3
      refine (placeOf_any a b c d _).mono ?_
      rintro e w5 ⟨rfl, hb5⟩
      replace hown := hown.kept (grownBy_of hb5 none) (by simp)
      replace hb := below_trans hb hb5
      clear hb5 hat hwl
      have HD := Lib.hid (HT.out.del (p := (a, b, c, d)) HW.out)
      go_wp2_with (first
        | (at_delete; refine wpList_delete_own _ rfl _ _ 67 70 rfl 3 placeLaw Try.underlying67 _ g n D rfl hown _ _ rfl HK.out ?_; intro w6 hown6 hturn6)
        | (go_at_call 47; refine (sortedPolicy_any g n _ _ _ hown6 HD.out (by omega)).mono ?_; rintro e w7 ⟨v, rs, rfl, hs, hmem, hrow, hb7⟩))
      go_ret2
      have hb6 := hb.grown hturn6.grown hb.size (fun j hj => by cases hj; exact hgB)
      have hrs : rs = without ps (a, b, c, d) := sorted_ext hs (without_sorted _ HL.out.2.2.2) hmem
      refine ⟨v, by rw [← tf_yes HS.out]; rfl, ?_, below_trans hb6 hb7⟩
      rw [dropV_yes HS.out, ← hrs]
      exact owns_base hrow hb6.size
    · have HS := Lib.hid (show ¬ dropOk N xs ps (a, b, c, d) from fun h => h.2 (without_same_length.2 fun q hq hs => hne q hq (by unfold plc; rw [hs.1, hs.2.1, hs.2.2])))
      clear hne
      go_wp2_with (at_lookup; refine wpList_lookup_own_ok_int _ rfl _ _ 67 rfl 70 3 .i64 placeLaw Try.underlying67 Try.underlying3 (zero_intD _) g n D rfl hown _ _ rfl HK.out ?_; intro l hat hwl)
      go_ret2
      exact res_no (dropV_no HS.out) (tf_no HS.out).symm hb
  · refine (as_bool (tf_no hL).symm (implPolicyOk_any N A ca xs B cb ps _ (HA.out _ (below_trans (below_alloc _ _) (below_alloc _ _))) hu hn (HB.out _ (below_trans (below_alloc _ _) (below_alloc _ _))) hm)).mono ?_
    have HS := Lib.hid (show ¬ dropOk N xs ps (a, b, c, d) from fun h => hL h.1)
    clear hL
    rintro e w1 ⟨rfl, hb1⟩
    go_wp2
    go_ret2
    exact res_no (dropV_no HS.out) (tf_no HS.out).symm (box_two hb1).2.2
end Go.Proofs.Ytipcjofmplpffaa
