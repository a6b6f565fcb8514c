/-
  placeOf and labelsByPlace: what they return.
-/
import Derived.Test.YtipcjofmplpffaaPlaceKey
import Derived.Maps.OwnOps
namespace Go.Proofs.Ytipcjofmplpffaa
open Go.RowKit Go.WideMaps Go.Maps

set_option maxHeartbeats 400000 in
theorem placeOf_any (a b c d : Int) (w : World) :
    Calls Try.prog 46 #[pv a b c d] w fun e w' => e = .returned (.agg #[.int .i64 a, .int .i64 b, .int .i64 c]) ∧ Below w.heap.size w w' := by
  go_enter Try.func46, Try.ntmps46
  go_wp2
  refine bodyPost_ret (v := .agg #[.int .i64 a, .int .i64 b, .int .i64 c]) (by simp [results, Try.results46, go_sem]) rfl ⟨rfl, ?_⟩
  exact below_trans (below_alloc _ _) (below_alloc _ _)

/-- numbers that fit -/
def wfPn (p : Pn) : Prop := wfPl (plc p) ∧ (Lit.int .i64 p.2.2.2).wf = true
theorem small_wf {z : Int} (h0 : 0 ≤ z) (h1 : z ≤ 1048576) : (Lit.int .i64 z).wf = true := by
  exact WalkArith.wf_i64 (by omega)
theorem good_wf {N : Int} {p : Pn} (hN : N ≤ 16) (h : goodP N p) : wfPn p := by
  obtain ⟨⟨h1, h2⟩, ⟨a, b, c, d, e, f⟩, _⟩ := h
  exact ⟨⟨small_wf (z := p.1) a (by omega), small_wf (z := p.2.1) c (by omega), small_wf (z := p.2.2.1) e (by omega)⟩, small_wf h1 (by omega)⟩
theorem ok_one {N : Int} {ps : List Pn} (h : listOk N ps) : ps.Pairwise (fun a b => ¬ sameP a b) := h.2.2.imp less_not_same

abbrev ownsP (w : World) (g n : Nat) (D : DataW Unit) : Prop := w.ownsMap Try.prog 70 (plainElem Try.prog 3) g n D

theorem tie_next {D : DataW Unit} {ps : List Pn} {k : Nat} (hk : k < ps.length) (h : Tie D (ps.take k)) (hm : IsMap D) (hw : ∀ p ∈ ps, wfPn p) (hone : ps.Pairwise (fun a b => ¬ sameP a b)) :
    Tie (D.put (kp (plc (qat ps k))) (.lit (.int .i64 (qat ps k).2.2.2))) (ps.take (k + 1)) := by
  have h1 := h.put hm (p := qat ps k) (hw _ (qat_mem hk)).1
  rw [without_none, ← qat_get hk, ← List.take_succ_eq_append_getElem hk] at h1
  · rw [qat_get hk] at h1; exact h1
  · intro q hq
    rw [← List.take_append_drop k ps, List.pairwise_append] at hone
    refine hone.2.2 q hq _ ?_
    rw [List.drop_eq_getElem_cons hk, qat_get hk]
    exact List.mem_cons_self

set_option maxRecDepth 100000 in
set_option maxHeartbeats 1000000 in
theorem labelsByPlace_any (B : Option Addr) (cb : Nat) (ps : List Pn) (w : World) (hB : Rd w B (iz (qz ps))) (hm : ps.length ≤ 1048588) (hw : ∀ p ∈ ps, wfPn p) (hone : ps.Pairwise (fun a b => ¬ sameP a b)) :
    Calls Try.prog 45 #[.slice B ps.length cb] w fun e w' => ∃ g n D, e = .returned (.map (some g)) ∧ w.heap.size ≤ g ∧ n ≤ ps.length ∧ ownsP w' g n D ∧ Tie D ps ∧ Below w.heap.size w w' := by
  have hmm := @run_makeMap Try.prog
  have HB := Lib.hid hB
  have HW := Lib.hid hw
  have HO := Lib.hid hone
  clear hB hw hone
  go_enter Try.func45, Try.ntmps45
  go_wp2
  clear hmm
  go_loopw [9] (fun i wr => ∃ k : Nat, k ≤ ps.length ∧ i = .int .i64 k ∧ (∃ D, ownsP wr w.heap.size k D ∧ Tie D (ps.take k)) ∧ Below w.heap.size w wr) (fun i _ => ps.length - (intOf i).toNat)
  case atStart => exact ⟨0, Nat.zero_le _, rfl, ⟨_, World.ownsMap_made _ _ _ _, Tie.none⟩, below_alloc _ _⟩
  case round =>
    obtain ⟨k, hk, rfl, ⟨D, hown, htie⟩, hbel⟩ := hrel
    by_cases hlt : k < ps.length
    · obtain ⟨b, off, rfl, c0, c1, c2, c3⟩ := quad_cells HB.out hbel hlt
      replace c0 := c0 ⟨wr, Below.refl _ _⟩
      replace c1 := c1 ⟨wr, Below.refl _ _⟩
      replace c2 := c2 ⟨wr, Below.refl _ _⟩
      replace c3 := c3 ⟨wr, Below.refl _ _⟩
      simp only at c0 c1 c2 c3
      have HT := Lib.hid (tie_next hlt htie hown.isMap HW.out HO.out)
      have hkw := HW.out _ (qat_mem hlt)
      have HK := Lib.hid (keyOf_place hkw.1)
      have HV := Lib.hid (plainElem_int (H := Unit) Try.underlying3 hkw.2)
      have HN := Lib.hid hown
      clear htie hkw hown
      generalize hq : qat ps k = q at *
      obtain ⟨q0, q1, q2, q3⟩ := q
      clear hq
      have p0 := fun u : Bel (wr.alloc (.cells #[.int .i64 q0, .int .i64 q1, .int .i64 q2, .int .i64 q3] 29)) => (box_punct u.w u.ok).1
      have p1 := fun u : Bel (wr.alloc (.cells #[.int .i64 q0, .int .i64 q1, .int .i64 q2, .int .i64 q3] 29)) => (box_punct u.w u.ok).2.1
      have p2 := fun u : Bel (wr.alloc (.cells #[.int .i64 q0, .int .i64 q1, .int .i64 q2, .int .i64 q3] 29)) => (box_punct u.w u.ok).2.2.1
      have p3 := fun u : Bel (wr.alloc (.cells #[.int .i64 q0, .int .i64 q1, .int .i64 q2, .int .i64 q3] 29)) => (box_punct u.w u.ok).2.2.2
      go_wp2
      refine wp_region_belt 5 (by kernel_rfl) (by kernel_rfl) ?_
      simp only [List.take_succ_cons, List.take_zero, List.drop_succ_cons, List.drop_zero]
      repeat (go_big_quiet_step ((go_at_call 46; exact bel_of _ (placeOf_any q0 q1 q2 q3 _))))
      refine wpQuiet_nil ?_
      rintro _ ⟨u, rfl⟩
      clear p0 p1 p2 p3 c0 c1 c2 c3
      have hb1 := below_trans (below_alloc wr (.cells #[.int .i64 q0, .int .i64 q1, .int .i64 q2, .int .i64 q3] 29)) u.ok
      have hown := HN.out.kept (grownBy_of hb1 none) (by simp)
      have hbel1 := below_trans hbel hb1
      go_wp2_with (at_mapUpdate; refine wpList_mapUpdate_own _ rfl _ _ _ 67 rfl 70 3 placeLaw Try.underlying67 _ w.heap.size k _ rfl hown (by unfold maxLen; omega) _ _ _ rfl rfl HK.out _ [] HV.out ?_; intro w1 hown1 hgrow1)
      go_wp2
      go_roundw
      case rel => exact ⟨k + 1, by omega, by go_num, ⟨_, hown1, HT.out⟩, hbel1.grown hgrow1 hbel1.size (fun j hj => by cases hj; exact Nat.le_refl _)⟩
      case measure => simp [intOf]; omega
    · have hkn : k = ps.length := by omega
      subst hkn
      rw [List.take_length] at htie
      go_wp2
      go_ret
      exact ⟨w.heap.size, ps.length, D, rfl, Nat.le_refl _, Nat.le_refl _, hown, htie, hbel⟩
end Go.Proofs.Ytipcjofmplpffaa
