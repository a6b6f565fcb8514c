/-
  SessAdd, the model's: what it returns.
-/
import Derived.Test.YtdphbfapccnhlaaSAddI
namespace Go.Proofs.Ytdphbfapccnhlaa
open Go.RowKit

theorem l06Meet_is {a b c d : Int} {B : Bool} (h : tf (meets (a, b) (c, d)) = B) (w : World) :
    Calls Try.prog 61 #[.agg #[.int .i64 a, .int .i64 b], .agg #[.int .i64 c, .int .i64 d]] w fun e w' => e = .returned (.bool B) ∧ Below w.heap.size w w' := as_bool h (l06Meet_any a b c d w)
theorem step_meet {hd tl : List Wn} {y s : Wn} (h : meets s y) : addStep (hd, y, tl) s = (hd, merge2 s y, tl) := by unfold addStep; rw [if_pos h]
theorem step_ahead {hd tl : List Wn} {y s : Wn} (h : ¬ meets s y) (h2 : s.2 ≤ y.1) : addStep (hd, y, tl) s = (hd ++ [s], y, tl) := by unfold addStep; rw [if_neg h, if_pos h2]
theorem step_behind {hd tl : List Wn} {y s : Wn} (h : ¬ meets s y) (h2 : ¬ s.2 ≤ y.1) : addStep (hd, y, tl) s = (hd, y, tl ++ [s]) := by unfold addStep; rw [if_neg h, if_neg h2]
/-- the three parts after k sessions -/
structure At3 (ws : List Wn) (x : Wn) (k : Nat) (hd : List Wn) (y : Wn) (tl : List Wn) : Prop where
  eq : addTo ws x k = (hd, y, tl)
  len : hd.length + tl.length ≤ k
theorem At3.next {ws : List Wn} {x : Wn} {k : Nat} {hd tl hd' tl' : List Wn} {y y' : Wn} (h : At3 ws x k hd y tl) (hk : k < ws.length) (e : addStep (hd, y, tl) (wat ws k) = (hd', y', tl')) : At3 ws x (k + 1) hd' y' tl' := by
  have h1 : addTo ws x (k + 1) = (hd', y', tl') := by rw [addTo_succ hk, h.eq, e]
  exact ⟨h1, by have := addTo_len (ws := ws) (x := x) (k := k + 1) hk; rw [h1] at this; exact this⟩
theorem At3.all {ws : List Wn} {x y : Wn} {hd tl : List Wn} (h : At3 ws x ws.length hd y tl) : addAll ws x = hd ++ y :: tl := by
  unfold addAll; rw [h.eq]

set_option maxRecDepth 100000 in
set_option maxHeartbeats 4000000 in
theorem specSessAdd_any (A : Option Addr) (n ca : Nat) (ws : List Wn) (a b : Int) (w : World) (hA : Rd w A (ez ws)) (hz : ws.length = n) (hn : n ≤ 1048576) :
    Calls Try.prog 26 #[.slice A n ca, .agg #[.int .i64 a, .int .i64 b]] w (WbRes (sessAdd ws (a, b)) (tf (addOk ws (a, b))) w) := by
  have HA := Lib.hid (fun W (h : Below w.heap.size w W) => hA.below h)
  have HZ := Lib.hid hz
  have HN2 : Hid (n ≤ 2097152) := Lib.hid (by omega)
  have HR := Lib.hid hA
  clear hA hz
  go_enter Try.func26, Try.ntmps26
  go_wp2_with fail
  by_cases hs : sessOk ws
  · refine (as_bool (tf_yes hs).symm (specSessOk_any A n ca ws _ (HA.out _ (below_alloc _ _)) HZ.out HN2.out)).mono ?_
    have HS := Lib.hid hs
    clear hs
    rintro e w1 ⟨rfl, hb1⟩
    obtain ⟨ho, hb⟩ := box_own (cs := [.int .i64 a, .int .i64 b]) hb1
    clear hb1
    obtain ⟨k0, k1⟩ := ho.two
    by_cases hx : winOk (a, b)
    · go_wp2_with fail
      refine (l06Win_is (tf_yes hx).symm _).mono ?_
      have HX := Lib.hid hx
      clear hx
      rintro e w2 ⟨rfl, hb2⟩
      have ho2 := ho.grow hb2
      have hb' := below_trans hb hb2
      have hsz2 : w.heap.size < w2.heap.size := ho2.lt
      clear ho hb hb2 k0 k1
      go_wp2
      go_loopw [6, 7, 8] (fun s6 s7 s8 wr => ∃ k hd y tl A6 A7 c6 c7, k ≤ n ∧ s8 = .int .i64 (k : Int) ∧ s6 = .slice A6 hd.length c6 ∧ s7 = .slice A7 tl.length c7 ∧ Hid (At3 ws (a, b) k hd y tl) ∧
        wr.ownsRow (w.heap.size + 1) 32 2 (.slice A6 hd.length c6) hd.length (ez hd) ∧ wr.ownsRow (w.heap.size + 1) 32 2 (.slice A7 tl.length c7) tl.length (ez tl) ∧
        (Value.slice A6 hd.length c6).ownBlock ≠ (Value.slice A7 tl.length c7).ownBlock ∧ Own wr w.heap.size 32 [.int .i64 y.1, .int .i64 y.2] ∧ Below w.heap.size w wr) (fun _ _ s8 _ => n - (intOf s8).toNat)
      case atStart =>
        refine ⟨0, [], (a, b), [], some ⟨w2.heap.size, 0, none⟩, some ⟨w2.heap.size + 1, 0, none⟩, 0, 0, Nat.zero_le _, rfl, rfl, rfl, Lib.hid ⟨addTo_zero _ _, by simp⟩, ?_, ?_, ?_, ?_, ?_⟩
        · exact owns_empty ((Own.new w2 32 []).alloc _) (by omega)
        · exact owns_empty (new_second w2 _ 32 []) (by omega)
        · simp [Value.ownBlock]
        · exact (ho2.alloc _).alloc _
        · exact below_trans hb' (below_trans (below_alloc _ _) (below_alloc _ _))
      case round =>
        obtain ⟨k, hd, y, tl, A6, A7, c6, c7, hk, rfl, rfl, rfl, HT, hrow6, hrow7, hap, hbx, hbel⟩ := hrel
        obtain ⟨y0, y1⟩ := y
        have hsz := hbx.lt
        by_cases hlt : k < n
        · have hlm : k < ws.length := by rw [HZ.out]; exact hlt
          obtain ⟨bb, off, rfl, c0, c1⟩ := win_cells HR.out hbel hlm
          replace c0 := c0 ⟨wr, Below.refl _ _⟩
          replace c1 := c1 ⟨wr, Below.refl _ _⟩
          simp only at c0 c1
          have HNX := Lib.hid (fun hd' y' tl' => HT.out.next (hd' := hd') (y' := y') (tl' := tl') hlm)
          have HLEN := Lib.hid HT.out.len
          generalize wat ws k = q at *
          obtain ⟨s0, s1⟩ := q
          obtain ⟨k0, k1⟩ := (hbx.alloc (.cells #[.int .i64 s0, .int .i64 s1] 32)).two
          by_cases hm : meets (s0, s1) (y0, y1)
          · go_wp2_with fail
            refine (l06Meet_is (tf_yes hm).symm _).mono ?_
            rintro e w3 ⟨rfl, hb3⟩
            obtain ⟨hs3, hbs3⟩ := box_own (cs := [.int .i64 s0, .int .i64 s1]) hb3
            have hbx3 := hbx.grow hbs3
            obtain ⟨p, hp, hpp⟩ : ∃ p, (if y0 < s0 then y0 else s0) = p ∧ Hid (min s0 y0 = p) := ⟨_, rfl, Lib.hid (by omega)⟩
            obtain ⟨q, hq, hqq⟩ : ∃ q, (if s1 < y1 then y1 else s1) = q ∧ Hid (max s1 y1 = q) := ⟨_, rfl, Lib.hid (by omega)⟩
            have HP := Lib.hid (HNX.out hd (p, q) tl (by rw [step_meet hm]; simp only [merge2, hpp.out, hqq.out]))
            obtain ⟨d0, d1⟩ := hs3.two
            obtain ⟨e0, e1⟩ := hbx3.two
            have f0 := hbx3.free 0
            have f1 := (hbx3.set 0 (.int .i64 p)).free 1
            have hbel3 := below_trans hbel hbs3
            clear hm
            go_wp2
            go_roundw
            case rel =>
              refine ⟨k + 1, hd, (p, q), tl, A6, A7, c6, c7, by omega, by go_num, rfl, rfl, HP, ?_, ?_, hap, (hbx3.set 0 _).set 1 _, ?_⟩
              · exact owns_far (owns_far (owns_grow hrow6 hbs3) (only_set (World.grownBy.refl _ _)) (owns_lt hrow6 (Nat.lt_succ_self _))) (only_set (World.grownBy.refl _ _)) (owns_lt hrow6 (Nat.lt_succ_self _))
              · exact owns_far (owns_far (owns_grow hrow7 hbs3) (only_set (World.grownBy.refl _ _)) (owns_lt hrow7 (Nat.lt_succ_self _))) (only_set (World.grownBy.refl _ _)) (owns_lt hrow7 (Nat.lt_succ_self _))
              · exact (hbel3.setCell (p := ⟨w.heap.size, 0, none⟩) (Nat.le_refl _) _).setCell (p := ⟨w.heap.size, 1, none⟩) (Nat.le_refl _) _
            case measure => simp [intOf]; omega
          · go_wp2_with fail
            refine (l06Meet_is (tf_no hm).symm _).mono ?_
            rintro e w3 ⟨rfl, hb3⟩
            obtain ⟨hs3, hbs3⟩ := box_own (cs := [.int .i64 s0, .int .i64 s1]) hb3
            have hbx3 := hbx.grow hbs3
            obtain ⟨d0, d1⟩ := hs3.two
            obtain ⟨e0, e1⟩ := hbx3.two
            have hbel3 := below_trans hbel hbs3
            have hsz3 : w.heap.size + 1 ≤ w3.heap.size := hbx3.lt
            by_cases h2 : s1 ≤ y0
            · have HP := Lib.hid (HNX.out (hd ++ [(s0, s1)]) (y0, y1) tl (step_ahead hm h2))
              have HL1 : Hid (hd.length + 1 ≤ 2097152) := Lib.hid (by have := HLEN.out; omega)
              clear hm
              go_wp2_with (at_builtin; refine appWin.at rfl _ (.tmp 58) rfl (w.heap.size + 1) (.slice A6 hd.length c6) hd.length (ez hd) rfl ((owns_grow hrow6 hbs3).alloc _) w3.heap.size 1 1 [.int .i64 s0, .int .i64 s1] rfl (Own.new w3 _ _) rfl (ez_one [(s0, s1)]) HL1 (by simp; omega) ?_)
              intro A2 c2 w4 hown4 hgrow4 hb4 hat4
              have row7 := (owns_grow hrow7 hbs3).alloc (.cells #[.int .i64 s0, .int .i64 s1] 32)
              have row7' := owns_apart row7 hgrow4 (Ne.symm hap)
              go_wp2
              go_roundw
              case rel =>
                refine ⟨k + 1, hd ++ [(s0, s1)], (y0, y1), tl, A2, A7, c2, c7, by omega, by go_num, by simp, rfl, HP, ?_, row7', ?_, (hbx3.alloc _).below hb4 (Nat.lt_succ_self _), below_trans' (below_trans hbel3 (below_alloc _ _)) hb4⟩
                · rw [ez_append, List.length_append]; exact hown4
                · rw [List.length_append]; exact apart_grown hap row7 hat4
              case measure => simp [intOf]; omega
            · have HP := Lib.hid (HNX.out hd (y0, y1) (tl ++ [(s0, s1)]) (step_behind hm h2))
              have HL1 : Hid (tl.length + 1 ≤ 2097152) := Lib.hid (by have := HLEN.out; omega)
              clear hm
              go_wp2_with (at_builtin; refine appWin.at rfl _ (.tmp 33) rfl (w.heap.size + 1) (.slice A7 tl.length c7) tl.length (ez tl) rfl ((owns_grow hrow7 hbs3).alloc _) w3.heap.size 1 1 [.int .i64 s0, .int .i64 s1] rfl (Own.new w3 _ _) rfl (ez_one [(s0, s1)]) HL1 (by simp; omega) ?_)
              intro A2 c2 w4 hown4 hgrow4 hb4 hat4
              have row6 := (owns_grow hrow6 hbs3).alloc (.cells #[.int .i64 s0, .int .i64 s1] 32)
              have row6' := owns_apart row6 hgrow4 hap
              go_wp2
              go_roundw
              case rel =>
                refine ⟨k + 1, hd, (y0, y1), tl ++ [(s0, s1)], A6, A2, c6, c2, by omega, by go_num, rfl, by simp, HP, row6', ?_, ?_, (hbx3.alloc _).below hb4 (Nat.lt_succ_self _), below_trans' (below_trans hbel3 (below_alloc _ _)) hb4⟩
                · rw [ez_append, List.length_append]; exact hown4
                · rw [List.length_append]; exact Ne.symm (apart_grown (Ne.symm hap) row6 hat4)
              case measure => simp [intOf]; omega
        · have HE := Lib.hid (show addAll ws (a, b) = hd ++ (y0, y1) :: tl from At3.all (by have h := HT.out; rw [show k = ws.length by rw [HZ.out]; omega] at h; exact h))
          obtain ⟨k0, k1⟩ := hbx.two
          have HL1 : Hid (hd.length + 1 ≤ 2097152) := Lib.hid (by have := HT.out.len; omega)
          have HL2 : Hid (hd.length + 1 + tl.length ≤ 2097152) := Lib.hid (by have := HT.out.len; omega)
          go_wp2_with (at_builtin; refine appWin.own rfl _ (.tmp 62) rfl (w.heap.size + 1) (.slice A6 hd.length c6) hd.length (ez hd) rfl (hrow6.alloc _) wr.heap.size 1 1 [.int .i64 y0, .int .i64 y1] rfl (Own.new wr _ _) rfl (ez_one [(y0, y1)]) HL1 (by simp; omega) ?_)
          intro A2 c2 w4 hown4 hgrow4 hb4
          have row7 := owns_apart (hrow7.alloc (.cells #[.int .i64 y0, .int .i64 y1] 32)) hgrow4 (Ne.symm hap)
          have hR7 : Rd w4 A7 (ez tl) := RowAt.reads (RowAt.of row7)
          have hbel4 : Below w.heap.size w w4 := below_trans' (below_trans hbel (below_alloc _ _)) hb4
          have hsz4 : w.heap.size + 1 ≤ w4.heap.size := by have := hgrow4.size; simp at this; omega
          go_wp2_with (at_builtin; refine appWin.rd rfl _ (.tmp 64) rfl (w.heap.size + 1) (.slice A2 (hd.length + 1) c2) (hd.length + 1) _ rfl hown4 A7 tl.length c7 (ez tl) rfl hR7 (owns_fit row7) (ez_length _) (ez_one _) HL2 hsz4 ?_)
          intro A3 c3 w5 hown5 hgrow5 hb5
          have e1 : addAll ws (a, b) = hd ++ (y0, y1) :: tl := HE.out
          have e2 : (addAll ws (a, b)).length = hd.length + 1 + tl.length := by rw [e1]; simp; omega
          have e3 : ez hd ++ .int .i64 y0 :: .int .i64 y1 :: ez tl = ez (addAll ws (a, b)) := by rw [e1, ez_append, ez_cons (y0, y1)]
          have hr3 : RowAt w.heap.size w5.heap.size w5 32 2 (.slice A3 (hd.length + 1 + tl.length) c3) (hd.length + 1 + tl.length) (ez (addAll ws (a, b))) := RowAt.of (owns_base (owns_as hown5 e3) (Nat.le_succ _))
          have hb'' := below_trans' hbel4 hb5
          have HM := Lib.hid e2
          clear e1 e2 e3 hown5 hown4 row7 hR7 hrow6 hrow7
          by_cases h3 : hd.length + 1 + tl.length ≤ 300
          · have HY := Lib.hid (show addOk ws (a, b) from ⟨HS.out, HX.out, by rw [HM.out]; exact h3⟩)
            generalize hd.length + 1 + tl.length = m at *
            go_wp2
            go_ret2
            exact wb_yes (sessAdd_yes HY.out) HY.out HM.out hr3 hb''
          · have HY := Lib.hid (show ¬ addOk ws (a, b) from fun h => h3 (by rw [← HM.out]; exact h.2.2))
            generalize hd.length + 1 + tl.length = m at *
            go_wp2
            go_ret2
            exact wb_no (sessAdd_no HY.out) HY.out hb''
    · go_wp2_with fail
      refine (l06Win_is (tf_no hx).symm _).mono ?_
      have HY := Lib.hid (show ¬ addOk ws (a, b) from fun h => hx h.2.1)
      clear hx
      rintro e w2 ⟨rfl, hb2⟩
      go_wp2
      go_ret2
      exact wb_no (sessAdd_no HY.out) HY.out (below_trans hb hb2)
  · refine (as_bool (tf_no hs).symm (specSessOk_any A n ca ws _ (HA.out _ (below_alloc _ _)) HZ.out HN2.out)).mono ?_
    have HY := Lib.hid (show ¬ addOk ws (a, b) from fun h => hs h.1)
    clear hs
    rintro e w1 ⟨rfl, hb1⟩
    go_wp2
    go_ret2
    exact wb_no (sessAdd_no HY.out) HY.out (box_own (cs := [.int .i64 a, .int .i64 b]) hb1).2
end Go.Proofs.Ytdphbfapccnhlaa
