/-
  ExprRead of the model: the walk.
-/
import Derived.Test.YtmkfmohahfaemaaDoorExprRS
import Derived.Deep.RegionWith
namespace Go.Proofs.YtmkfmohahfaemaaDoor
open Go.RowKit Go.Sort

set_option maxRecDepth 100000 in
set_option maxHeartbeats 8000000 in
theorem specExprRead_any (l : List UInt8) (hl : l.length ≤ 1048576) (w : World) :
    Calls Tryd.prog 20 #[.string ⟨l.toArray⟩] w (ReadRes l w) := by
  obtain ⟨i0, hi, hz0, hz1, hz2⟩ := info_parts info_tok
  have HI := Lib.hid hi
  have HZ0 := Lib.hid hz0
  have HZ1 := Lib.hid hz1
  have HZ2 := Lib.hid hz2
  clear hi hz0 hz1 hz2
  have HZ := Lib.hid (show (⟨l.toArray⟩ : ByteArray).size = l.length by simp [ByteArray.size])
  unfold ReadRes
  by_cases hlong : 420 < l.length
  · have h1 : ((⟨l.toArray⟩ : ByteArray).size : Int) > 420 := by rw [HZ.out]; omega
    have HR := Lib.hid (long_no hlong)
    generalize hD : (⟨l.toArray⟩ : ByteArray) = D at *
    go_enter Tryd.func20, Tryd.ntmps20
    go_wp2
    go_ret2
    exact .inr ⟨HR.out, rfl, Below.refl _ _⟩
  have h1 : ¬ ((⟨l.toArray⟩ : ByteArray).size : Int) > 420 := by rw [HZ.out]; omega
  have CC := Lib.hid (l03Cut_any l hl w)
  have HLn := Lib.hid (show (cutW l).length ≤ 421 by have := cutW_le l; omega)
  have HNe := Lib.hid (show 0 < (cutW l).length by have := cutW_ne l; cases h : cutW l with | nil => exact absurd h this | cons => simp)
  have HY := Lib.hid (fun a b => specRead_yes (l := l) a b)
  have HN := Lib.hid (fun a => specRead_no (l := l) a)
  have HIs := Lib.hid (specToks_ints l)
  have HWd := Lib.hid (fun k (hk : k < (cutW l).length) => show ((cutW l).getD k []).length ≤ 1048576 by
    have := cutW_word l _ (show (cutW l).getD k [] ∈ cutW l by simp [List.getD, hk]); omega)
  generalize hws : cutW l = ws at *
  have hlen := HLn.out
  generalize hD : (⟨l.toArray⟩ : ByteArray) = D at *
  have HDl := Lib.hid hD
  clear hD hlong hl
  go_enter Tryd.func20, Tryd.ntmps20
  go_wp2_with (go_at_call 41; refine CC.out.mono ?_; rintro e w1 ⟨v, rfl, hrowW, hb1⟩; obtain ⟨gW, cW, rfl⟩ : ∃ g c, v = .slice (some ⟨g, 0, none⟩) ws.length c := (by
      rcases hrowW.2 with ⟨rfl, h⟩ | ⟨g, cap, cur, rfl, _⟩
      · have := HNe.out; omega
      · exact ⟨g, cap, rfl⟩))
  have HW : Hid (∀ k (_ : k < ws.length) W, Below w1.heap.size w1 W → W.cell? ⟨gW, k, none⟩ = some (.string (mk (ws.getD k [])))) := Lib.hid (fun k hk W hW => by
    obtain ⟨A, c', e, hr⟩ := owns_rd hrowW
    obtain ⟨rfl, _⟩ : some (⟨gW, 0, none⟩ : Addr) = A ∧ cW = c' := by simpa using e
    obtain ⟨ad, e', hb', hc⟩ := hr k (.string (mk (ws.getD k []))) (by simp [strs, hk])
    obtain rfl : (⟨gW, 0, none⟩ : Addr) = ad := by injection e'
    rw [add_plain] at hc
    exact (hW.cell (p := ⟨gW, k, none⟩) hb').trans hc)
  clear hrowW
  go_loopw [5, 6] (fun x i wr => ∃ k : Nat, k ≤ ws.length ∧ i = .int .i64 k ∧ wr.ownsRow w1.heap.size 31 2 x k (ez ((ws.take k).map specTok)) ∧ Below w1.heap.size w1 wr) (fun _ i _ => ws.length - (intOf i).toNat)
  case atStart => exact ⟨0, Nat.zero_le _, rfl, own_nil2 w1 (Nat.le_refl _), below_alloc _ _⟩
  case round =>
    obtain ⟨k, hk, rfl, hrow, hbel⟩ := hrel
    generalize wr = w3 at *
    obtain ⟨A, c, rfl, hrd⟩ := owns_rd hrow
    have hsW := hbel.size
    by_cases hlt : k < ws.length
    · have c0 := HW.out k hlt w3 hbel
      have CV := Lib.hid (l03Value_any (ws.getD k []) (HWd.out k hlt) w3)
      have HC := Lib.hid (fun W (h : Below w3.heap.size w3 W) => HW.out k hlt W (below_trans hbel h))
      have HT0 : Hid ((0 : Int) = (tkTo (ws.getD k []) 0).1 ∧ valOf (ws.getD k []) = (tkTo (ws.getD k []) 0).2) := Lib.hid ⟨rfl, rfl⟩
      have HTs : Hid (∀ j, j < 11 → (mk (ws.getD k []) = ⟨(sign (j + 1)).toArray⟩ → tkTo (ws.getD k []) (j + 1) = (((j + 1 : Nat) : Int), 0)) ∧ (mk (ws.getD k []) ≠ ⟨(sign (j + 1)).toArray⟩ → tkTo (ws.getD k []) (j + 1) = tkTo (ws.getD k []) j)) := Lib.hid (fun j _ => by
        refine ⟨fun e => ?_, fun e => ?_⟩
        · show (if _ then _ else _) = _; rw [if_pos (bytes_eq e)]
        · show (if _ then _ else _) = _; rw [if_neg (fun h => e (by rw [h]; rfl))])
      have HST : Hid (ez ((ws.take (k + 1)).map specTok) = ez ((ws.take k).map specTok) ++ [.int .i64 (tkTo (ws.getD k []) 11).1, .int .i64 (tkTo (ws.getD k []) 11).2]) := Lib.hid (by
        rw [List.take_succ_eq_append_getElem hlt, List.map_append, ez_append]
        congr 1
        simp [ez, specTok, List.getD, hlt])
      have hmk : (⟨(ws.getD k []).toArray⟩ : ByteArray) = mk (ws.getD k []) := rfl
      rw [hmk] at CV
      clear hmk
      generalize valOf (ws.getD k []) = v0 at *
      generalize tkTo (ws.getD k []) = tk at *
      generalize mk (ws.getD k []) = E at *
      go_wp2_with (go_at_call 42; refine CV.out.mono ?_; rintro e w' ⟨rfl, rfl⟩)
      clear c0
      go_loopw [8] (fun i wr => ∃ (j : Nat) (a b : Int), 1 ≤ j ∧ j ≤ 12 ∧ i = .int .i64 j ∧ Own wr w3.heap.size 31 [.int .i64 a, .int .i64 b] ∧ Hid (a = (tk (j - 1)).1 ∧ b = (tk (j - 1)).2) ∧ Below w3.heap.size w3 wr) (fun i _ => 12 - (intOf i).toNat)
      case atStart => exact ⟨1, 0, v0, by omega, by omega, rfl, Own.new _ _ _, HT0, below_alloc _ _⟩
      case round =>
        obtain ⟨j, a, b, hj0, hj, rfl, hown, HAB, hbi⟩ := hrel
        have hsi := hbi.size
        by_cases hj2 : j < 12
        · have c0 := HC.out wr hbi
          have d0 := HC.out (wr.alloc (.cells signCells 9)) (below_trans hbi (below_alloc _ _))
          have s0 : (wr.alloc (.cells signCells 9)).cell? ⟨wr.heap.size, j, none⟩ = some (.string ⟨(sign j).toArray⟩) := by
            rw [cell_of_row _ wr.heap.size j signCells 9 (0, 0) (heap_alloc_new wr _)]; exact signCells_at hj2
          have HTj := Lib.hid (HTs.out (j - 1) (by omega))
          rw [show j - 1 + 1 = j by omega] at HTj
          generalize (⟨(sign j).toArray⟩ : ByteArray) = S at *
          have o2 := hown.alloc (.cells signCells 9)
          have f0 := o2.free 0
          have f1 := o2.free 1
          have z0 := o2.two.1
          have z1 := o2.two.2
          have hb2 := below_trans hbi (below_alloc wr (.cells signCells 9))
          by_cases hE : E = S
          · have HAB2 : Hid ((j : Int) = (tk (j + 1 - 1)).1 ∧ (0 : Int) = (tk (j + 1 - 1)).2) := Lib.hid (by rw [Nat.add_sub_cancel, HTj.out.1 hE]; exact ⟨rfl, rfl⟩)
            have tA : (E.toList == S.toList) = true := by rw [hE]; simp
            have HS2 := Lib.hid (own_set2 o2 (.int .i64 j) (.int .i64 0))
            have HB2 := Lib.hid (below_set2 (w := w3) hb2 (Nat.le_refl _) (.int .i64 j) (.int .i64 0))
            clear hE
            go_wp2
            go_region_with (go_at_call 38; refine (l03Signs_any _).mono ?_; rintro e w2 ⟨rfl, rfl⟩)
            all_goals
              go_wp2
              go_roundw
              case rel => exact ⟨j + 1, j, 0, by omega, by omega, by go_num, HS2.out, HAB2, HB2.out.drew⟩
              case measure => simp [intOf]; omega
          · have HAB2 : Hid (a = (tk (j + 1 - 1)).1 ∧ b = (tk (j + 1 - 1)).2) := Lib.hid (by rw [Nat.add_sub_cancel, HTj.out.2 hE]; exact HAB.out)
            have tA := list_ne hE
            have HB2 := Lib.hid hb2
            have HS2 := Lib.hid o2
            clear hE
            go_wp2
            go_region_with (go_at_call 38; refine (l03Signs_any _).mono ?_; rintro e w2 ⟨rfl, rfl⟩)
            all_goals
              go_wp2
              go_roundw
              case rel => exact ⟨j + 1, a, b, by omega, by omega, by go_num, HS2.out, HAB2, HB2.out.drew⟩
              case measure => simp [intOf]; omega
        · obtain rfl : j = 12 := by omega
          have row2 := owns_grow hrow hbi
          have hbel2 := below_trans hbel hbi
          have hs2 := hbel2.size
          have z0 := hown.two.1
          have z1 := hown.two.2
          have HST2 : Hid (ez ((ws.take (k + 1)).map specTok) = ez ((ws.take k).map specTok) ++ [.int .i64 a, .int .i64 b]) := Lib.hid (by rw [HST.out, HAB.out.1, HAB.out.2])
          clear hj0 hj hj2 hown hrow hbel hbi
          go_wp2_with ((at_builtin; refine wpList_append_own _ rfl _ _ 24 rfl w1.heap.size 31 i0 (.agg #[.int .i64 0, .int .i64 0]) 2 16 Tryd.underlying24 HI.out HZ0.out HZ1.out HZ2.out rfl (by decide) _ _ _ rfl (row2.alloc _) ⟨wr.heap.size, 0, none⟩ 1 1 [.int .i64 a, .int .i64 b] rfl rfl ?c1 ?c2 ?c3 ?c4 ?c5 ?_))
          case c1 =>
            intro i u hi
            match i, hi with
            | 0, hi => simp at hi; subst hi; simp [Addr.add]
            | 1, hi => simp at hi; subst hi; simp [Addr.add]
          case c2 => intro u hu'; simp at hu'; rcases hu' with rfl | rfl <;> rfl
          case c3 => unfold maxLen; omega
          case c4 => omega
          case c5 => simp; omega
          intro v' w4 hrow' hgrow _
          have hB4 := append_below hbel2 hs2 row2 (Nat.le_refl _) hgrow
          have hR4 : w4.ownsRow w1.heap.size 31 2 v' (k + 1) (ez ((ws.take (k + 1)).map specTok)) := by rw [HST2.out, List.map_take]; exact hrow'
          clear hgrow row2 hbel2 z0 z1
          go_wp2
          go_roundw
          case rel => exact ⟨k + 1, by omega, by go_num, hR4, hB4⟩
          case measure => simp [intOf]; omega
    · have hkl : k = ws.length := by omega
      subst hkl
      rw [List.take_length] at hrow hrd
      have hel : (ws.map specTok).length = ws.length := by simp
      have CO := Lib.hid (specExprOk_any A c (ws.map specTok) w3 hrd (by rw [hel]; omega))
      have CT := Lib.hid (specExprText_any A c (ws.map specTok) w3 hrd (by rw [hel]; omega) HIs.out)
      rw [hel] at CO CT
      by_cases hd : 0 ≤ depthOf (ws.map specTok)
      · have hB : decide (0 ≤ depthOf (ws.map specTok)) = true := by simp [hd]
        by_cases ht : textOf (ws.map specTok) = l
        · have HR := Lib.hid (HY.out hd ht)
          rw [ht, HDl.out] at CT
          have HEl := Lib.hid hel
          clear hd ht hel
          go_wp2_with (first | (go_at_call 9; refine (as_bool hB CO.out).mono ?_; rintro e w' ⟨rfl, rfl⟩) | (go_at_call 18; refine CT.out.mono ?_; rintro e w4 ⟨rfl, hb4⟩))
          go_ret2
          have row3 : w4.ownsRow w.heap.size 31 2 (.slice A ws.length c) (ws.map specTok).length (ez (ws.map specTok)) := by rw [HEl.out]; exact owns_base (owns_grow hrow hb4) hb1.size
          exact .inl ⟨ws.map specTok, .slice A ws.length c, HR.out, rfl, row3, below_trans (below_trans hb1 hbel) hb4⟩
        · have HR := Lib.hid (HN.out (fun h => ht h.2))
          have tT : ((⟨(textOf (ws.map specTok)).toArray⟩ : ByteArray).toList == D.toList) = false := list_ne (by rw [← HDl.out]; exact fun e => ht (bytes_eq e))
          generalize (⟨(textOf (ws.map specTok)).toArray⟩ : ByteArray) = T at *
          clear hd ht hel
          go_wp2_with (first | (go_at_call 9; refine (as_bool hB CO.out).mono ?_; rintro e w' ⟨rfl, rfl⟩) | (go_at_call 18; refine CT.out.mono ?_; rintro e w4 ⟨rfl, hb4⟩))
          go_ret2
          exact .inr ⟨HR.out, rfl, below_trans (below_trans hb1 hbel) hb4⟩
      · have hB : decide (0 ≤ depthOf (ws.map specTok)) = false := by simp [hd]
        have HR := Lib.hid (HN.out (fun h => hd h.1))
        clear hd hel
        go_wp2_with (go_at_call 9; refine (as_bool hB CO.out).mono ?_; rintro e w' ⟨rfl, rfl⟩)
        go_ret2
        exact .inr ⟨HR.out, rfl, below_trans hb1 hbel⟩
end Go.Proofs.YtmkfmohahfaemaaDoor
