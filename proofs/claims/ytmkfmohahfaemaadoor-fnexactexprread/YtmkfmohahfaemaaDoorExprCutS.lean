/-
  The model's l03Cut: the words between blanks.
-/
import Derived.Test.YtmkfmohahfaemaaDoorExprRK
import Derived.Test.YtmkfmohahfaemaaDoorExprVal
namespace Go.Proofs.YtmkfmohahfaemaaDoor
open Go.RowKit

theorem seg_next {l : List UInt8} {f k : Nat} (h : k < l.length) (hf : f ≤ k) : (l.drop f).take (k + 1 - f) = (l.drop f).take (k - f) ++ [l.getD k 0] := by
  rw [show k + 1 - f = (k - f) + 1 by omega, List.take_succ_eq_append_getElem (by simp; omega)]
  congr 1
  simp only [List.getElem_drop, List.cons.injEq, and_true]
  have e : f + (k - f) = k := by omega
  simp [List.getD, h, e]
theorem seg_all {l : List UInt8} {f k : Nat} (h : k < l.length) (hf : f ≤ k) : l.drop f = (l.drop f).take (k - f) ++ l.getD k 0 :: l.drop (k + 1) := by
  have h1 := List.take_append_drop (k + 1 - f) (l.drop f)
  rw [seg_next h hf, List.drop_drop, show f + (k + 1 - f) = k + 1 by omega, List.append_assoc] at h1
  exact h1.symm
theorem cut_seg {l : List UInt8} {f k : Nat} {done : List (List UInt8)} (h : k < l.length) (hf : f ≤ k) (hb : l.getD k 0 = 32) (hc : cutW l = done ++ cutW (l.drop f)) (hn : 32 ∉ (l.drop f).take (k - f)) :
    cutW l = (done ++ [(l.drop f).take (k - f)]) ++ cutW (l.drop (k + 1)) := by
  rw [hc, seg_all h hf, hb, cutW_app hn, ← hb, ← seg_all h hf]
  simp
theorem seg_not {l : List UInt8} {f k : Nat} (h : k < l.length) (hf : f ≤ k) (hb : l.getD k 0 ≠ 32) (hn : 32 ∉ (l.drop f).take (k - f)) : 32 ∉ (l.drop f).take (k + 1 - f) := by
  rw [seg_next h hf]
  intro hm
  rcases List.mem_append.1 hm with hm | hm
  · exact hn hm
  · exact hb (List.mem_singleton.1 hm).symm
theorem extract_mk (l : List UInt8) (f k : Nat) : (⟨l.toArray⟩ : ByteArray).extract f k = mk ((l.drop f).take (k - f)) := by
  unfold mk
  apply ByteArray.ext
  rw [ByteArray.data_extract]
  apply Array.toList_inj.1
  simp
theorem strs_append (a b : List ByteArray) : strs (a ++ b) = strs a ++ strs b := by simp [strs]
theorem own_nilS {base : Nat} (W : World) (h : base ≤ W.heap.size) : (W.alloc (.cells #[] 9)).ownsRow base 9 1 (.slice (some ⟨W.heap.size, 0, none⟩) 0 0) 0 (strs []) :=
  (Own.new W 9 []).owns h rfl (by omega)

set_option maxRecDepth 100000 in
set_option maxHeartbeats 2000000 in
theorem l03Cut_any (l : List UInt8) (hl : l.length ≤ 1048576) (w : World) :
    Calls Tryd.prog 41 #[.string ⟨l.toArray⟩, .int .u8 32] w fun e w' => ∃ v, e = .returned v ∧ w'.ownsRow w.heap.size 9 1 v (cutW l).length (strs ((cutW l).map mk)) ∧ Below w.heap.size w w' := by
  obtain ⟨i0, hi, hz0, hz1, hz2⟩ := info_parts info_string
  have HI := Lib.hid hi
  have HZ0 := Lib.hid hz0
  have HZ1 := Lib.hid hz1
  have HZ2 := Lib.hid hz2
  clear hi hz0 hz1 hz2
  have hsz : (⟨l.toArray⟩ : ByteArray).size = l.length := by simp [ByteArray.size]
  have hgt : ∀ k (h : k < (⟨l.toArray⟩ : ByteArray).size), ((⟨l.toArray⟩ : ByteArray)[k]'h) = l.getD k 0 := fun k h => by
    rw [hsz] at h
    simp [List.getD, h, ByteArray.getElem_eq_getElem_data]
  have HX := Lib.hid (extract_mk l)
  generalize (⟨l.toArray⟩ : ByteArray) = D at *
  have HG := Lib.hid hgt
  have HZ := Lib.hid hsz
  have hDl : D.size ≤ 1048576 := by omega
  clear hgt hsz hl
  go_enter Tryd.func41, Tryd.ntmps41
  go_wp2
  go_loopw [5, 6, 7] (fun o fr i wr => ∃ (k f : Nat) (done : List (List UInt8)), k ≤ D.size ∧ f ≤ k ∧ i = .int .i64 k ∧ fr = .int .i64 f ∧ done.length ≤ k ∧ wr.ownsRow w.heap.size 9 1 o done.length (strs (done.map mk)) ∧ Hid (cutW l = done ++ cutW (l.drop f) ∧ 32 ∉ (l.drop f).take (k - f)) ∧ Below w.heap.size w wr) (fun _ _ i _ => D.size - (intOf i).toNat)
  case atStart => exact ⟨0, 0, [], by omega, by omega, rfl, rfl, by simp, own_nilS w (Nat.le_refl _), Lib.hid ⟨by simp, by simp⟩, below_alloc _ _⟩
  case round =>
    obtain ⟨k, f, done, hk, hf, rfl, rfl, hd, hrow, HC, hbel⟩ := hrel
    obtain ⟨A, c, rfl, _⟩ := owns_rd hrow
    have hsW := hbel.size
    by_cases hlt : k < D.size
    · have hix : ∀ W, (Instr.index 9 (.string D) (.int .i64 (k : Int))).run Tryd.prog W = .ok (.int .u8 ((l.getD k 0).toNat : Int)) W := fun W => by
        rw [run_index_string W _ D .i64 k Tryd.underlying9, dif_pos ⟨by omega, by omega⟩]
        simp only [Int.toNat_natCast, HG.out k hlt]
      have HKL : Hid (k < l.length) := Lib.hid (by rw [← HZ.out]; exact hlt)
      by_cases hb : l.getD k 0 = 32
      · have HN := Lib.hid (cut_seg HKL.out hf hb HC.out.1 HC.out.2)
        have HE := Lib.hid (HX.out f k)
        have tb : (((l.getD k 0).toNat : Int) == 32) = true := by rw [hb]; decide
        generalize ((l.getD k 0).toNat : Int) = c0 at *
        clear hb
        go_wp2_with ((at_builtin; refine wpList_append_own _ rfl _ _ 72 rfl w.heap.size 9 i0 (.string ⟨#[]⟩) 1 16 Tryd.underlying72 HI.out HZ0.out HZ1.out HZ2.out rfl (by decide) _ _ _ rfl (hrow.alloc _) ⟨wr.heap.size, 0, none⟩ 1 1 [.string (D.extract f k)] rfl rfl ?c1 ?c2 ?c3 ?c4 ?c5 ?_))
        case c1 =>
          intro j u hj
          match j, hj with
          | 0, hj => simp at hj; subst hj; simp [Addr.add]
        case c2 => intro u hu'; simp at hu'; subst hu'; rfl
        case c3 => unfold maxLen; omega
        case c4 => omega
        case c5 => simp; omega
        intro v' w2 hrow' hgrow _
        have hB2 := append_below hbel hsW hrow (Nat.le_refl _) hgrow
        have hR2 : w2.ownsRow w.heap.size 9 1 v' (done ++ [(l.drop f).take (k - f)]).length (strs ((done ++ [(l.drop f).take (k - f)]).map mk)) := by
          rw [List.map_append, strs_append, List.length_append]
          rw [HE.out] at hrow'
          exact hrow'
        clear hgrow hrow hbel hrow'
        go_wp2
        go_roundw
        case rel => exact ⟨k + 1, k + 1, done ++ [(l.drop f).take (k - f)], by omega, by omega, by go_num, by go_num, by simp; omega, hR2, Lib.hid ⟨HN.out, by simp⟩, hB2⟩
        case measure => simp [intOf]; omega
      · have HN := Lib.hid (seg_not HKL.out hf hb HC.out.2)
        have tb : (((l.getD k 0).toNat : Int) == 32) = false := by
          rw [beq_eq_false_iff_ne]; intro e; exact hb (UInt8.toNat_inj.1 (by show _ = 32; omega))
        generalize ((l.getD k 0).toNat : Int) = c0 at *
        clear hb
        go_wp2
        go_roundw
        case rel => exact ⟨k + 1, f, done, by omega, by omega, by go_num, rfl, by omega, hrow, Lib.hid ⟨HC.out.1, HN.out⟩, hbel⟩
        case measure => simp [intOf]; omega
    · have hkd : k = D.size := by omega
      have HN : Hid (cutW l = done ++ [(l.drop f).take (k - f)]) := Lib.hid (by
        have h2 : (l.drop f).take (k - f) = l.drop f := List.take_of_length_le (by rw [List.length_drop, hkd, HZ.out]; omega)
        have h3 := HC.out.2
        rw [h2] at h3
        rw [HC.out.1, cutW_none h3, h2])
      have HE := Lib.hid (HX.out f k)
      rw [hkd] at HE
      go_wp2_with ((at_builtin; refine wpList_append_own _ rfl _ _ 72 rfl w.heap.size 9 i0 (.string ⟨#[]⟩) 1 16 Tryd.underlying72 HI.out HZ0.out HZ1.out HZ2.out rfl (by decide) _ _ _ rfl (hrow.alloc _) ⟨wr.heap.size, 0, none⟩ 1 1 [.string (D.extract f D.size)] rfl rfl ?c1 ?c2 ?c3 ?c4 ?c5 ?_))
      case c1 =>
        intro j u hj
        match j, hj with
        | 0, hj => simp at hj; subst hj; simp [Addr.add]
      case c2 => intro u hu'; simp at hu'; subst hu'; rfl
      case c3 => unfold maxLen; omega
      case c4 => omega
      case c5 => simp; omega
      intro v' w2 hrow' hgrow _
      have hB2 := append_below hbel hsW hrow (Nat.le_refl _) hgrow
      have hR2 : w2.ownsRow w.heap.size 9 1 v' (cutW l).length (strs ((cutW l).map mk)) := by
        rw [HN.out, List.map_append, strs_append, List.length_append, hkd]
        rw [HE.out] at hrow'
        exact hrow'
      go_wp2
      go_ret
      exact ⟨_, rfl, hR2, hB2⟩
end Go.Proofs.YtmkfmohahfaemaaDoor
