/-
  ExprText of the model.
-/
import Derived.Test.YtmkfmohahfaemaaDoorExprS
import Derived.Test.YtmkfmohahfaemaaDoorExprWords
import Derived.Test.YtmkfmohahfaemaaDoorTextC
import Derived.Deep.RegionWith
namespace Go.Proofs.YtmkfmohahfaemaaDoor
open Go.RowKit

theorem cat_text (a b : List UInt8) : (⟨a.toArray⟩ : ByteArray) ++ ⟨b.toArray⟩ = ⟨(a ++ b).toArray⟩ := by
  apply ByteArray.ext
  simp
theorem cat_blank (a d : List UInt8) : (⟨a.toArray⟩ : ByteArray) ++ ⟨#[32]⟩ ++ ⟨d.toArray⟩ = ⟨(a ++ 32 :: d).toArray⟩ := by
  apply ByteArray.ext
  simp
theorem ret_str {a b : ByteArray} (h : a = b) : Ending.returned (.string a) = .returned (.string b) := by rw [h]
theorem size_text (l : List UInt8) : (⟨l.toArray⟩ : ByteArray).size = l.length := by simp [ByteArray.size]
theorem i64_wr {n : Int} (h : I64 n) : Wr n := by unfold I64 at h; unfold Wr; omega

set_option maxHeartbeats 400000 in
theorem l03Num_any (n : Int) (w : World) (hn : I64 n) :
    Calls Tryd.prog 37 #[.int .i64 n] w fun e w' => e = .returned (.string ⟨(decS n).toArray⟩) ∧ Below w.heap.size w w' := by
  have HO := Lib.hid (fun W => specWideOf_any n W hn)
  have HT := Lib.hid (fun W => specWideText_any (hi n) (lo n) n W (i64_wr hn) rfl rfl)
  generalize hi n = h at *
  generalize lo n = l at *
  generalize (⟨(decS n).toArray⟩ : ByteArray) = D at *
  go_enter Tryd.func37, Tryd.ntmps37
  go_wp2_with fail
  refine (HO.out _).mono ?_
  rintro e w1 ⟨rfl, hb1⟩
  go_wp2_with fail
  refine (HT.out _).mono ?_
  rintro e w2 ⟨rfl, hb2⟩
  go_wp2
  go_ret
  exact ⟨rfl, below_trans hb1 hb2⟩

def signCells : Array Value := (signs.map fun l => Value.string ⟨l.toArray⟩).toArray
set_option maxHeartbeats 400000 in
theorem l03Signs_any (w : World) :
    Calls Tryd.prog 38 #[] w fun e w' => e = .returned (.slice (some ⟨w.heap.size, 0, none⟩) 12 12) ∧ w' = w.alloc (.cells signCells 9) := by
  go_enter Tryd.func38, Tryd.ntmps38
  go_wp2
  go_ret
  exact ⟨rfl, rfl⟩
theorem signCells_at {k : Nat} (h : k < 12) : signCells[k]? = some (.string ⟨(sign k).toArray⟩) := by
  unfold signCells sign
  have hl : k < signs.length := by simpa [signs] using h
  simp [hl]

theorem depthOf_len {es : List (Int × Int)} (h : 0 ≤ depthOf es) : es.length ≤ 20 := by
  unfold depthOf at h; split at h <;> omega
theorem ok_good {es : List (Int × Int)} (h : 0 ≤ depthOf es) {k : Nat} (hk : k < es.length) : tokGood (es.getD k (0, 0)) := by
  have aux : ∀ (l : List (Int × Int)) (n m : Int), 0 ≤ dep l n m → ∀ t ∈ l, tokGood t := by
    intro l
    induction l with
    | nil => intro n m _ t ht; cases ht
    | cons x l ih =>
      intro n m h t ht
      rw [dep_cons] at h
      split at h
      · rename_i hg
        rcases List.mem_cons.1 ht with rfl | ht
        · exact hg.1
        · exact ih _ _ h t ht
      · omega
  unfold depthOf at h
  split at h
  · refine aux es 0 0 h _ ?_
    simp [List.getD, hk]
  · omega

set_option maxRecDepth 100000 in
set_option maxHeartbeats 2000000 in
theorem specExprText_any (A : Option Addr) (ca : Nat) (es : List (Int × Int)) (w : World) (hA : Rd w A (ez es)) (hn : es.length ≤ 1048576) (hi : Ints es) :
    Calls Tryd.prog 18 #[.slice A es.length ca] w fun e w' => e = .returned (.string ⟨(textOf es).toArray⟩) ∧ Below w.heap.size w w' := by
  have HA := Lib.hid (fun W (h : Below w.heap.size w W) => hA.below h)
  by_cases hok : 0 ≤ depthOf es
  case neg =>
    have hB : decide (0 ≤ depthOf es) = false := by simp [hok]
    have HX : Hid (textOf es = []) := Lib.hid (by unfold textOf; rw [if_neg hok])
    go_enter Tryd.func18, Tryd.ntmps18
    go_wp2
    refine wp_loop_rounds 1 ?_
    rw [rounds_succ]
    go_wp2_with (go_at_call 9; refine (as_bool hB (specExprOk_any A ca es _ hA hn)).mono ?_; rintro e w' ⟨rfl, rfl⟩)
    go_ret
    exact ⟨ret_str (by rw [HX.out]), Below.refl _ _⟩
  have hB : decide (0 ≤ depthOf es) = true := by simp [hok]
  have hlen := depthOf_len hok
  have HG := Lib.hid (fun (k : Nat) (hk : k < es.length) => ok_good hok hk)
  have HT : Hid (textOf es = textTo es es.length) := Lib.hid (by rw [textTo_all]; simp [textOf, hok])
  have HL := Lib.hid (fun k (hk : k ≤ es.length) => textTo_le hi k hk)
  have HI := Lib.hid hi
  clear hok hi
  go_enter Tryd.func18, Tryd.ntmps18
  go_wp2
  go_loopw [3, 4] (fun s i wr => ∃ (k : Nat) (S : ByteArray), k ≤ es.length ∧ i = .int .i64 k ∧ s = .string S ∧ Hid (S = ⟨(textTo es k).toArray⟩) ∧ S.size ≤ 420 ∧ Below w.heap.size w wr) (fun _ i _ => es.length - (intOf i).toNat)
  case atStart => exact ⟨0, ⟨#[]⟩, Nat.zero_le _, rfl, rfl, Lib.hid rfl, by decide, Below.refl _ _⟩
  case round =>
    obtain ⟨k, S, hk, rfl, rfl, HS, hsz, hbel⟩ := hrel
    by_cases hlt : k < es.length
    · have hg := HG.out k hlt
      have hi := HI.out k hlt
      obtain ⟨b, off, rfl, h1⟩ := hA.edge hlt
      obtain ⟨c0, c1⟩ := h1 wr hbel
      obtain ⟨d0, _⟩ := h1 (wr.alloc (.cells signCells 9)) (below_trans hbel (below_alloc _ _))
      clear h1
      have hw : word (es.getD k (0, 0)) = if elo es k = 0 then decS (ehi es k) else sign (elo es k).toNat := rfl
      have HN0 : Hid (k = 0 → textTo es (k + 1) = word (es.getD k (0, 0))) := Lib.hid (by rintro rfl; exact textTo_first hlt)
      have HN1 : Hid (0 < k → textTo es (k + 1) = textTo es k ++ 32 :: word (es.getD k (0, 0))) := Lib.hid (textTo_next hlt)
      have HLk := Lib.hid (HL.out (k + 1) (by omega))
      rw [at_pair] at hg hi
      generalize elo es k = op at *
      generalize ehi es k = N at *
      have CO := Lib.hid (as_bool hB (specExprOk_any (some ⟨b, off, none⟩) ca es wr (HA.out wr hbel) hn))
      have hop : 0 ≤ op ∧ op ≤ 11 := by unfold tokGood at hg; simp only at hg; omega
      simp only at hi
      by_cases hz : op = 0
      · subst hz
        rw [if_pos rfl] at hw
        have hD : (⟨(decS N).toArray⟩ : ByteArray).size ≤ 20 := by rw [size_text]; exact decS_le hi.2.1 hi.2.2
        have CN := Lib.hid (fun W => l03Num_any N W hi.2)
        have HD := Lib.hid (show (⟨(decS N).toArray⟩ : ByteArray) = ⟨(word (es.getD k (0, 0))).toArray⟩ by rw [hw])
        have HLs := Lib.hid (show (⟨(textTo es (k + 1)).toArray⟩ : ByteArray).size ≤ 420 by rw [size_text]; have := HLk.out; omega)
        generalize (⟨(decS N).toArray⟩ : ByteArray) = D at *
        clear hw
        by_cases hk0 : k = 0
        · subst hk0
          simp only [Nat.zero_mul, Nat.add_zero] at c0 c1
          have HE : Hid (S ++ D = ⟨(textTo es (0 + 1)).toArray⟩) := Lib.hid (by rw [HS.out, HD.out, HN0.out rfl, textTo_zero, cat_text]; rfl)
          go_wp2_with (first | (go_at_call 9; refine CO.out.mono ?_; rintro e w' ⟨rfl, rfl⟩) | (go_at_call 37; refine (CN.out _).mono ?_; rintro e w1 ⟨rfl, hb1⟩))
          go_roundw
          case rel => exact ⟨0 + 1, _, by omega, by go_num, rfl, HE, by rw [HE.out]; exact HLs.out, below_trans hbel hb1⟩
          case measure => simp [intOf]; omega
        · have hkp : (k : Int) > 0 := by omega
          have HE : Hid (S ++ ⟨#[32]⟩ ++ D = ⟨(textTo es (k + 1)).toArray⟩) := Lib.hid (by rw [HS.out, HD.out, HN1.out (by omega), cat_blank])
          go_wp2_with (first | (go_at_call 9; refine CO.out.mono ?_; rintro e w' ⟨rfl, rfl⟩) | (go_at_call 37; refine (CN.out _).mono ?_; rintro e w1 ⟨rfl, hb1⟩))
          go_roundw
          case rel => exact ⟨k + 1, _, by omega, by go_num, rfl, HE, by rw [HE.out]; exact HLs.out, below_trans hbel hb1⟩
          case measure => simp [intOf]; omega
      · have tz : (op == 0) = false := by simpa using hz
        rw [if_neg hz] at hw
        obtain ⟨j, rfl⟩ : ∃ j : Nat, op = (j : Int) := ⟨op.toNat, by omega⟩
        rw [Int.toNat_natCast] at hw
        have hj : j < 12 := by omega
        have hD : (⟨(sign j).toArray⟩ : ByteArray).size ≤ 20 := by rw [size_text]; have := sign_le j; omega
        have s0 : (wr.alloc (.cells signCells 9)).cell? ⟨wr.heap.size, j, none⟩ = some (.string ⟨(sign j).toArray⟩) := by
          rw [cell_of_row _ wr.heap.size j signCells 9 (0, 0) (heap_alloc_new wr _)]; exact signCells_at hj
        have HD := Lib.hid (show (⟨(sign j).toArray⟩ : ByteArray) = ⟨(word (es.getD k (0, 0))).toArray⟩ by rw [hw])
        have HLs := Lib.hid (show (⟨(textTo es (k + 1)).toArray⟩ : ByteArray).size ≤ 420 by rw [size_text]; have := HLk.out; omega)
        generalize (⟨(sign j).toArray⟩ : ByteArray) = D at *
        clear hw
        by_cases hk0 : k = 0
        · subst hk0
          simp only [Nat.zero_mul, Nat.add_zero] at c0 c1 d0
          have HE : Hid (S ++ D = ⟨(textTo es (0 + 1)).toArray⟩) := Lib.hid (by rw [HS.out, HD.out, HN0.out rfl, textTo_zero, cat_text]; rfl)
          go_wp2_with (go_at_call 9; refine CO.out.mono ?_; rintro e w' ⟨rfl, rfl⟩)
          go_region_with (go_at_call 38; refine (l03Signs_any _).mono ?_; rintro e w1 ⟨rfl, rfl⟩)
          all_goals
            go_wp2
            go_roundw
            case rel => exact ⟨0 + 1, _, by omega, by go_num, rfl, HE, by rw [HE.out]; exact HLs.out, by first | exact below_trans hbel (below_alloc _ _) | exact (below_trans hbel (below_alloc _ _)).drew | exact ((below_trans hbel (below_alloc _ _)).drew).drew⟩
            case measure => simp [intOf]; omega
        · have hkp : (k : Int) > 0 := by omega
          have HE : Hid (S ++ ⟨#[32]⟩ ++ D = ⟨(textTo es (k + 1)).toArray⟩) := Lib.hid (by rw [HS.out, HD.out, HN1.out (by omega), cat_blank])
          go_wp2_with (go_at_call 9; refine CO.out.mono ?_; rintro e w' ⟨rfl, rfl⟩)
          go_region_with (go_at_call 38; refine (l03Signs_any _).mono ?_; rintro e w1 ⟨rfl, rfl⟩)
          all_goals
            go_wp2
            go_roundw
            case rel => exact ⟨k + 1, _, by omega, by go_num, rfl, HE, by rw [HE.out]; exact HLs.out, by first | exact below_trans hbel (below_alloc _ _) | exact (below_trans hbel (below_alloc _ _)).drew | exact ((below_trans hbel (below_alloc _ _)).drew).drew⟩
            case measure => simp [intOf]; omega
    · have hkl : k = es.length := by omega
      subst hkl
      have CO := Lib.hid (as_bool hB (specExprOk_any A ca es wr (HA.out wr hbel) hn))
      go_wp2_with (go_at_call 9; refine CO.out.mono ?_; rintro e w' ⟨rfl, rfl⟩)
      go_ret
      exact ⟨ret_str (by rw [HS.out, HT.out]), hbel⟩
end Go.Proofs.YtmkfmohahfaemaaDoor
