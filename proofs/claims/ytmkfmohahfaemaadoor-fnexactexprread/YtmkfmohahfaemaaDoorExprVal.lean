/-
  The model's l03Value: the number that a text may be.
-/
import Derived.Test.YtmkfmohahfaemaaDoorExprReadMath
import Derived.Test.YtmkfmohahfaemaaDoorTextC
namespace Go.Proofs.YtmkfmohahfaemaaDoor
open Go.RowKit

def vstep (n : Int) (c : UInt8) : Int := if 48 ≤ c.toNat ∧ c.toNat ≤ 57 then wrap64 (wrap64 (10 * n) - ((c.toNat : Int) - 48)) else n
def vto (l : List UInt8) (k : Nat) : Int := (l.take k).foldl vstep 0
def valOf (l : List UInt8) : Int := if l.head? = some 45 then vto l 20 else wrap64 (-(vto l 20))
theorem vto_zero (l : List UInt8) : vto l 0 = 0 := rfl
theorem vto_next {l : List UInt8} {k : Nat} (h : k < l.length) : vto l (k + 1) = vstep (vto l k) (l.getD k 0) := by
  unfold vto; rw [List.take_succ_eq_append_getElem h, List.foldl_append]; simp [List.getD, h]
theorem wrap64_in (n : Int) : I64 (wrap64 n) := by unfold I64 wrap64; omega
theorem wrap64_id {n : Int} (h : I64 n) : wrap64 n = n := by unfold I64 at h; unfold wrap64; omega
theorem vto_in (l : List UInt8) (k : Nat) : I64 (vto l k) := by
  unfold vto
  generalize l.take k = t
  have : ∀ (t : List UInt8) (n : Int), I64 n → I64 (t.foldl vstep n) := by
    intro t
    induction t with
    | nil => intro n h; exact h
    | cons c t ih => intro n h; rw [List.foldl_cons]; refine ih _ ?_; unfold vstep; split
                     · exact wrap64_in _
                     · exact h
  exact this t 0 (by unfold I64; omega)
theorem valOf_in (l : List UInt8) : I64 (valOf l) := by
  unfold valOf; split
  · exact vto_in l 20
  · exact wrap64_in _
theorem fold_dec (u : Nat) (hu : u ≤ 9223372036854775808) : (dec u).foldl vstep 0 = -(u : Int) := by
  induction u using Nat.strongRecOn with
  | _ u ih =>
    by_cases h : u < 10
    · rw [dec_small h]
      simp only [List.foldl_cons, List.foldl_nil, vstep, dby_nat h]
      rw [if_pos (by omega)]
      unfold wrap64; omega
    · rw [dec_big h, List.foldl_append, ih (u / 10) (by omega) (by omega)]
      have hd := dby_nat (d := u % 10) (by omega)
      simp only [List.foldl_cons, List.foldl_nil, vstep, hd]
      rw [if_pos (by omega)]
      unfold wrap64; omega
theorem valOf_dec {n : Int} (h0 : -9223372036854775808 ≤ n) (h1 : n ≤ 9223372036854775807) : valOf (decS n) = n := by
  have hl := decS_le h0 h1
  have ht : vto (decS n) 20 = (decS n).foldl vstep 0 := by unfold vto; rw [List.take_of_length_le hl]
  unfold valOf
  rw [ht]
  unfold decS
  by_cases hn : n < 0
  · rw [if_pos hn]
    have : vstep 0 45 = 0 := by decide
    rw [List.head?_cons, if_pos rfl, List.foldl_cons, this, fold_dec _ (by omega)]
    omega
  · rw [if_neg hn]
    obtain ⟨d, r, hd, he⟩ := dec_head (u := n.natAbs)
    have hne : ¬ (dec n.natAbs).head? = some 45 := by
      rw [he, List.head?_cons]; intro e; injection e with e; exact dby_ne hd (by decide) e
    rw [if_neg hne, fold_dec _ (by omega)]
    unfold wrap64; omega

set_option maxRecDepth 100000 in
set_option maxHeartbeats 1000000 in
theorem l03Value_any (l : List UInt8) (hl : l.length ≤ 1048576) (w : World) :
    Calls Tryd.prog 42 #[.string ⟨l.toArray⟩] w fun e w' => e = .returned (.int .i64 (valOf l)) ∧ w = w' := by
  have hsz : (⟨l.toArray⟩ : ByteArray).size = l.length := by simp [ByteArray.size]
  have hgt : ∀ k (h : k < (⟨l.toArray⟩ : ByteArray).size), ((⟨l.toArray⟩ : ByteArray)[k]'h) = l.getD k 0 := fun k h => by
    rw [hsz] at h
    simp [List.getD, h, ByteArray.getElem_eq_getElem_data]
  generalize (⟨l.toArray⟩ : ByteArray) = D at *
  have HG := Lib.hid hgt
  have HZ := Lib.hid hsz
  have hDl : D.size ≤ 1048576 := by omega
  clear hgt hsz hl
  go_enter Tryd.func42, Tryd.ntmps42
  go_wp2
  go_loop [3, 4] (fun x i => ∃ (k : Nat) (n : Int), k ≤ 20 ∧ k ≤ D.size ∧ i = .int .i64 k ∧ x = .int .i64 n ∧ Hid (n = vto l k) ∧ I64 n) (fun _ i => 20 - (intOf i).toNat)
  case atStart => exact ⟨0, 0, by omega, by omega, rfl, rfl, Lib.hid rfl, by unfold I64; omega⟩
  case round =>
    obtain ⟨k, n, hk, hk2, rfl, rfl, HV, hn⟩ := hrel
    have HN := Lib.hid hn
    clear hn
    by_cases hlt : k < D.size
    · by_cases h20 : k < 20
      · have hc := HG.out k hlt
        have HS := Lib.hid (vto_next (l := l) (k := k) (by rw [← HZ.out]; exact hlt))
        rw [← HV.out] at HS
        have hix : ∀ W, (Instr.index 9 (.string D) (.int .i64 (k : Int))).run Tryd.prog W = .ok (.int .u8 ((l.getD k 0).toNat : Int)) W := fun W => by
          rw [run_index_string W _ D .i64 k Tryd.underlying9, dif_pos ⟨by omega, by omega⟩]
          simp only [Int.toNat_natCast, hc]
        have h256 := (l.getD k 0).toNat_lt
        clear hc
        unfold vstep at HS
        generalize (l.getD k 0).toNat = c at *
        by_cases h48 : 48 ≤ c
        · by_cases h57 : c ≤ 57
          · rw [if_pos ⟨h48, h57⟩] at HS
            have g48 : (48 : Int) ≤ c := by omega
            have g57 : (c : Int) ≤ 57 := by omega
            go_wp2
            go_round
            case rel =>
              refine ⟨k + 1, _, by omega, by omega, by go_num, rfl, Lib.hid ?_, ?_⟩
              · rw [HS.out]
              · exact wrap64_in _
            case measure => simp [intOf]; omega
          · rw [if_neg (fun h => h57 h.2)] at HS
            have g48 : (48 : Int) ≤ c := by omega
            have g57 : ¬ (c : Int) ≤ 57 := by omega
            go_wp2
            go_round
            case rel => exact ⟨k + 1, n, by omega, by omega, by go_num, rfl, Lib.hid HS.out.symm, HN.out⟩
            case measure => simp [intOf]; omega
        · rw [if_neg (fun h => h48 h.1)] at HS
          have g48 : ¬ (48 : Int) ≤ c := by omega
          go_wp2
          go_round
          case rel => exact ⟨k + 1, n, by omega, by omega, by go_num, rfl, Lib.hid HS.out.symm, HN.out⟩
          case measure => simp [intOf]; omega
      · obtain rfl : k = 20 := by omega
        clear hk
        have HW : Hid (n = vto l 20) := Lib.hid (by rw [HV.out])
        have HX : Hid (valOf l = if l.head? = some 45 then n else wrap64 (-n)) := Lib.hid (by unfold valOf; rw [← HW.out])
        cases l with
        | nil =>
          have h0 : D.size = 0 := by rw [HZ.out]; rfl
          omega
        | cons c r =>
          have h0 : (D.size : Int) > 0 := by have := HZ.out; simp only [List.length_cons] at this; omega
          have hix : ∀ W, (Instr.index 9 (.string D) (.int .i64 0)).run Tryd.prog W = .ok (.int .u8 (c.toNat : Int)) W := fun W => by
            have hp : 0 < D.size := by omega
            have hc := HG.out 0 hp
            rw [run_index_string W _ D .i64 0 Tryd.underlying9, dif_pos ⟨by omega, by omega⟩]
            simp only [Int.toNat_zero, hc]; rfl
          by_cases h45 : c = 45
          · subst h45
            have t45 : (((45 : UInt8).toNat : Int) == 45) = true := by decide
            go_wp2
            go_ret
            exact ⟨ret_int (by rw [HX.out]; rfl), rfl⟩
          · have t45 : ((c.toNat : Int) == 45) = false := by
              rw [beq_eq_false_iff_ne]; intro e; exact h45 (UInt8.toNat_inj.1 (by show c.toNat = 45; omega))
            have h45' : ¬ (c :: r).head? = some 45 := by simpa using h45
            go_wp2
            go_ret
            exact ⟨ret_int (by rw [HX.out, if_neg h45']), rfl⟩
    · have HW : Hid (n = vto l 20) := Lib.hid (by rw [HV.out]; unfold vto; rw [List.take_of_length_le (by rw [← HZ.out]; omega), List.take_of_length_le (by rw [← HZ.out]; omega)])
      have HX : Hid (valOf l = if l.head? = some 45 then n else wrap64 (-n)) := Lib.hid (by unfold valOf; rw [← HW.out])
      cases l with
      | nil =>
        have h0 : D.size = 0 := by rw [HZ.out]; rfl
        go_wp2
        go_ret
        exact ⟨ret_int (by rw [HX.out]; rfl), rfl⟩
      | cons c r =>
        have h0 : (D.size : Int) > 0 := by have := HZ.out; simp only [List.length_cons] at this; omega
        have hix : ∀ W, (Instr.index 9 (.string D) (.int .i64 0)).run Tryd.prog W = .ok (.int .u8 (c.toNat : Int)) W := fun W => by
          have hp : 0 < D.size := by omega
          have hc := HG.out 0 hp
          rw [run_index_string W _ D .i64 0 Tryd.underlying9, dif_pos ⟨by omega, by omega⟩]
          simp only [Int.toNat_zero, hc]; rfl
        by_cases h45 : c = 45
        · subst h45
          have t45 : (((45 : UInt8).toNat : Int) == 45) = true := by decide
          go_wp2
          go_ret
          exact ⟨ret_int (by rw [HX.out]; rfl), rfl⟩
        · have t45 : ((c.toNat : Int) == 45) = false := by
            rw [beq_eq_false_iff_ne]; intro e; exact h45 (UInt8.toNat_inj.1 (by show c.toNat = 45; omega))
          have h45' : ¬ (c :: r).head? = some 45 := by simpa using h45
          go_wp2
          go_ret
          exact ⟨ret_int (by rw [HX.out, if_neg h45']), rfl⟩
end Go.Proofs.YtmkfmohahfaemaaDoor
