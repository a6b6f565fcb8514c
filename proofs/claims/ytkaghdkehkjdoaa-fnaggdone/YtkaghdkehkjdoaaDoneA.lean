/-
  AggDone of the program, whole: what it returns.
-/
import Derived.Test.YtkaghdkehkjdoaaDoneI
namespace Go.Proofs.Ytkaghdkehkjdoaa
open Go.RowKit

theorem aggOk_top0 {N z mn mx : Int} {top : List Int} (h : aggOk N z mn mx top) (h0 : N ≠ 0) : 0 < N ∧ N ≤ 1000000 ∧ 0 < top.length ∧ top.length ≤ 4 := by
  obtain ⟨h1, h2, h3, -⟩ := (aggOk_some h0).1 h
  split at h3 <;> omega
theorem some_of {A : Option Addr} {n ca : Nat} (hf : SFit A n ca) (h : 0 < n) : ∃ ad, A = some ad := by
  cases A with
  | none => have := hf.1; have := hf.2 rfl; omega
  | some ad => exact ⟨ad, rfl⟩
/-- the first k of Top -/
theorem take_pick {top : List Int} {n : Nat} {k : Int} (hz : top.length = n) (h1 : 1 ≤ k) : ∃ p : Nat, p ≤ n ∧ min k (n : Int) = (p : Int) ∧ top.take k.toNat = top.take p ∧ (top.take k.toNat).length = p := by
  by_cases h : (n : Int) < k
  · refine ⟨n, Nat.le_refl _, by omega, ?_, ?_⟩
    · rw [List.take_of_length_le (by omega), List.take_of_length_le (by omega)]
    · rw [List.length_take]; omega
  · exact ⟨k.toNat, by omega, by omega, rfl, by rw [List.length_take]; omega⟩

set_option maxRecDepth 100000 in
set_option maxHeartbeats 4000000 in
theorem implAggDone_any (q k N z mn mx m : Int) (ok : Bool) (A : Option Addr) (n ca : Nat) (top : List Int) (L : List Int) (ln : Nat) (b : Bool) (w : World) (hA : Rd w A (iz top)) (hz : top.length = n) (hn : n ≤ 1048576) (hf : SFit A n ca)
    (h64 : ∀ x ∈ top, I64 x) (hm : I64 mn) (hw : Wr z)
    (HM : ∀ W, Calls Try.prog 67 #[.agg #[.int .i64 (hi z), .int .u64 (lo z)], .int .i64 N] W (IntRes W m ok)) (hD : DoneIs q k N z mn mx m top L b) (hL : L.length = ln) :
    Calls Try.prog 19 #[.int .i64 q, .int .i64 k, agv N (hi z) (lo z) mn mx (.slice A n ca)] w (DoneRes L ln b w) := by
  have HO := Lib.hid (fun W (hb : Below w.heap.size w W) => implAggOk_any N z mn mx _ _ A n ca top W (hA.below hb) hz hn h64 hm hw rfl rfl)
  have HA := Lib.hid (fun W (hb : Below w.heap.size w W) => hA.below hb)
  have o1 := Own.new w 31 (agc N (hi z) (lo z) mn mx (.slice A n ca))
  have hb := below_alloc w (.cells (agc N (hi z) (lo z) mn mx (.slice A n ca)).toArray 31)
  obtain ⟨b0, b1, b2, b3, b4, b5⟩ := o1.six
  have HW := Lib.hid hw
  have HMM := Lib.hid HM
  clear h64 hm hA hw HM
  by_cases hk : kindOk q k
  · have HK := Lib.hid (fun W => as_bool (tf_yes hk).symm (implAggKind_any q k W))
    by_cases h0 : N = 0
    · obtain ⟨rfl, rfl⟩ := hD.no (fun h => h.2.1 h0)
      subst h0
      obtain rfl : ln = 0 := hL.symm
      clear hk hD HMM hf hL
      go_enter Try.func19, Try.ntmps19
      go_wp2_with fail
      refine (HK.out _).mono ?_
      rintro e _ ⟨rfl, rfl⟩
      go_wp2
      go_ret2
      exact ⟨none, 0, rfl, row_nil, hb⟩
    · by_cases ho : aggOk N z mn mx top
      · replace HO := Lib.hid (fun W hb => as_bool (tf_yes ho).symm (HO.out W hb))
        have hd : doneOk q k N z mn mx top := ⟨hk, h0, ho⟩
        obtain ⟨t1, t2, t3, t4⟩ := aggOk_top0 ho h0
        have h0' : (N == 0) = false := by simp [h0]
        have hq : (q = 1 ∨ q = 3 ∨ q = 4 ∨ q = 5) ∨ q = 2 ∨ q = 6 ∧ 1 ≤ k := by unfold kindOk at hk; omega
        rcases hq with hq | hq | ⟨hq, hk1⟩
        · obtain ⟨r, rfl, rfl, hr⟩ : ∃ r, L = [r] ∧ b = false ∧ (q = 1 ∧ r = N ∨ q = 3 ∧ r = mn ∨ q = 4 ∧ r = mx ∨ q = 5 ∧ r = m) := by
            rcases hq with h | h | h | h
            · exact ⟨N, (hD.one hd h).1, (hD.one hd h).2, .inl ⟨h, rfl⟩⟩
            · exact ⟨mn, (hD.least hd h).1, (hD.least hd h).2, .inr (.inl ⟨h, rfl⟩)⟩
            · exact ⟨mx, (hD.most hd h).1, (hD.most hd h).2, .inr (.inr (.inl ⟨h, rfl⟩))⟩
            · exact ⟨m, (hD.mean hd h).1, (hD.mean hd h).2, .inr (.inr (.inr ⟨h, rfl⟩))⟩
          obtain rfl : ln = 1 := hL.symm
          have HON := Lib.hid (fun W => implOneDone_any q N z mn mx m r ok (.slice A n ca) W HMM.out hr)
          clear hr hd ho hD hk HMM hf h0 t1 t2 t3 t4 hL
          rcases hq with rfl | rfl | rfl | rfl
          all_goals
            go_enter Try.func19, Try.ntmps19
            go_wp2_with fail
            refine (HK.out _).mono ?_
            rintro e _ ⟨rfl, rfl⟩
            go_wp2_with fail
            clear b0 b1 b2 b3 b4 b5
            refine (HO.out _ hb).mono ?_
            rintro e w2 ⟨rfl, hb2⟩
            replace o1 := o1.grow hb2
            replace hb := below_trans hb hb2
            clear hb2
            obtain ⟨b0, b1, b2, b3, b4, b5⟩ := o1.six
            go_wp2_with fail
            clear b0 b1 b2 b3 b4 b5 o1
            refine (HON.out _).mono ?_
            rintro e w3 ⟨rfl, hb3⟩
            replace hb := below_trans hb hb3
            clear hb3
            go_wp2
            go_ret2
            exact ⟨_, _, rfl, row_int r hb, below_trans hb (below_alloc _ _)⟩
        · subst hq
          have HS := Lib.hid (fun W => implSumDone_any z L ln b W hL HW.out (hD.sum hd rfl) (hD.over hd rfl))
          clear hd ho hD hk HMM hf h0 t1 t2 t3 t4 hL
          go_enter Try.func19, Try.ntmps19
          go_wp2_with fail
          refine (HK.out _).mono ?_
          rintro e _ ⟨rfl, rfl⟩
          go_wp2_with fail
          clear b0 b1 b2 b3 b4 b5
          refine (HO.out _ hb).mono ?_
          rintro e w2 ⟨rfl, hb2⟩
          replace o1 := o1.grow hb2
          replace hb := below_trans hb hb2
          clear hb2
          obtain ⟨b0, b1, b2, b3, b4, b5⟩ := o1.six
          go_wp2_with fail
          clear b0 b1 b2 b3 b4 b5 o1
          refine (HS.out _).mono ?_
          rintro e w3 ⟨A3, c3, rfl, r3, hb3⟩
          replace r3 := r3.base hb.size
          replace hb := below_trans hb hb3
          clear hb3
          go_wp2
          go_ret2
          exact ⟨A3, c3, rfl, r3, hb⟩
        · subst hq
          obtain ⟨rfl, rfl⟩ := hD.top hd rfl
          obtain ⟨p, hp, hmin, hL1, hL2⟩ := take_pick hz hk1
          obtain rfl : ln = p := hL.symm.trans hL2
          rw [hL1]
          obtain ⟨ad, rfl⟩ := some_of hf (by omega)
          have HF := Lib.hid (fun W (hb : Below w.heap.size w W) => int_front (HA.out W hb) hz (by omega) hp hf)
          have hsl := (HF.out _ (Below.refl _ _)).1
          have hlt : (top.take ln).length = ln := by rw [← hL1]; exact hL2
          have HLN := Lib.hid (And.intro hlt (show ln ≤ 1048576 by omega))
          clear hd ho hD hk HMM hf h0 t1 t2 t3 t4 hL hL1 hL2 hlt hp HW
          go_enter Try.func19, Try.ntmps19
          go_wp2_with fail
          refine (HK.out _).mono ?_
          rintro e _ ⟨rfl, rfl⟩
          go_wp2_with fail
          clear b0 b1 b2 b3 b4 b5
          refine (HO.out _ hb).mono ?_
          rintro e w2 ⟨rfl, hb2⟩
          replace o1 := o1.grow hb2
          replace hb := below_trans hb hb2
          clear hb2
          obtain ⟨b0, b1, b2, b3, b4, b5⟩ := o1.six
          go_wp2_with fail
          clear b0 b1 b2 b3 b4 b5 o1
          refine (cloneInt_any ad ln ca (top.take ln) _ (HF.out _ hb).2.1 HLN.out.1 HLN.out.2 (HF.out _ hb).2.2).mono ?_
          rintro e w3 ⟨A3, c3, rfl, hown, hb3⟩
          have r3 := (RowAt.of hown).base hb.size
          replace hb := below_trans hb hb3
          clear hb3 hown
          go_wp2
          go_ret2
          exact ⟨A3, c3, rfl, r3, hb⟩
      · obtain ⟨rfl, rfl⟩ := hD.no (fun h => ho h.2.2)
        obtain rfl : ln = 0 := hL.symm
        replace HO := Lib.hid (fun W hb => as_bool (tf_no ho).symm (HO.out W hb))
        have h0' : (N == 0) = false := by simp [h0]
        clear hk hD HMM hf h0 ho hL
        go_enter Try.func19, Try.ntmps19
        go_wp2_with fail
        refine (HK.out _).mono ?_
        rintro e _ ⟨rfl, rfl⟩
        go_wp2_with fail
        clear b0 b1 b2 b3 b4 b5
        refine (HO.out _ hb).mono ?_
        rintro e w2 ⟨rfl, hb2⟩
        replace hb := below_trans hb hb2
        go_wp2
        go_ret2
        exact ⟨none, 0, rfl, row_nil, hb⟩
  · obtain ⟨rfl, rfl⟩ := hD.no (fun h => hk h.1)
    obtain rfl : ln = 0 := hL.symm
    have HK := Lib.hid (fun W => as_bool (tf_no hk).symm (implAggKind_any q k W))
    clear hk hD HMM hf hL
    go_enter Try.func19, Try.ntmps19
    go_wp2_with fail
    refine (HK.out _).mono ?_
    rintro e _ ⟨rfl, rfl⟩
    go_wp2
    go_ret2
    exact ⟨none, 0, rfl, row_nil, hb⟩

end Go.Proofs.Ytkaghdkehkjdoaa
