/-
  AggDone of the model: what it returns.
-/
import Derived.Test.YtkaghdkehkjdoaaDoneA
import Derived.Test.YtkaghdkehkjdoaaAggOkS
namespace Go.Proofs.Ytkaghdkehkjdoaa
open Go.RowKit

set_option maxRecDepth 100000 in
set_option maxHeartbeats 4000000 in
theorem specAggDone_any (q k N z mn mx m : Int) (ok : Bool) (A : Option Addr) (n ca : Nat) (top : List Int) (L : List Int) (ln : Nat) (b : Bool) (w : World) (hA : Rd w A (iz top)) (hz : top.length = n) (hn : n ≤ 1048576) (hf : SFit A n ca)
    (h64 : ∀ x ∈ top, I64 x) (hm : I64 mn) (hw : Wr z)
    (HM : ∀ W, Calls Try.prog 51 #[.agg #[.int .i64 (hi z), .int .u64 (lo z)], .int .i64 N] W (IntRes W m ok)) (hD : DoneIs q k N z mn mx m top L b) (hL : L.length = ln) :
    Calls Try.prog 20 #[.int .i64 q, .int .i64 k, agv N (hi z) (lo z) mn mx (.slice A n ca)] w (DoneRes L ln b w) := by
  have HO := Lib.hid (fun W (hb : Below w.heap.size w W) => specAggOk_any N z mn mx _ _ A n ca top W (hA.below hb) hz hn hf h64 hm hw rfl rfl)
  have HA := Lib.hid (fun W (hb : Below w.heap.size w W) => hA.below hb)
  have o1 := Own.new w 31 (agc N (hi z) (lo z) mn mx (.slice A n ca))
  have hb := below_alloc w (.cells (agc N (hi z) (lo z) mn mx (.slice A n ca)).toArray 31)
  obtain ⟨b0, b1, b2, b3, b4, b5⟩ := o1.six
  have HW := Lib.hid hw
  have HMM := Lib.hid HM
  clear h64 hm hA hw HM
  by_cases ho : aggOk N z mn mx top
  · replace HO := Lib.hid (fun W hb => as_bool (tf_yes ho).symm (HO.out W hb))
    by_cases h0 : N = 0
    · obtain ⟨rfl, rfl⟩ := hD.no (fun h => h.2.1 h0)
      subst h0
      obtain rfl : ln = 0 := hL.symm
      clear ho hD HMM hf hL
      go_enter Try.func20, Try.ntmps20
      go_wp2_with fail
      clear b0 b1 b2 b3 b4 b5
      refine (HO.out _ hb).mono ?_
      rintro e w2 ⟨rfl, hb2⟩
      replace o1 := o1.grow hb2
      replace hb := below_trans hb hb2
      clear hb2
      obtain ⟨b0, b1, b2, b3, b4, b5⟩ := o1.six
      go_wp2
      go_ret2
      exact ⟨none, 0, rfl, row_nil, hb⟩
    · have h0' : (N == 0) = false := by simp [h0]
      by_cases hk : kindOk q k
      · have HK := Lib.hid (fun W => as_bool (tf_yes hk).symm (specAggKind_any q k W))
        have hd : doneOk q k N z mn mx top := ⟨hk, h0, ho⟩
        obtain ⟨t1, t2, t3, t4⟩ := aggOk_top0 ho h0
        have hq : q = 1 ∨ q = 2 ∨ q = 3 ∨ q = 4 ∨ q = 5 ∨ q = 6 ∧ 1 ≤ k := by unfold kindOk at hk; omega
        rcases hq with hq | hq | hq | hq | hq | ⟨hq, hk1⟩
        · subst hq
          obtain ⟨rfl, rfl⟩ := hD.one hd rfl
          obtain rfl : ln = 1 := hL.symm
          clear hd ho hD hk HMM hf h0 t1 t2 t3 t4 hL
          go_enter Try.func20, Try.ntmps20
          go_wp2_with fail
          clear b0 b1 b2 b3 b4 b5
          refine (HO.out _ hb).mono ?_
          rintro e w2 ⟨rfl, hb2⟩
          replace o1 := o1.grow hb2
          replace hb := below_trans hb hb2
          clear hb2
          obtain ⟨b0, b1, b2, b3, b4, b5⟩ := o1.six
          go_wp2_with fail
          refine (HK.out _).mono ?_
          rintro e _ ⟨rfl, rfl⟩
          go_wp2
          go_ret2
          exact ⟨_, _, rfl, row_int N hb, below_trans hb (below_alloc _ _)⟩
        · subst hq
          by_cases hi64 : I64 z
          · obtain ⟨rfl, rfl⟩ := hD.sum hd rfl hi64
            obtain rfl : ln = 1 := hL.symm
            have HS := Lib.hid (fun W => specWideInt_yes _ _ z W hi64 rfl rfl)
            clear hd ho hD hk HMM hf h0 t1 t2 t3 t4 hL
            go_enter Try.func20, Try.ntmps20
            go_wp2_with fail
            clear b0 b1 b2 b3 b4 b5
            refine (HO.out _ hb).mono ?_
            rintro e w2 ⟨rfl, hb2⟩
            replace o1 := o1.grow hb2
            replace hb := below_trans hb hb2
            clear hb2
            obtain ⟨b0, b1, b2, b3, b4, b5⟩ := o1.six
            go_wp2_with fail
            refine (HK.out _).mono ?_
            rintro e _ ⟨rfl, rfl⟩
            go_wp2_with fail
            clear b0 b1 b2 b3 b4 b5 o1
            refine (HS.out _).mono ?_
            rintro e w3 ⟨rfl, hb3⟩
            replace hb := below_trans hb hb3
            clear hb3
            go_wp2
            go_ret2
            exact ⟨_, _, rfl, row_int z hb, below_trans hb (below_alloc _ _)⟩
          · obtain ⟨rfl, rfl⟩ := hD.over hd rfl hi64
            obtain rfl : ln = 0 := hL.symm
            have HS := Lib.hid (fun W => specWideInt_no _ _ z W HW.out hi64 rfl rfl)
            clear hd ho hD hk HMM hf h0 t1 t2 t3 t4 hL
            go_enter Try.func20, Try.ntmps20
            go_wp2_with fail
            clear b0 b1 b2 b3 b4 b5
            refine (HO.out _ hb).mono ?_
            rintro e w2 ⟨rfl, hb2⟩
            replace o1 := o1.grow hb2
            replace hb := below_trans hb hb2
            clear hb2
            obtain ⟨b0, b1, b2, b3, b4, b5⟩ := o1.six
            go_wp2_with fail
            refine (HK.out _).mono ?_
            rintro e _ ⟨rfl, rfl⟩
            go_wp2_with fail
            clear b0 b1 b2 b3 b4 b5 o1
            refine (HS.out _).mono ?_
            rintro e w3 ⟨rfl, hb3⟩
            replace hb := below_trans hb hb3
            clear hb3
            go_wp2
            go_ret2
            exact ⟨_, _, rfl, row_nil, hb⟩
        · subst hq
          obtain ⟨rfl, rfl⟩ := hD.least hd rfl
          obtain rfl : ln = 1 := hL.symm
          clear hd ho hD hk HMM hf h0 t1 t2 t3 t4 hL
          go_enter Try.func20, Try.ntmps20
          go_wp2_with fail
          clear b0 b1 b2 b3 b4 b5
          refine (HO.out _ hb).mono ?_
          rintro e w2 ⟨rfl, hb2⟩
          replace o1 := o1.grow hb2
          replace hb := below_trans hb hb2
          clear hb2
          obtain ⟨b0, b1, b2, b3, b4, b5⟩ := o1.six
          go_wp2_with fail
          refine (HK.out _).mono ?_
          rintro e _ ⟨rfl, rfl⟩
          go_wp2
          go_ret2
          exact ⟨_, _, rfl, row_int mn hb, below_trans hb (below_alloc _ _)⟩
        · subst hq
          obtain ⟨rfl, rfl⟩ := hD.most hd rfl
          obtain rfl : ln = 1 := hL.symm
          clear hd ho hD hk HMM hf h0 t1 t2 t3 t4 hL
          go_enter Try.func20, Try.ntmps20
          go_wp2_with fail
          clear b0 b1 b2 b3 b4 b5
          refine (HO.out _ hb).mono ?_
          rintro e w2 ⟨rfl, hb2⟩
          replace o1 := o1.grow hb2
          replace hb := below_trans hb hb2
          clear hb2
          obtain ⟨b0, b1, b2, b3, b4, b5⟩ := o1.six
          go_wp2_with fail
          refine (HK.out _).mono ?_
          rintro e _ ⟨rfl, rfl⟩
          go_wp2
          go_ret2
          exact ⟨_, _, rfl, row_int mx hb, below_trans hb (below_alloc _ _)⟩
        · subst hq
          obtain ⟨rfl, rfl⟩ := hD.mean hd rfl
          obtain rfl : ln = 1 := hL.symm
          clear hd ho hD hk hf h0 t1 t2 t3 t4 hL
          go_enter Try.func20, Try.ntmps20
          go_wp2_with fail
          clear b0 b1 b2 b3 b4 b5
          refine (HO.out _ hb).mono ?_
          rintro e w2 ⟨rfl, hb2⟩
          replace o1 := o1.grow hb2
          replace hb := below_trans hb hb2
          clear hb2
          obtain ⟨b0, b1, b2, b3, b4, b5⟩ := o1.six
          go_wp2_with fail
          refine (HK.out _).mono ?_
          rintro e _ ⟨rfl, rfl⟩
          go_wp2_with fail
          clear b0 b1 b2 b3 b4 b5 o1
          refine (HMM.out _).mono ?_
          rintro e w3 ⟨rfl, hb3⟩
          replace hb := below_trans hb hb3
          clear hb3
          go_wp2
          go_ret2
          exact ⟨_, _, rfl, row_int m hb, below_trans hb (below_alloc _ _)⟩
        · subst hq
          obtain ⟨rfl, rfl⟩ := hD.top hd rfl
          obtain ⟨p, hp, hmin, hL1, hL2⟩ := take_pick hz hk1
          obtain rfl : ln = p := hL.symm.trans hL2
          rw [hL1]
          obtain ⟨ad, rfl⟩ := some_of hf (by omega)
          have HF := Lib.hid (fun W (hb : Below w.heap.size w W) => int_front (HA.out W hb) hz (by omega) hp hf)
          have hsl := (HF.out _ (Below.refl _ _)).1
          have HL := Lib.hid (show (iz (top.take ln)).length = ln * 1 by rw [iz_length, ← hL1, hL2, Nat.mul_one])
          have HN : Hid (0 + ln ≤ 2097152) := Lib.hid (by omega)
          clear hd ho hD hk HMM hf h0 t1 t2 t3 t4 hL hL1 hL2 hp HW
          go_enter Try.func20, Try.ntmps20
          go_wp2_with fail
          clear b0 b1 b2 b3 b4 b5
          refine (HO.out _ hb).mono ?_
          rintro e w2 ⟨rfl, hb2⟩
          replace o1 := o1.grow hb2
          replace hb := below_trans hb hb2
          clear hb2
          have HB := Lib.hid (below_trans hb (below_alloc w2 (.cells #[] 3)))
          have HE := Lib.hid (owns_empty (size := 1) (Own.new w2 3 []) (show w.heap.size ≤ w2.heap.size from hb.size))
          have b0 := (o1.alloc (.cells #[] 3)).six
          replace o1 := o1.six
          obtain ⟨b0, b1, b2, b3, b4, b5⟩ := b0
          obtain ⟨c0, c1, c2, c3, c4, c5⟩ := o1
          go_wp2_with fail
          refine (HK.out _).mono ?_
          rintro e _ ⟨rfl, rfl⟩
          go_wp2_with (at_builtin; refine appInt.rd rfl _ (.tmp 74) rfl w.heap.size (.slice (some ⟨w2.heap.size, 0, none⟩) 0 0) 0 [] rfl HE.out (some ad) ln ca (iz (top.take ln)) rfl (HF.out _ HB.out).2.1 (HF.out _ HB.out).2.2 HL.out (iz_one _) HN HB.out.size ?_; intro A' c' w3 hown hgrow hb3; rw [Nat.zero_add, List.nil_append] at hown; rw [Nat.zero_add])
          have hb4 := HB.out.trans hb3
          have r3 := RowAt.of hown
          clear b0 b1 b2 b3 b4 b5 c0 c1 c2 c3 c4 c5
          go_wp2
          go_ret2
          exact ⟨A', c', rfl, r3, hb4⟩
      · obtain ⟨rfl, rfl⟩ := hD.no (fun h => hk h.1)
        obtain rfl : ln = 0 := hL.symm
        have HK := Lib.hid (fun W => as_bool (tf_no hk).symm (specAggKind_any q k W))
        clear hk hD HMM hf hL h0 ho
        go_enter Try.func20, Try.ntmps20
        go_wp2_with fail
        clear b0 b1 b2 b3 b4 b5
        refine (HO.out _ hb).mono ?_
        rintro e w2 ⟨rfl, hb2⟩
        replace o1 := o1.grow hb2
        replace hb := below_trans hb hb2
        clear hb2
        obtain ⟨b0, b1, b2, b3, b4, b5⟩ := o1.six
        go_wp2_with fail
        refine (HK.out _).mono ?_
        rintro e _ ⟨rfl, rfl⟩
        go_wp2
        go_ret2
        exact ⟨none, 0, rfl, row_nil, hb⟩
  · obtain ⟨rfl, rfl⟩ := hD.no (fun h => ho h.2.2)
    obtain rfl : ln = 0 := hL.symm
    replace HO := Lib.hid (fun W hb => as_bool (tf_no ho).symm (HO.out W hb))
    clear hD HMM hf ho hL
    go_enter Try.func20, Try.ntmps20
    go_wp2_with fail
    clear b0 b1 b2 b3 b4 b5
    refine (HO.out _ hb).mono ?_
    rintro e w2 ⟨rfl, hb2⟩
    replace hb := below_trans hb hb2
    go_wp2
    go_ret2
    exact ⟨none, 0, rfl, row_nil, hb⟩

end Go.Proofs.Ytkaghdkehkjdoaa
