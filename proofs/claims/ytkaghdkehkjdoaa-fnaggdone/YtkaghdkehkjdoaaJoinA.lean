import Derived.Test.YtkaghdkehkjdoaaAggOkI
import Derived.Test.YtkaghdkehkjdoaaAggKindI
import Derived.Test.YtkaghdkehkjdoaaIntCut
import Derived.Test.YtkaghdkehkjdoaaLawWideMean
import Derived.Test.YtkaghdkehkjdoaaAggOkS
import Derived.Test.YtkaghdkehkjdoaaLawAggKit
import Derived.Test.YtkaghdkehkjdoaaAggS
import Derived.Test.YtkaghdkehkjdoaaDrawNum

/-
  AggDone of the program: what it returns.
-/
namespace Go.Proofs.Ytkaghdkehkjdoaa
open Go.RowKit

/-- can it be evaluated? -/
def doneOk (q k N z mn mx : Int) (top : List Int) : Prop := kindOk q k ∧ N ≠ 0 ∧ aggOk N z mn mx top
/-- the answer's numbers, and whether the sum is out of range; me is what WideMean answers -/
structure DoneIs (q k N z mn mx me : Int) (top : List Int) (L : List Int) (b : Bool) : Prop where
  no : ¬ doneOk q k N z mn mx top → L = [] ∧ b = false
  one : doneOk q k N z mn mx top → q = 1 → L = [N] ∧ b = false
  sum : doneOk q k N z mn mx top → q = 2 → I64 z → L = [z] ∧ b = false
  over : doneOk q k N z mn mx top → q = 2 → ¬ I64 z → L = [] ∧ b = true
  least : doneOk q k N z mn mx top → q = 3 → L = [mn] ∧ b = false
  most : doneOk q k N z mn mx top → q = 4 → L = [mx] ∧ b = false
  mean : doneOk q k N z mn mx top → q = 5 → L = [me] ∧ b = false
  top : doneOk q k N z mn mx top → q = 6 → L = top.take k.toNat ∧ b = false
theorem done_some (q k N z mn mx me : Int) (top : List Int) : ∃ L b, DoneIs q k N z mn mx me top L b := by
  by_cases h : doneOk q k N z mn mx top
  · have hk : q = 1 ∨ q = 2 ∨ q = 3 ∨ q = 4 ∨ q = 5 ∨ q = 6 := by
      have := h.1
      unfold kindOk at this
      omega
    by_cases hz : I64 z
    · refine ⟨if q = 1 then [N] else if q = 2 then [z] else if q = 3 then [mn] else if q = 4 then [mx] else if q = 5 then [me] else top.take k.toNat, false, fun h' => absurd h h', ?_, ?_, fun _ _ h' => absurd hz h', ?_, ?_, ?_, ?_⟩
      all_goals (intros; subst_vars; simp)
    · refine ⟨if q = 1 then [N] else if q = 2 then [] else if q = 3 then [mn] else if q = 4 then [mx] else if q = 5 then [me] else top.take k.toNat, decide (q = 2), fun h' => absurd h h', ?_, (fun _ _ h' => absurd h' hz), ?_, ?_, ?_, ?_, ?_⟩
      all_goals (intros; subst_vars; simp)
  · exact ⟨[], false, fun _ => ⟨rfl, rfl⟩, fun h' => absurd h' h, fun h' => absurd h' h, fun h' => absurd h' h, fun h' => absurd h' h, fun h' => absurd h' h, fun h' => absurd h' h, fun h' => absurd h' h⟩

/-- The call hands back numbers in a row of its own, and a truth value. -/
def DoneRes (L : List Int) (n : Nat) (b : Bool) (w : World) (e : Ending) (w' : World) : Prop :=
  ∃ A c, e = .returned (.tuple #[.slice A n c, .bool b]) ∧ RowAt w.heap.size w'.heap.size w' 3 1 (.slice A n c) n (iz L) ∧ Below w.heap.size w w'
theorem row_nil {lo hi : Nat} {w : World} : RowAt lo hi w 3 1 (.slice none 0 0) 0 (iz []) := ⟨⟨rfl, .inl ⟨rfl, rfl⟩⟩, fun k hk => by cases hk⟩
theorem row_int {w W : World} (v : Int) (hb : Below w.heap.size w W) :
    RowAt w.heap.size (W.alloc (.cells #[.int .i64 v] 3)).heap.size (W.alloc (.cells #[.int .i64 v] 3)) 3 1 (.slice (some ⟨W.heap.size, 0, none⟩) 1 1) 1 (iz [v]) :=
  (Own.new W 3 (iz [v])).rowAt hb.size rfl (by omega)

set_option maxHeartbeats 400000 in
theorem implOneDone_any (q N z mn mx m r : Int) (ok : Bool) (v : Value) (w : World)
    (HM : ∀ W, Calls Try.prog 67 #[.agg #[.int .i64 (hi z), .int .u64 (lo z)], .int .i64 N] W (IntRes W m ok))
    (hq : q = 1 ∧ r = N ∨ q = 3 ∧ r = mn ∨ q = 4 ∧ r = mx ∨ q = 5 ∧ r = m) :
    Calls Try.prog 49 #[.int .i64 q, agv N (hi z) (lo z) mn mx v] w fun e w' => e = .returned (.int .i64 r) ∧ Below w.heap.size w w' := by
  have o1 := Own.new w 31 (agc N (hi z) (lo z) mn mx v)
  have hb := below_alloc w (.cells (agc N (hi z) (lo z) mn mx v).toArray 31)
  obtain ⟨b0, b1, b2, b3, b4, b5⟩ := o1.six
  clear o1
  rcases hq with ⟨rfl, rfl⟩ | ⟨rfl, rfl⟩ | ⟨rfl, rfl⟩ | ⟨rfl, rfl⟩
  · go_enter Try.func49, Try.ntmps49
    go_wp2
    go_ret
    exact ⟨rfl, hb⟩
  · go_enter Try.func49, Try.ntmps49
    go_wp2
    go_ret
    exact ⟨rfl, hb⟩
  · go_enter Try.func49, Try.ntmps49
    go_wp2
    go_ret
    exact ⟨rfl, hb⟩
  · go_enter Try.func49, Try.ntmps49
    go_wp2_with fail
    refine (HM _).mono ?_
    rintro e w2 ⟨rfl, hb2⟩
    replace hb := below_trans hb hb2
    go_wp2
    go_ret
    exact ⟨rfl, hb⟩

set_option maxHeartbeats 400000 in
theorem implSumDone_any (z : Int) (L : List Int) (ln : Nat) (b : Bool) (w : World) (hL : L.length = ln) (hw : Wr z) (h1 : I64 z → L = [z] ∧ b = false) (h2 : ¬ I64 z → L = [] ∧ b = true) :
    Calls Try.prog 47 #[.agg #[.int .i64 (hi z), .int .u64 (lo z)]] w (DoneRes L ln b w) := by
  have o1 := Own.new w 29 [.int .i64 (hi z), .int .u64 (lo z)]
  have hb := below_alloc w (.cells #[.int .i64 (hi z), .int .u64 (lo z)] 29)
  obtain ⟨b0, b1⟩ := o1.two
  clear o1
  by_cases h : I64 z
  · obtain ⟨rfl, rfl⟩ := h1 h
    obtain rfl : ln = 1 := hL.symm
    go_enter Try.func47, Try.ntmps47
    go_wp2_with fail
    refine (implWideInt_yes _ _ z _ h rfl rfl).mono ?_
    rintro e w2 ⟨rfl, hb2⟩
    replace hb := below_trans hb hb2
    go_wp2
    go_ret2
    exact ⟨_, _, rfl, row_int z hb, below_trans hb (below_alloc _ _)⟩
  · obtain ⟨rfl, rfl⟩ := h2 h
    obtain rfl : ln = 0 := hL.symm
    go_enter Try.func47, Try.ntmps47
    go_wp2_with fail
    refine (implWideInt_no _ _ z _ hw h rfl rfl).mono ?_
    rintro e w2 ⟨rfl, hb2⟩
    replace hb := below_trans hb hb2
    go_wp2
    go_ret2
    exact ⟨_, _, rfl, row_nil, hb⟩

set_option maxHeartbeats 1000000 in
theorem cloneInt_any (ad : Addr) (n c : Nat) (ts : List Int) (w : World) (hR : Rd w (some ad) (iz ts)) (hz : ts.length = n) (hn : n ≤ 1048576) (hf : SFit (some ad) n c) :
    Calls Try.prog 48 #[.slice (some ad) n c] w fun e w' => ∃ A' c', e = .returned (.slice A' n c') ∧ w'.ownsRow w.heap.size 3 1 (.slice A' n c') n (iz ts) ∧ Below w.heap.size w w' := by
  have q : ∀ (w : World) (a : Option Addr) (n c n' c' : Nat), (binOp .eql 24 (.slice a n c) (.slice none n' c')).run Try.prog w = .ok (.bool a.isNone) w := fun w a n c n' c' => Lib.run_eql_slice_nil w _ _ a n c n' c' Try.underlying24
  have HR := Lib.hid (hR.below (below_alloc w (.cells #[] 3)))
  have HE := Lib.hid (owns_empty (size := 1) (Own.new w 3 []) (Nat.le_refl w.heap.size))
  have HL := Lib.hid (show (iz ts).length = n * 1 by rw [iz_length, hz, Nat.mul_one])
  have HN : Hid (0 + n ≤ 2097152) := Lib.hid (by omega)
  have HF := Lib.hid hf
  clear hR hf
  go_enter Try.func48, Try.ntmps48
  go_wp2_with (at_builtin; refine appInt.rd rfl _ (.tmp 6) rfl w.heap.size (.slice (some ⟨w.heap.size, 0, none⟩) 0 0) 0 [] rfl HE.out (some ad) n c (iz ts) rfl HR.out HF.out HL.out (iz_one _) HN (by simp) ?_; intro A' c' w1 hown hgrow hb1; rw [Nat.zero_add, List.nil_append] at hown; rw [Nat.zero_add])
  have hb := (below_alloc w (.cells #[] 3)).trans hb1
  go_wp2
  go_ret
  exact ⟨A', c', rfl, hown, hb⟩

/-- s[:p] of a slice that reads as a list -/
theorem int_front {w : World} {ad : Addr} {n c p : Nat} {ts : List Int} (hR : Rd w (some ad) (iz ts)) (hl : ts.length = n) (h0 : 0 < n) (hp : p ≤ n) (hf : SFit (some ad) n c) :
    (∀ W, (Instr.slice 24 (.slice (some ad) n c) none (some (.int .i64 (p : Int))) none).run Try.prog W = .ok (.slice (some ad) p c) W) ∧ Rd w (some ad) (iz (ts.take p)) ∧ SFit (some ad) p c := by
  have hc := hf.1
  refine ⟨fun W => ?_, fun j u hj => hR j u (iz_in_take hj), by omega, fun h => by cases h⟩
  rw [run_slice_h (P := Try.prog) (t := 24) (ht := under_int) (h0 := by omega) (h2 := by omega), size_int]
  obtain ⟨ad0, e0, _, hc0⟩ := hR 0 _ (iz_iat (by omega))
  cases e0
  obtain ⟨b, off, rfl⟩ := plain_of hc0
  simp [sliced, plain_add']

end Go.Proofs.Ytkaghdkehkjdoaa

/-
  AggDone of the program, whole: what it returns.
-/
namespace Go.Proofs.Ytkaghdkehkjdoaa
open Go.RowKit

theorem aggOk_top0 {N z mn mx : Int} {top : List Int} (h : aggOk N z mn mx top) (h0 : N ≠ 0) : 0 < N ∧ N ≤ 1000000 ∧ 0 < top.length ∧ top.length ≤ 4 := by
  obtain ⟨h1, h2, h3, -⟩ := (aggOk_some h0).1 h
  split at h3 <;> omega
theorem some_of {A : Option Addr} {n ca : Nat} (hf : SFit A n ca) (h : 0 < n) : ∃ ad, A = some ad := by
  cases A with
  | none => have := hf.1; have := hf.2 rfl; omega
  | some ad => exact ⟨ad, rfl⟩
/-- the first k of Top -/
theorem take_pick {top : List Int} {n : Nat} {k : Int} (hz : top.length = n) (h1 : 1 ≤ k) : ∃ p : Nat, p ≤ n ∧ min k (n : Int) = (p : Int) ∧ top.take k.toNat = top.take p ∧ (top.take k.toNat).length = p := by
  by_cases h : (n : Int) < k
  · refine ⟨n, Nat.le_refl _, by omega, ?_, ?_⟩
    · rw [List.take_of_length_le (by omega), List.take_of_length_le (by omega)]
    · rw [List.length_take]; omega
  · exact ⟨k.toNat, by omega, by omega, rfl, by rw [List.length_take]; omega⟩

set_option maxRecDepth 100000 in
set_option maxHeartbeats 4000000 in
theorem implAggDone_any (q k N z mn mx m : Int) (ok : Bool) (A : Option Addr) (n ca : Nat) (top : List Int) (L : List Int) (ln : Nat) (b : Bool) (w : World) (hA : Rd w A (iz top)) (hz : top.length = n) (hn : n ≤ 1048576) (hf : SFit A n ca)
    (h64 : ∀ x ∈ top, I64 x) (hm : I64 mn) (hw : Wr z)
    (HM : ∀ W, Calls Try.prog 67 #[.agg #[.int .i64 (hi z), .int .u64 (lo z)], .int .i64 N] W (IntRes W m ok)) (hD : DoneIs q k N z mn mx m top L b) (hL : L.length = ln) :
    Calls Try.prog 19 #[.int .i64 q, .int .i64 k, agv N (hi z) (lo z) mn mx (.slice A n ca)] w (DoneRes L ln b w) := by
  have HO := Lib.hid (fun W (hb : Below w.heap.size w W) => implAggOk_any N z mn mx _ _ A n ca top W (hA.below hb) hz hn h64 hm hw rfl rfl)
  have HA := Lib.hid (fun W (hb : Below w.heap.size w W) => hA.below hb)
  have o1 := Own.new w 31 (agc N (hi z) (lo z) mn mx (.slice A n ca))
  have hb := below_alloc w (.cells (agc N (hi z) (lo z) mn mx (.slice A n ca)).toArray 31)
  obtain ⟨b0, b1, b2, b3, b4, b5⟩ := o1.six
  have HW := Lib.hid hw
  have HMM := Lib.hid HM
  clear h64 hm hA hw HM
  by_cases hk : kindOk q k
  · have HK := Lib.hid (fun W => as_bool (tf_yes hk).symm (implAggKind_any q k W))
    by_cases h0 : N = 0
    · obtain ⟨rfl, rfl⟩ := hD.no (fun h => h.2.1 h0)
      subst h0
      obtain rfl : ln = 0 := hL.symm
      clear hk hD HMM hf hL
      go_enter Try.func19, Try.ntmps19
      go_wp2_with fail
      refine (HK.out _).mono ?_
      rintro e _ ⟨rfl, rfl⟩
      go_wp2
      go_ret2
      exact ⟨none, 0, rfl, row_nil, hb⟩
    · by_cases ho : aggOk N z mn mx top
      · replace HO := Lib.hid (fun W hb => as_bool (tf_yes ho).symm (HO.out W hb))
        have hd : doneOk q k N z mn mx top := ⟨hk, h0, ho⟩
        obtain ⟨t1, t2, t3, t4⟩ := aggOk_top0 ho h0
        have h0' : (N == 0) = false := by simp [h0]
        have hq : (q = 1 ∨ q = 3 ∨ q = 4 ∨ q = 5) ∨ q = 2 ∨ q = 6 ∧ 1 ≤ k := by unfold kindOk at hk; omega
        rcases hq with hq | hq | ⟨hq, hk1⟩
        · obtain ⟨r, rfl, rfl, hr⟩ : ∃ r, L = [r] ∧ b = false ∧ (q = 1 ∧ r = N ∨ q = 3 ∧ r = mn ∨ q = 4 ∧ r = mx ∨ q = 5 ∧ r = m) := by
            rcases hq with h | h | h | h
            · exact ⟨N, (hD.one hd h).1, (hD.one hd h).2, .inl ⟨h, rfl⟩⟩
            · exact ⟨mn, (hD.least hd h).1, (hD.least hd h).2, .inr (.inl ⟨h, rfl⟩)⟩
            · exact ⟨mx, (hD.most hd h).1, (hD.most hd h).2, .inr (.inr (.inl ⟨h, rfl⟩))⟩
            · exact ⟨m, (hD.mean hd h).1, (hD.mean hd h).2, .inr (.inr (.inr ⟨h, rfl⟩))⟩
          obtain rfl : ln = 1 := hL.symm
          have HON := Lib.hid (fun W => implOneDone_any q N z mn mx m r ok (.slice A n ca) W HMM.out hr)
          clear hr hd ho hD hk HMM hf h0 t1 t2 t3 t4 hL
          rcases hq with rfl | rfl | rfl | rfl
          all_goals
            go_enter Try.func19, Try.ntmps19
            go_wp2_with fail
            refine (HK.out _).mono ?_
            rintro e _ ⟨rfl, rfl⟩
            go_wp2_with fail
            clear b0 b1 b2 b3 b4 b5
            refine (HO.out _ hb).mono ?_
            rintro e w2 ⟨rfl, hb2⟩
            replace o1 := o1.grow hb2
            replace hb := below_trans hb hb2
            clear hb2
            obtain ⟨b0, b1, b2, b3, b4, b5⟩ := o1.six
            go_wp2_with fail
            clear b0 b1 b2 b3 b4 b5 o1
            refine (HON.out _).mono ?_
            rintro e w3 ⟨rfl, hb3⟩
            replace hb := below_trans hb hb3
            clear hb3
            go_wp2
            go_ret2
            exact ⟨_, _, rfl, row_int r hb, below_trans hb (below_alloc _ _)⟩
        · subst hq
          have HS := Lib.hid (fun W => implSumDone_any z L ln b W hL HW.out (hD.sum hd rfl) (hD.over hd rfl))
          clear hd ho hD hk HMM hf h0 t1 t2 t3 t4 hL
          go_enter Try.func19, Try.ntmps19
          go_wp2_with fail
          refine (HK.out _).mono ?_
          rintro e _ ⟨rfl, rfl⟩
          go_wp2_with fail
          clear b0 b1 b2 b3 b4 b5
          refine (HO.out _ hb).mono ?_
          rintro e w2 ⟨rfl, hb2⟩
          replace o1 := o1.grow hb2
          replace hb := below_trans hb hb2
          clear hb2
          obtain ⟨b0, b1, b2, b3, b4, b5⟩ := o1.six
          go_wp2_with fail
          clear b0 b1 b2 b3 b4 b5 o1
          refine (HS.out _).mono ?_
          rintro e w3 ⟨A3, c3, rfl, r3, hb3⟩
          replace r3 := r3.base hb.size
          replace hb := below_trans hb hb3
          clear hb3
          go_wp2
          go_ret2
          exact ⟨A3, c3, rfl, r3, hb⟩
        · subst hq
          obtain ⟨rfl, rfl⟩ := hD.top hd rfl
          obtain ⟨p, hp, hmin, hL1, hL2⟩ := take_pick hz hk1
          obtain rfl : ln = p := hL.symm.trans hL2
          rw [hL1]
          obtain ⟨ad, rfl⟩ := some_of hf (by omega)
          have HF := Lib.hid (fun W (hb : Below w.heap.size w W) => int_front (HA.out W hb) hz (by omega) hp hf)
          have hsl := (HF.out _ (Below.refl _ _)).1
          have hlt : (top.take ln).length = ln := by rw [← hL1]; exact hL2
          have HLN := Lib.hid (And.intro hlt (show ln ≤ 1048576 by omega))
          clear hd ho hD hk HMM hf h0 t1 t2 t3 t4 hL hL1 hL2 hlt hp HW
          go_enter Try.func19, Try.ntmps19
          go_wp2_with fail
          refine (HK.out _).mono ?_
          rintro e _ ⟨rfl, rfl⟩
          go_wp2_with fail
          clear b0 b1 b2 b3 b4 b5
          refine (HO.out _ hb).mono ?_
          rintro e w2 ⟨rfl, hb2⟩
          replace o1 := o1.grow hb2
          replace hb := below_trans hb hb2
          clear hb2
          obtain ⟨b0, b1, b2, b3, b4, b5⟩ := o1.six
          go_wp2_with fail
          clear b0 b1 b2 b3 b4 b5 o1
          refine (cloneInt_any ad ln ca (top.take ln) _ (HF.out _ hb).2.1 HLN.out.1 HLN.out.2 (HF.out _ hb).2.2).mono ?_
          rintro e w3 ⟨A3, c3, rfl, hown, hb3⟩
          have r3 := (RowAt.of hown).base hb.size
          replace hb := below_trans hb hb3
          clear hb3 hown
          go_wp2
          go_ret2
          exact ⟨A3, c3, rfl, r3, hb⟩
      · obtain ⟨rfl, rfl⟩ := hD.no (fun h => ho h.2.2)
        obtain rfl : ln = 0 := hL.symm
        replace HO := Lib.hid (fun W hb => as_bool (tf_no ho).symm (HO.out W hb))
        have h0' : (N == 0) = false := by simp [h0]
        clear hk hD HMM hf h0 ho hL
        go_enter Try.func19, Try.ntmps19
        go_wp2_with fail
        refine (HK.out _).mono ?_
        rintro e _ ⟨rfl, rfl⟩
        go_wp2_with fail
        clear b0 b1 b2 b3 b4 b5
        refine (HO.out _ hb).mono ?_
        rintro e w2 ⟨rfl, hb2⟩
        replace hb := below_trans hb hb2
        go_wp2
        go_ret2
        exact ⟨none, 0, rfl, row_nil, hb⟩
  · obtain ⟨rfl, rfl⟩ := hD.no (fun h => hk h.1)
    obtain rfl : ln = 0 := hL.symm
    have HK := Lib.hid (fun W => as_bool (tf_no hk).symm (implAggKind_any q k W))
    clear hk hD HMM hf hL
    go_enter Try.func19, Try.ntmps19
    go_wp2_with fail
    refine (HK.out _).mono ?_
    rintro e _ ⟨rfl, rfl⟩
    go_wp2
    go_ret2
    exact ⟨none, 0, rfl, row_nil, hb⟩

end Go.Proofs.Ytkaghdkehkjdoaa

/-
  AggDone of the model: what it returns.
-/
namespace Go.Proofs.Ytkaghdkehkjdoaa
open Go.RowKit

set_option maxRecDepth 100000 in
set_option maxHeartbeats 4000000 in
theorem specAggDone_any (q k N z mn mx m : Int) (ok : Bool) (A : Option Addr) (n ca : Nat) (top : List Int) (L : List Int) (ln : Nat) (b : Bool) (w : World) (hA : Rd w A (iz top)) (hz : top.length = n) (hn : n ≤ 1048576) (hf : SFit A n ca)
    (h64 : ∀ x ∈ top, I64 x) (hm : I64 mn) (hw : Wr z)
    (HM : ∀ W, Calls Try.prog 51 #[.agg #[.int .i64 (hi z), .int .u64 (lo z)], .int .i64 N] W (IntRes W m ok)) (hD : DoneIs q k N z mn mx m top L b) (hL : L.length = ln) :
    Calls Try.prog 20 #[.int .i64 q, .int .i64 k, agv N (hi z) (lo z) mn mx (.slice A n ca)] w (DoneRes L ln b w) := by
  have HO := Lib.hid (fun W (hb : Below w.heap.size w W) => specAggOk_any N z mn mx _ _ A n ca top W (hA.below hb) hz hn hf h64 hm hw rfl rfl)
  have HA := Lib.hid (fun W (hb : Below w.heap.size w W) => hA.below hb)
  have o1 := Own.new w 31 (agc N (hi z) (lo z) mn mx (.slice A n ca))
  have hb := below_alloc w (.cells (agc N (hi z) (lo z) mn mx (.slice A n ca)).toArray 31)
  obtain ⟨b0, b1, b2, b3, b4, b5⟩ := o1.six
  have HW := Lib.hid hw
  have HMM := Lib.hid HM
  clear h64 hm hA hw HM
  by_cases ho : aggOk N z mn mx top
  · replace HO := Lib.hid (fun W hb => as_bool (tf_yes ho).symm (HO.out W hb))
    by_cases h0 : N = 0
    · obtain ⟨rfl, rfl⟩ := hD.no (fun h => h.2.1 h0)
      subst h0
      obtain rfl : ln = 0 := hL.symm
      clear ho hD HMM hf hL
      go_enter Try.func20, Try.ntmps20
      go_wp2_with fail
      clear b0 b1 b2 b3 b4 b5
      refine (HO.out _ hb).mono ?_
      rintro e w2 ⟨rfl, hb2⟩
      replace o1 := o1.grow hb2
      replace hb := below_trans hb hb2
      clear hb2
      obtain ⟨b0, b1, b2, b3, b4, b5⟩ := o1.six
      go_wp2
      go_ret2
      exact ⟨none, 0, rfl, row_nil, hb⟩
    · have h0' : (N == 0) = false := by simp [h0]
      by_cases hk : kindOk q k
      · have HK := Lib.hid (fun W => as_bool (tf_yes hk).symm (specAggKind_any q k W))
        have hd : doneOk q k N z mn mx top := ⟨hk, h0, ho⟩
        obtain ⟨t1, t2, t3, t4⟩ := aggOk_top0 ho h0
        have hq : q = 1 ∨ q = 2 ∨ q = 3 ∨ q = 4 ∨ q = 5 ∨ q = 6 ∧ 1 ≤ k := by unfold kindOk at hk; omega
        rcases hq with hq | hq | hq | hq | hq | ⟨hq, hk1⟩
        · subst hq
          obtain ⟨rfl, rfl⟩ := hD.one hd rfl
          obtain rfl : ln = 1 := hL.symm
          clear hd ho hD hk HMM hf h0 t1 t2 t3 t4 hL
          go_enter Try.func20, Try.ntmps20
          go_wp2_with fail
          clear b0 b1 b2 b3 b4 b5
          refine (HO.out _ hb).mono ?_
          rintro e w2 ⟨rfl, hb2⟩
          replace o1 := o1.grow hb2
          replace hb := below_trans hb hb2
          clear hb2
          obtain ⟨b0, b1, b2, b3, b4, b5⟩ := o1.six
          go_wp2_with fail
          refine (HK.out _).mono ?_
          rintro e _ ⟨rfl, rfl⟩
          go_wp2
          go_ret2
          exact ⟨_, _, rfl, row_int N hb, below_trans hb (below_alloc _ _)⟩
        · subst hq
          by_cases hi64 : I64 z
          · obtain ⟨rfl, rfl⟩ := hD.sum hd rfl hi64
            obtain rfl : ln = 1 := hL.symm
            have HS := Lib.hid (fun W => specWideInt_yes _ _ z W hi64 rfl rfl)
            clear hd ho hD hk HMM hf h0 t1 t2 t3 t4 hL
            go_enter Try.func20, Try.ntmps20
            go_wp2_with fail
            clear b0 b1 b2 b3 b4 b5
            refine (HO.out _ hb).mono ?_
            rintro e w2 ⟨rfl, hb2⟩
            replace o1 := o1.grow hb2
            replace hb := below_trans hb hb2
            clear hb2
            obtain ⟨b0, b1, b2, b3, b4, b5⟩ := o1.six
            go_wp2_with fail
            refine (HK.out _).mono ?_
            rintro e _ ⟨rfl, rfl⟩
            go_wp2_with fail
            clear b0 b1 b2 b3 b4 b5 o1
            refine (HS.out _).mono ?_
            rintro e w3 ⟨rfl, hb3⟩
            replace hb := below_trans hb hb3
            clear hb3
            go_wp2
            go_ret2
            exact ⟨_, _, rfl, row_int z hb, below_trans hb (below_alloc _ _)⟩
          · obtain ⟨rfl, rfl⟩ := hD.over hd rfl hi64
            obtain rfl : ln = 0 := hL.symm
            have HS := Lib.hid (fun W => specWideInt_no _ _ z W HW.out hi64 rfl rfl)
            clear hd ho hD hk HMM hf h0 t1 t2 t3 t4 hL
            go_enter Try.func20, Try.ntmps20
            go_wp2_with fail
            clear b0 b1 b2 b3 b4 b5
            refine (HO.out _ hb).mono ?_
            rintro e w2 ⟨rfl, hb2⟩
            replace o1 := o1.grow hb2
            replace hb := below_trans hb hb2
            clear hb2
            obtain ⟨b0, b1, b2, b3, b4, b5⟩ := o1.six
            go_wp2_with fail
            refine (HK.out _).mono ?_
            rintro e _ ⟨rfl, rfl⟩
            go_wp2_with fail
            clear b0 b1 b2 b3 b4 b5 o1
            refine (HS.out _).mono ?_
            rintro e w3 ⟨rfl, hb3⟩
            replace hb := below_trans hb hb3
            clear hb3
            go_wp2
            go_ret2
            exact ⟨_, _, rfl, row_nil, hb⟩
        · subst hq
          obtain ⟨rfl, rfl⟩ := hD.least hd rfl
          obtain rfl : ln = 1 := hL.symm
          clear hd ho hD hk HMM hf h0 t1 t2 t3 t4 hL
          go_enter Try.func20, Try.ntmps20
          go_wp2_with fail
          clear b0 b1 b2 b3 b4 b5
          refine (HO.out _ hb).mono ?_
          rintro e w2 ⟨rfl, hb2⟩
          replace o1 := o1.grow hb2
          replace hb := below_trans hb hb2
          clear hb2
          obtain ⟨b0, b1, b2, b3, b4, b5⟩ := o1.six
          go_wp2_with fail
          refine (HK.out _).mono ?_
          rintro e _ ⟨rfl, rfl⟩
          go_wp2
          go_ret2
          exact ⟨_, _, rfl, row_int mn hb, below_trans hb (below_alloc _ _)⟩
        · subst hq
          obtain ⟨rfl, rfl⟩ := hD.most hd rfl
          obtain rfl : ln = 1 := hL.symm
          clear hd ho hD hk HMM hf h0 t1 t2 t3 t4 hL
          go_enter Try.func20, Try.ntmps20
          go_wp2_with fail
          clear b0 b1 b2 b3 b4 b5
          refine (HO.out _ hb).mono ?_
          rintro e w2 ⟨rfl, hb2⟩
          replace o1 := o1.grow hb2
          replace hb := below_trans hb hb2
          clear hb2
          obtain ⟨b0, b1, b2, b3, b4, b5⟩ := o1.six
          go_wp2_with fail
          refine (HK.out _).mono ?_
          rintro e _ ⟨rfl, rfl⟩
          go_wp2
          go_ret2
          exact ⟨_, _, rfl, row_int mx hb, below_trans hb (below_alloc _ _)⟩
        · subst hq
          obtain ⟨rfl, rfl⟩ := hD.mean hd rfl
          obtain rfl : ln = 1 := hL.symm
          clear hd ho hD hk hf h0 t1 t2 t3 t4 hL
          go_enter Try.func20, Try.ntmps20
          go_wp2_with fail
          clear b0 b1 b2 b3 b4 b5
          refine (HO.out _ hb).mono ?_
          rintro e w2 ⟨rfl, hb2⟩
          replace o1 := o1.grow hb2
          replace hb := below_trans hb hb2
          clear hb2
          obtain ⟨b0, b1, b2, b3, b4, b5⟩ := o1.six
          go_wp2_with fail
          refine (HK.out _).mono ?_
          rintro e _ ⟨rfl, rfl⟩
          go_wp2_with fail
          clear b0 b1 b2 b3 b4 b5 o1
          refine (HMM.out _).mono ?_
          rintro e w3 ⟨rfl, hb3⟩
          replace hb := below_trans hb hb3
          clear hb3
          go_wp2
          go_ret2
          exact ⟨_, _, rfl, row_int m hb, below_trans hb (below_alloc _ _)⟩
        · subst hq
          obtain ⟨rfl, rfl⟩ := hD.top hd rfl
          obtain ⟨p, hp, hmin, hL1, hL2⟩ := take_pick hz hk1
          obtain rfl : ln = p := hL.symm.trans hL2
          rw [hL1]
          obtain ⟨ad, rfl⟩ := some_of hf (by omega)
          have HF := Lib.hid (fun W (hb : Below w.heap.size w W) => int_front (HA.out W hb) hz (by omega) hp hf)
          have hsl := (HF.out _ (Below.refl _ _)).1
          have HL := Lib.hid (show (iz (top.take ln)).length = ln * 1 by rw [iz_length, ← hL1, hL2, Nat.mul_one])
          have HN : Hid (0 + ln ≤ 2097152) := Lib.hid (by omega)
          clear hd ho hD hk HMM hf h0 t1 t2 t3 t4 hL hL1 hL2 hp HW
          go_enter Try.func20, Try.ntmps20
          go_wp2_with fail
          clear b0 b1 b2 b3 b4 b5
          refine (HO.out _ hb).mono ?_
          rintro e w2 ⟨rfl, hb2⟩
          replace o1 := o1.grow hb2
          replace hb := below_trans hb hb2
          clear hb2
          have HB := Lib.hid (below_trans hb (below_alloc w2 (.cells #[] 3)))
          have HE := Lib.hid (owns_empty (size := 1) (Own.new w2 3 []) (show w.heap.size ≤ w2.heap.size from hb.size))
          have b0 := (o1.alloc (.cells #[] 3)).six
          replace o1 := o1.six
          obtain ⟨b0, b1, b2, b3, b4, b5⟩ := b0
          obtain ⟨c0, c1, c2, c3, c4, c5⟩ := o1
          go_wp2_with fail
          refine (HK.out _).mono ?_
          rintro e _ ⟨rfl, rfl⟩
          go_wp2_with (at_builtin; refine appInt.rd rfl _ (.tmp 74) rfl w.heap.size (.slice (some ⟨w2.heap.size, 0, none⟩) 0 0) 0 [] rfl HE.out (some ad) ln ca (iz (top.take ln)) rfl (HF.out _ HB.out).2.1 (HF.out _ HB.out).2.2 HL.out (iz_one _) HN HB.out.size ?_; intro A' c' w3 hown hgrow hb3; rw [Nat.zero_add, List.nil_append] at hown; rw [Nat.zero_add])
          have hb4 := HB.out.trans hb3
          have r3 := RowAt.of hown
          clear b0 b1 b2 b3 b4 b5 c0 c1 c2 c3 c4 c5
          go_wp2
          go_ret2
          exact ⟨A', c', rfl, r3, hb4⟩
      · obtain ⟨rfl, rfl⟩ := hD.no (fun h => hk h.1)
        obtain rfl : ln = 0 := hL.symm
        have HK := Lib.hid (fun W => as_bool (tf_no hk).symm (specAggKind_any q k W))
        clear hk hD HMM hf hL h0 ho
        go_enter Try.func20, Try.ntmps20
        go_wp2_with fail
        clear b0 b1 b2 b3 b4 b5
        refine (HO.out _ hb).mono ?_
        rintro e w2 ⟨rfl, hb2⟩
        replace o1 := o1.grow hb2
        replace hb := below_trans hb hb2
        clear hb2
        obtain ⟨b0, b1, b2, b3, b4, b5⟩ := o1.six
        go_wp2_with fail
        refine (HK.out _).mono ?_
        rintro e _ ⟨rfl, rfl⟩
        go_wp2
        go_ret2
        exact ⟨none, 0, rfl, row_nil, hb⟩
  · obtain ⟨rfl, rfl⟩ := hD.no (fun h => ho h.2.2)
    obtain rfl : ln = 0 := hL.symm
    replace HO := Lib.hid (fun W hb => as_bool (tf_no ho).symm (HO.out W hb))
    clear hD HMM hf ho hL
    go_enter Try.func20, Try.ntmps20
    go_wp2_with fail
    clear b0 b1 b2 b3 b4 b5
    refine (HO.out _ hb).mono ?_
    rintro e w2 ⟨rfl, hb2⟩
    replace hb := below_trans hb hb2
    go_wp2
    go_ret2
    exact ⟨none, 0, rfl, row_nil, hb⟩

end Go.Proofs.Ytkaghdkehkjdoaa

/-
  What the law of AggDone uses: the numbers of a list's aggregate, and what AggDone answers of it.
-/
namespace Go.Proofs.Ytkaghdkehkjdoaa
open Go.RowKit

theorem le_mxOf (l : List Int) : ∀ x ∈ l, x ≤ mxOf l := by
  induction l using snoc_ind with
  | h0 => intro x hx; cases hx
  | h1 l v ih =>
    by_cases h0 : l = []
    · subst h0
      intro x hx
      rw [List.nil_append] at hx ⊢
      rw [List.mem_singleton.1 hx, mxOf_one]
      exact Int.le_refl _
    · intro x hx
      rw [mxOf_snoc v h0]
      rcases List.mem_append.1 hx with h | h
      · have := ih x h; omega
      · rw [List.mem_singleton.1 h]; omega
theorem mean_in {l : List Int} (h0 : l ≠ []) : mnOf l ≤ l.sum / (l.length : Int) ∧ l.sum / (l.length : Int) ≤ mxOf l := by
  have hp : 0 < (l.length : Int) := by have := List.length_pos_iff.2 h0; omega
  refine ⟨?_, ?_⟩
  · rw [Int.le_ediv_iff_mul_le hp]
    exact le_sum (fun x hx => mnOf_le hx)
  · have h1 := sum_le (le_mxOf l)
    have h2 : l.sum / (l.length : Int) < mxOf l + 1 := by
      rw [Int.ediv_lt_iff_lt_mul hp, Int.add_mul]
      omega
    omega
theorem mean_yes (x : Int) (n : Nat) (hx : Wr x) (hn1 : 1 ≤ n) (hn2 : n ≤ 1000000) (h : I64 (x / n)) (W : World) :
    Calls Try.prog 51 #[.agg #[.int .i64 (hi x), .int .u64 (lo x)], .int .i64 n] W (IntRes W (x / n) true) := by
  have hI : ∀ W, Calls Try.prog 50 #[.agg #[.int .i64 (hi (x / n)), .int .u64 (lo (x / n))]] W (IntRes W (x / n) true) := fun W => specWideInt_yes _ _ (x / n) W h rfl rfl
  by_cases h0 : x < 0
  · exact specWideMean_neg _ _ x n W _ _ hn1 hn2 hx h0 rfl rfl hI
  · exact specWideMean_pos _ _ x n W _ _ hn1 hn2 hx (by omega) rfl rfl hI

section
variable {N z mn mx me : Int} {top : List Int}
theorem is_one (hd : doneOk 1 0 N z mn mx top) : DoneIs 1 0 N z mn mx me top [N] false := by
  obtain ⟨L, b, D⟩ := done_some 1 0 N z mn mx me top
  obtain ⟨rfl, rfl⟩ := D.one hd rfl
  exact D
theorem is_least (hd : doneOk 3 0 N z mn mx top) : DoneIs 3 0 N z mn mx me top [mn] false := by
  obtain ⟨L, b, D⟩ := done_some 3 0 N z mn mx me top
  obtain ⟨rfl, rfl⟩ := D.least hd rfl
  exact D
theorem is_most (hd : doneOk 4 0 N z mn mx top) : DoneIs 4 0 N z mn mx me top [mx] false := by
  obtain ⟨L, b, D⟩ := done_some 4 0 N z mn mx me top
  obtain ⟨rfl, rfl⟩ := D.most hd rfl
  exact D
theorem is_mean (hd : doneOk 5 0 N z mn mx top) : DoneIs 5 0 N z mn mx me top [me] false := by
  obtain ⟨L, b, D⟩ := done_some 5 0 N z mn mx me top
  obtain ⟨rfl, rfl⟩ := D.mean hd rfl
  exact D
theorem is_top (hd : doneOk 6 2 N z mn mx top) : DoneIs 6 2 N z mn mx me top (top.take 2) false := by
  obtain ⟨L, b, D⟩ := done_some 6 2 N z mn mx me top
  obtain ⟨rfl, rfl⟩ := D.top hd rfl
  exact D
theorem is_sum (hd : doneOk 2 0 N z mn mx top) : ∃ L b ln, DoneIs 2 0 N z mn mx me top L b ∧ L.length = ln ∧ ((ln : Int) == 0) = b ∧ ln ≤ 1 := by
  obtain ⟨L, b, D⟩ := done_some 2 0 N z mn mx me top
  refine ⟨L, b, L.length, D, rfl, ?_, ?_⟩
  · by_cases h : I64 z
    · obtain ⟨rfl, rfl⟩ := D.sum hd rfl h; rfl
    · obtain ⟨rfl, rfl⟩ := D.over hd rfl h; rfl
  · by_cases h : I64 z
    · obtain ⟨rfl, rfl⟩ := D.sum hd rfl h; simp
    · obtain ⟨rfl, rfl⟩ := D.over hd rfl h; simp
end
theorem list_doneOk {l : List Int} (q k : Int) (hk : kindOk q k) (h0 : l ≠ []) (hn : l.length ≤ 1000000) : doneOk q k l.length l.sum (mnOf l) (mxOf l) (topOf l) :=
  ⟨hk, by have := List.length_pos_iff.2 h0; omega, aggOk_list l hn⟩
theorem done_call (l : List Int) (h0 : l ≠ []) (hn : l.length ≤ 1000000) (h64 : ∀ x ∈ l, I64 x) (q k : Int) (L : List Int) (ln : Nat) (b : Bool) (hD : DoneIs q k l.length l.sum (mnOf l) (mxOf l) (l.sum / (l.length : Int)) (topOf l) L b) (hL : L.length = ln)
    (p : Nat) (hp : (topOf l).length = p) (A : Option Addr) (c : Nat) (W : World) (h : Rd W A (iz (topOf l))) (hf : SFit A p c) :
    Calls Try.prog 19 #[.int .i64 q, .int .i64 k, agv l.length (hi l.sum) (lo l.sum) (mnOf l) (mxOf l) (.slice A p c)] W (DoneRes L ln b W) := by
  have hm := mean_in h0
  have h1 := mnOf_i64 h64
  have h2 := mxOf_i64 h64
  have hme : I64 (l.sum / (l.length : Int)) := by unfold I64 at *; omega
  have hp1 := List.length_pos_iff.2 h0
  exact implAggDone_any q k l.length l.sum (mnOf l) (mxOf l) _ true A p c (topOf l) L ln b W h hp (by rw [← hp, topOf_length]; omega) hf (topOf_i64 h64) h1 (sum_wr h64 hn)
    (fun W => implWideMean_yes _ _ l.sum l.length W (by omega) (by omega) (sum_wr h64 hn) rfl rfl hme) hD hL
theorem done_spec (l : List Int) (h0 : l ≠ []) (hn : l.length ≤ 1000000) (h64 : ∀ x ∈ l, I64 x) (q k : Int) (L : List Int) (ln : Nat) (b : Bool) (hD : DoneIs q k l.length l.sum (mnOf l) (mxOf l) (l.sum / (l.length : Int)) (topOf l) L b) (hL : L.length = ln)
    (p : Nat) (hp : (topOf l).length = p) (A : Option Addr) (c : Nat) (W : World) (h : Rd W A (iz (topOf l))) (hf : SFit A p c) :
    Calls Try.prog 20 #[.int .i64 q, .int .i64 k, agv l.length (hi l.sum) (lo l.sum) (mnOf l) (mxOf l) (.slice A p c)] W (DoneRes L ln b W) := by
  have hm := mean_in h0
  have h1 := mnOf_i64 h64
  have h2 := mxOf_i64 h64
  have hme : I64 (l.sum / (l.length : Int)) := by unfold I64 at *; omega
  have hp1 := List.length_pos_iff.2 h0
  exact specAggDone_any q k l.length l.sum (mnOf l) (mxOf l) _ true A p c (topOf l) L ln b W h hp (by rw [← hp, topOf_length]; omega) hf (topOf_i64 h64) h1 (sum_wr h64 hn)
    (fun W => mean_yes l.sum l.length (sum_wr h64 hn) (by omega) hn hme W) hD hL
/-- the cells of a row of integers -/
theorem rd_ints {w : World} {A : Option Addr} {l : List Int} (h : Rd w A (iz l)) (h0 : 0 < l.length) :
    ∃ ad, A = some ad ∧ ∀ W, Below w.heap.size w W → ∀ i, i < l.length → W.cell? (ad.add i) = some (.int .i64 (iat l i)) := by
  obtain ⟨ad, rfl, hb, _⟩ := h 0 _ (iz_iat h0)
  refine ⟨ad, rfl, fun W hW i hi => ?_⟩
  obtain ⟨ad', e', _, hc⟩ := h i _ (iz_iat hi)
  obtain rfl : ad = ad' := by injection e'
  exact (hW.cell (by rw [add_block]; exact hb)).trans hc
theorem top_two {l : List Int} (h0 : l ≠ []) : ((topOf l).take 2).length = min 2 l.length ∧ 0 < ((topOf l).take 2).length ∧ iat ((topOf l).take 2) 0 = mxOf l := by
  have hl := List.length_pos_iff.2 h0
  have ht : ((topOf l).take 2).length = min 2 l.length := by rw [List.length_take, topOf_length]; omega
  refine ⟨ht, by omega, ?_⟩
  unfold mxOf
  have hne := topOf_ne h0
  cases htop : topOf l with
  | nil => exact absurd htop hne
  | cons a t => rfl
end Go.Proofs.Ytkaghdkehkjdoaa

/-
  The law: every kind of aggregate returns what its name says. By genagg.py.
-/
namespace Go.Proofs.Ytkaghdkehkjdoaa
open Go.RowKit

theorem specOf_list (ts : List Int) (A : Option Addr) (n c m : Nat) (w : World) (hA : Rd w A (iz ts)) (hz : ts.length = n) (hn : n ≤ 1000000) (hf : SFit A n c) (h64 : ∀ x ∈ ts, I64 x) (hm : (topOf ts).length = m) :
    Calls Try.prog 17 #[.slice A n c] w (AggIn m n (hi ts.sum) (lo ts.sum) (mnOf ts) (mxOf ts) (topOf ts) w) := by
  have h := specAggOf_any A n c ts w hA hz (by omega) hf h64
  rw [agg_small (by omega), hz] at h
  exact h.mono fun _ _ h => agg_as h hm
theorem rd_first {w : World} {A : Option Addr} {l : List Int} (h : Rd w A (iz l)) (h0 : 0 < l.length) :
    ∃ b off, A = some ⟨b, off, none⟩ ∧ ∀ W, Below w.heap.size w W → W.cell? ⟨b, off, none⟩ = some (.int .i64 (iat l 0)) := by
  obtain ⟨ad, rfl, h1⟩ := rd_ints h h0
  obtain ⟨b, off, rfl⟩ := plain_of (h1 w (Below.refl _ _) 0 h0)
  refine ⟨b, off, rfl, fun W hW => ?_⟩
  have := h1 W hW 0 h0
  rwa [plain_add', Nat.add_zero] at this
theorem same_as {A B : Option Addr} {n ca cb : Nat} {zs : List Int} {w : World} (hA : Rd w A (iz zs)) (hB : Rd w B (iz zs)) (hl : zs.length = n) (hn : n ≤ 1048576) :
    Calls Try.prog 21 #[.slice A n ca, .slice B n cb] w fun e w' => e = .returned (.bool true) ∧ Below w.heap.size w w' := by
  subst hl
  exact as_bool (decide_eq_true rfl) (same_any A B ca cb zs zs w hA hB (by omega) (by omega))

set_option maxRecDepth 100000 in
set_option maxHeartbeats 8000000 in
theorem fnAggDone_walk (A : Option Addr) (c n : Nat) (w : World) (hA : Byt w A n w.heap.size) (hn : n ≤ 9223372036854775807) :
    Calls Try.prog 4 #[.slice A n c] w fun e w' => e = .returned (.bool true) ∧ Below w.heap.size w w' := by
  by_cases hbig : 1048576 < n
  · go_enter Try.func4, Try.ntmps4
    go_wp2_with fail
    refine (bigN_any A n c true _ (by simpa using hbig) hn).mono ?_
    rintro e w' ⟨rfl, rfl⟩
    go_wp2
    go_ret
    exact ⟨rfl, Below.refl _ _⟩
  · have hb := Below.refl w.heap.size w
    go_enter Try.func4, Try.ntmps4
    go_wp2_with fail
    refine (bigN_any A n c false _ (by simpa using hbig) hn).mono ?_
    rintro e w' ⟨rfl, rfl⟩
    go_wp2_with fail
    refine (numbers_any A n c _ hA (by omega)).mono ?_
    rintro e w2 ⟨ts, A1, c1, rfl, hla, hia, ra0, hb2⟩
    replace hb := below_trans hb hb2
    have hz2 := hb2.size
    have HL1 : Hid (ts.length + 1 ≤ 2097152) := Lib.hid (by omega)
    have HIA := Lib.hid hia
    clear hA hb2 hia hbig hn
    go_wp2_with (at_builtin; refine appInt.own rfl _ (.tmp 24) rfl w.heap.size (.slice A1 ts.length c1) ts.length (iz ts) rfl (ra0.alloc _) w2.heap.size 1 1 [.int .i64 1] rfl (Own.new w2 _ _) rfl (iz_one [1]) HL1 (by simp; omega) ?_)
    intro A2 c2 w3 hown hgrow hb3
    have rl0 : w3.ownsRow w.heap.size 3 1 (.slice A2 (ts.length + 1) c2) (ts.length + 1) (iz (ts ++ [1])) := owns_as hown (iz_append ts [1]).symm
    replace hb := (below_trans hb (below_alloc w2 (.cells #[.int .i64 1] 3))).trans hb3
    have h64 : ∀ x ∈ ts ++ [1], I64 x := i64_snoc HIA.out (by unfold I64; omega)
    have hll : (ts ++ [1]).length = ts.length + 1 := by simp
    obtain ⟨nl, hnl⟩ : ∃ nl, ts.length + 1 = nl := ⟨_, rfl⟩
    have hn1 : 1 ≤ nl ∧ nl ≤ 10 := by omega
    rw [hnl] at hll rl0 ⊢
    obtain ⟨l, hl⟩ : ∃ l, ts ++ [1] = l := ⟨_, rfl⟩
    rw [hl] at hll rl0 h64
    have h0 : l ≠ [] := by rintro rfl; simp at hll; omega
    have hlm : l.length ≤ 1000000 := by omega
    clear hown hgrow hb3 ra0 HL1 HIA hla hz2 hl hnl
    have fl := owns_fit rl0
    have rl := RowAt.of rl0
    clear rl0
    obtain ⟨p, hp⟩ : ∃ p, (topOf l).length = p := ⟨_, rfl⟩
    obtain ⟨t1, t2, t3⟩ := top_two h0
    obtain ⟨p2, hp2⟩ : ∃ p2, ((topOf l).take 2).length = p2 := ⟨_, rfl⟩
    have hp2n : min 2 (nl : Int) = (p2 : Int) := by rw [← hp2, t1, hll]; omega
    obtain ⟨L6, b6, ln6, D6, e6, s6, m6⟩ := is_sum (me := l.sum / (l.length : Int)) (list_doneOk 2 0 (by unfold kindOk; omega) h0 hlm)
    have HX := Lib.hid (fun W (h : Rd W A2 (iz l)) => aggOf_list l A2 nl c2 p W h hll (by omega) h64 hp)
    have HS := Lib.hid (fun W (h : Rd W A2 (iz l)) => specOf_list l A2 nl c2 p W h hll (by omega) fl h64 hp)
    have H1 := Lib.hid (fun X c W (h : Rd W X (iz (topOf l))) (hf : SFit X p c) => done_call l h0 hlm h64 1 0 _ 1 false (is_one (list_doneOk 1 0 (by unfold kindOk; omega) h0 hlm)) rfl p hp X c W h hf)
    have H3 := Lib.hid (fun X c W (h : Rd W X (iz (topOf l))) (hf : SFit X p c) => done_call l h0 hlm h64 3 0 _ 1 false (is_least (list_doneOk 3 0 (by unfold kindOk; omega) h0 hlm)) rfl p hp X c W h hf)
    have H4 := Lib.hid (fun X c W (h : Rd W X (iz (topOf l))) (hf : SFit X p c) => done_call l h0 hlm h64 4 0 _ 1 false (is_most (list_doneOk 4 0 (by unfold kindOk; omega) h0 hlm)) rfl p hp X c W h hf)
    have H5 := Lib.hid (fun X c W (h : Rd W X (iz (topOf l))) (hf : SFit X p c) => done_call l h0 hlm h64 5 0 _ 1 false (is_mean (list_doneOk 5 0 (by unfold kindOk; omega) h0 hlm)) rfl p hp X c W h hf)
    have H6 := Lib.hid (fun X c W (h : Rd W X (iz (topOf l))) (hf : SFit X p c) => done_call l h0 hlm h64 6 2 _ p2 false (is_top (list_doneOk 6 2 (by unfold kindOk; omega) h0 hlm)) hp2 p hp X c W h hf)
    have H2 := Lib.hid (fun X c W (h : Rd W X (iz (topOf l))) (hf : SFit X p c) => done_call l h0 hlm h64 2 0 L6 ln6 b6 D6 e6 p hp X c W h hf)
    have H2s := Lib.hid (fun X c W (h : Rd W X (iz (topOf l))) (hf : SFit X p c) => done_spec l h0 hlm h64 2 0 L6 ln6 b6 D6 e6 p hp X c W h hf)
    have HB2 := Lib.hid (show ∀ i, i < nl → mnOf l ≤ iat l i ∧ iat l i ≤ mxOf l from fun i hi => ⟨mnOf_le (iat_mem (by omega)), le_mxOf l _ (iat_mem (by omega))⟩)
    have HME := Lib.hid (mean_in h0)
    have HT := Lib.hid (And.intro t2 t3)
    have HN := Lib.hid hll
    have HL6 := Lib.hid e6
    have HS6 := Lib.hid s6
    have hb6 : (b6 != b6) = false := by simp
    have hNN : ((l.length : Int)) = (nl : Int) := by rw [hll]
    rw [hNN] at H1 H2 H3 H4 H5 H6 H2s HME
    clear D6 e6 s6 hp t1 t2 t3 hp2 h64 h0 hlm fl hll hNN
    generalize hi l.sum = h at *
    generalize lo l.sum = lw at *
    generalize l.sum / (nl : Int) = me at *
    generalize mnOf l = mn at *
    generalize mxOf l = mx at *
    generalize topOf l = top at *
    obtain ⟨N, HNN⟩ : ∃ N : Int, Hid (N = (nl : Int)) := ⟨_, Lib.hid rfl⟩
    rw [← HNN.out] at HX HS H1 H2 H3 H4 H5 H6 H2s
    go_wp2_with fail
    refine (HX.out _ rl.reads).mono ?_
    rintro e w4 ⟨A4, c4, rfl, rt, hb4⟩
    have z4 := hb4.size
    replace rl := rl.grow hb4
    replace hb := below_trans hb hb4
    clear hb4
    have ft := Lib.hid (owns_fit rt.1)
    have ba := Own.new w4 31 (agc N h lw mn mx (.slice A4 p c4))
    replace rl := rl.grow (below_alloc w4 (.cells (agc N h lw mn mx (.slice A4 p c4)).toArray 31))
    replace rt := rt.grow (below_alloc w4 (.cells (agc N h lw mn mx (.slice A4 p c4)).toArray 31))
    replace hb := below_trans hb (below_alloc w4 (.cells (agc N h lw mn mx (.slice A4 p c4)).toArray 31))
    obtain ⟨bac0, bac1, bac2, bac3, bac4, bac5⟩ := ba.six
    go_wp2_with fail
    clear bac0 bac1 bac2 bac3 bac4 bac5
    refine (H1.out _ _ _ rt.reads ft.out).mono ?_
    rintro e w5 ⟨A5, c5, rfl, r1, hb5⟩
    have z5 := hb5.size
    rw [World.size_alloc] at z5
    rw [World.size_alloc] at r1
    replace rl := rl.grow hb5
    replace rt := rt.grow hb5
    replace ba := ba.grow hb5
    replace hb := below_trans hb hb5
    clear hb5
    obtain ⟨bac0, bac1, bac2, bac3, bac4, bac5⟩ := ba.six
    go_wp2_with fail
    clear bac0 bac1 bac2 bac3 bac4 bac5
    refine (H3.out _ _ _ rt.reads ft.out).mono ?_
    rintro e w6 ⟨A6, c6, rfl, r3, hb6⟩
    have z6 := hb6.size
    replace rl := rl.grow hb6
    replace rt := rt.grow hb6
    replace ba := ba.grow hb6
    replace r1 := r1.grow hb6
    replace hb := below_trans hb hb6
    clear hb6
    obtain ⟨bac0, bac1, bac2, bac3, bac4, bac5⟩ := ba.six
    go_wp2_with fail
    clear bac0 bac1 bac2 bac3 bac4 bac5
    refine (H4.out _ _ _ rt.reads ft.out).mono ?_
    rintro e w7 ⟨A7, c7, rfl, r4, hb7⟩
    have z7 := hb7.size
    replace rl := rl.grow hb7
    replace rt := rt.grow hb7
    replace ba := ba.grow hb7
    replace r1 := r1.grow hb7
    replace r3 := r3.grow hb7
    replace hb := below_trans hb hb7
    clear hb7
    obtain ⟨bac0, bac1, bac2, bac3, bac4, bac5⟩ := ba.six
    go_wp2_with fail
    clear bac0 bac1 bac2 bac3 bac4 bac5
    refine (H6.out _ _ _ rt.reads ft.out).mono ?_
    rintro e w8 ⟨A8, c8, rfl, r6, hb8⟩
    have z8 := hb8.size
    replace rl := rl.grow hb8
    replace rt := rt.grow hb8
    replace ba := ba.grow hb8
    replace r1 := r1.grow hb8
    replace r3 := r3.grow hb8
    replace r4 := r4.grow hb8
    replace hb := below_trans hb hb8
    clear hb8
    obtain ⟨bac0, bac1, bac2, bac3, bac4, bac5⟩ := ba.six
    go_wp2_with fail
    clear bac0 bac1 bac2 bac3 bac4 bac5
    refine (H5.out _ _ _ rt.reads ft.out).mono ?_
    rintro e w9 ⟨A9, c9, rfl, r5, hb9⟩
    have z9 := hb9.size
    replace rl := rl.grow hb9
    replace rt := rt.grow hb9
    replace ba := ba.grow hb9
    replace r1 := r1.grow hb9
    replace r3 := r3.grow hb9
    replace r4 := r4.grow hb9
    replace r6 := r6.grow hb9
    replace hb := below_trans hb hb9
    clear hb9
    obtain ⟨bac0, bac1, bac2, bac3, bac4, bac5⟩ := ba.six
    go_wp2_with fail
    clear bac0 bac1 bac2 bac3 bac4 bac5
    refine (H2.out _ _ _ rt.reads ft.out).mono ?_
    rintro e w10 ⟨A10, c10, rfl, r2, hb10⟩
    have z10 := hb10.size
    replace rl := rl.grow hb10
    replace rt := rt.grow hb10
    replace ba := ba.grow hb10
    replace r1 := r1.grow hb10
    replace r3 := r3.grow hb10
    replace r4 := r4.grow hb10
    replace r6 := r6.grow hb10
    replace r5 := r5.grow hb10
    replace hb := below_trans hb hb10
    clear hb10
    clear ba
    clear rt
    clear ft
    go_wp2_with fail
    refine (HS.out _ rl.reads).mono ?_
    rintro e w11 ⟨A11, c11, rfl, ru, hb11⟩
    have z11 := hb11.size
    replace rl := rl.grow hb11
    replace r1 := r1.grow hb11
    replace r3 := r3.grow hb11
    replace r4 := r4.grow hb11
    replace r6 := r6.grow hb11
    replace r5 := r5.grow hb11
    replace r2 := r2.grow hb11
    replace hb := below_trans hb hb11
    clear hb11
    have fu := Lib.hid (owns_fit ru.1)
    go_wp2_with fail
    refine (H2s.out _ _ _ ru.reads fu.out).mono ?_
    rintro e w12 ⟨A12, c12, rfl, rv, hb12⟩
    have z12 := hb12.size
    replace rl := rl.grow hb12
    replace r1 := r1.grow hb12
    replace r3 := r3.grow hb12
    replace r4 := r4.grow hb12
    replace r6 := r6.grow hb12
    replace r5 := r5.grow hb12
    replace r2 := r2.grow hb12
    replace ru := ru.grow hb12
    replace hb := below_trans hb hb12
    clear hb12
    clear ru
    clear fu
    go_wp2_with fail
    refine (same_as (A := A10) (B := A12) (ca := c10) (cb := c12) r2.reads rv.reads HL6.out (by omega)).mono ?_
    rintro e w13 ⟨rfl, hb13⟩
    have z13 := hb13.size
    replace rl := rl.grow hb13
    replace r1 := r1.grow hb13
    replace r3 := r3.grow hb13
    replace r4 := r4.grow hb13
    replace r6 := r6.grow hb13
    replace r5 := r5.grow hb13
    replace r2 := r2.grow hb13
    replace rv := rv.grow hb13
    replace hb := below_trans hb hb13
    clear hb13
    clear rv
    clear r2
    obtain ⟨g1, o1, rfl, k1⟩ := rd_first r1.reads (by simp)
    obtain ⟨g3, o3, rfl, k3⟩ := rd_first r3.reads (by simp)
    obtain ⟨g4, o4, rfl, k4⟩ := rd_first r4.reads (by simp)
    obtain ⟨g5, o5, rfl, k5⟩ := rd_first r5.reads (by simp)
    obtain ⟨g6, o6, rfl, k6⟩ := rd_first r6.reads HT.out.1
    obtain ⟨al, rfl, kl⟩ := rd_ints rl.reads (by rw [HN.out]; omega)
    clear rl
    clear r1
    clear r3
    clear r4
    clear r6
    clear r5
    have K1 := Lib.hid k1
    have K3 := Lib.hid k3
    have K4 := Lib.hid k4
    have K5 := Lib.hid k5
    have K6 := Lib.hid (fun W hW => (k6 W hW).trans (by rw [HT.out.2]))
    have KL := Lib.hid (fun W hW i hi => kl W hW i (by rw [HN.out]; exact hi))
    clear k1 k3 k4 k5 k6 kl HX H1 H3 H4 H5 H6 H2 H2s HS
    go_wp2
    go_loopw [19] (fun i wr => ∃ k : Nat, k ≤ nl ∧ i = .int .i64 (k : Int) ∧ Below w13.heap.size w13 wr) (fun i _ => nl - (intOf i).toNat)
    case atStart => exact ⟨0, Nat.zero_le _, rfl, Below.refl _ _⟩
    case round =>
      obtain ⟨k, hk, rfl, hbel⟩ := hrel
      by_cases hlt : k < nl
      · have f3 : ∀ u : Bel wr, u.w.cell? ⟨g3, o3, none⟩ = some (.int .i64 mn) := fun u => K3.out _ (below_trans hbel u.ok)
        have f4 : ∀ u : Bel wr, u.w.cell? ⟨g4, o4, none⟩ = some (.int .i64 mx) := fun u => K4.out _ (below_trans hbel u.ok)
        have fl : ∀ u : Bel wr, u.w.cell? (al.add k) = some (.int .i64 (iat l k)) := fun u => KL.out _ (below_trans hbel u.ok) k hlt
        obtain ⟨x, hx⟩ : ∃ x, iat l k = x := ⟨_, rfl⟩
        rw [hx] at fl
        have hlo : decide (x < mn) = false := by have := (HB2.out k hlt).1; rw [hx] at this; simp; omega
        have hhi : decide (mx < x) = false := by have := (HB2.out k hlt).2; rw [hx] at this; simp; omega
        clear hx
        go_wp2
        refine wp_region_bel (by kernel_rfl) (by kernel_rfl) ?_
        repeat (go_big_quiet_step (fail))
        refine wpQuiet_nil ?_
        rintro _ ⟨u, rfl⟩
        go_wp2
        go_roundw
        case rel => exact ⟨k + 1, by omega, by go_num, below_trans hbel u.ok⟩
        case measure => simp [intOf]; omega
      · obtain rfl : k = nl := by omega
        have f1 : ∀ u : Bel wr, u.w.cell? ⟨g1, o1, none⟩ = some (.int .i64 N) := fun u => K1.out _ (below_trans hbel u.ok)
        have f3 : ∀ u : Bel wr, u.w.cell? ⟨g3, o3, none⟩ = some (.int .i64 mn) := fun u => K3.out _ (below_trans hbel u.ok)
        have f4 : ∀ u : Bel wr, u.w.cell? ⟨g4, o4, none⟩ = some (.int .i64 mx) := fun u => K4.out _ (below_trans hbel u.ok)
        have f5 : ∀ u : Bel wr, u.w.cell? ⟨g5, o5, none⟩ = some (.int .i64 me) := fun u => K5.out _ (below_trans hbel u.ok)
        have f6 : ∀ u : Bel wr, u.w.cell? ⟨g6, o6, none⟩ = some (.int .i64 mx) := fun u => K6.out _ (below_trans hbel u.ok)
        have q1 : decide (mn ≤ me) = true := by simpa using HME.out.1
        have q2 : decide (me ≤ mx) = true := by simpa using HME.out.2
        have q3 : (N == (k : Int)) = true := by rw [HNN.out]; simp
        have q4 : (b6 == b6) = true := by simp
        have q5 := HS6.out
        clear HB2
        go_wp2
        refine wp_region_bel (by kernel_rfl) (by kernel_rfl) ?_
        repeat (go_big_quiet_step (fail))
        refine wpQuiet_nil ?_
        rintro _ ⟨u, rfl⟩
        have hbe := below_trans (below_trans hb hbel) u.ok
        go_wp2
        go_ret
        exact ⟨rfl, hbe⟩
end Go.Proofs.Ytkaghdkehkjdoaa
