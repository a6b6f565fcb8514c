import Derived.Test.YtlmlckgnmkjkdaaAggOkI
import Derived.Test.YtlmlckgnmkjkdaaJoinC
import Derived.Test.YtlmlckgnmkjkdaaIntCut
import Derived.Test.YtlmlckgnmkjkdaaLawWideMean
import Derived.Test.YtlmlckgnmkjkdaaAggOkMath
import Derived.Test.YtlmlckgnmkjkdaaTopS
import Derived.Test.YtlmlckgnmkjkdaaAggI
import Derived.Test.YtlmlckgnmkjkdaaWideS
import Derived.Test.YtlmlckgnmkjkdaaBoxTail
import Derived.Test.YtlmlckgnmkjkdaaIntsW
import Derived.Test.YtlmlckgnmkjkdaaRegRest
import Derived.Deep.DeepCutAuto
import Derived.Deep.CutBlock

/-
  AggDone of the program: what it returns.
-/
namespace Go.Proofs.Ytlmlckgnmkjkdaa
open Go.RowKit

/-- can it be evaluated? -/
def doneOk (q k N z mn mx : Int) (top : List Int) : Prop := kindOk q k ∧ N ≠ 0 ∧ aggOk N z mn mx top
/-- the answer's numbers, and whether the sum is out of range; me is what WideMean answers -/
structure DoneIs (q k N z mn mx me : Int) (top : List Int) (L : List Int) (b : Bool) : Prop where
  no : ¬ doneOk q k N z mn mx top → L = [] ∧ b = false
  one : doneOk q k N z mn mx top → q = 1 → L = [N] ∧ b = false
  sum : doneOk q k N z mn mx top → q = 2 → I64 z → L = [z] ∧ b = false
  over : doneOk q k N z mn mx top → q = 2 → ¬ I64 z → L = [] ∧ b = true
  least : doneOk q k N z mn mx top → q = 3 → L = [mn] ∧ b = false
  most : doneOk q k N z mn mx top → q = 4 → L = [mx] ∧ b = false
  mean : doneOk q k N z mn mx top → q = 5 → L = [me] ∧ b = false
  top : doneOk q k N z mn mx top → q = 6 → L = top.take k.toNat ∧ b = false
theorem done_some (q k N z mn mx me : Int) (top : List Int) : ∃ L b, DoneIs q k N z mn mx me top L b := by
  by_cases h : doneOk q k N z mn mx top
  · have hk : q = 1 ∨ q = 2 ∨ q = 3 ∨ q = 4 ∨ q = 5 ∨ q = 6 := by
      have := h.1
      unfold kindOk at this
      omega
    by_cases hz : I64 z
    · refine ⟨if q = 1 then [N] else if q = 2 then [z] else if q = 3 then [mn] else if q = 4 then [mx] else if q = 5 then [me] else top.take k.toNat, false, fun h' => absurd h h', ?_, ?_, fun _ _ h' => absurd hz h', ?_, ?_, ?_, ?_⟩
      all_goals (intros; subst_vars; simp)
    · refine ⟨if q = 1 then [N] else if q = 2 then [] else if q = 3 then [mn] else if q = 4 then [mx] else if q = 5 then [me] else top.take k.toNat, decide (q = 2), fun h' => absurd h h', ?_, (fun _ _ h' => absurd h' hz), ?_, ?_, ?_, ?_, ?_⟩
      all_goals (intros; subst_vars; simp)
  · exact ⟨[], false, fun _ => ⟨rfl, rfl⟩, fun h' => absurd h' h, fun h' => absurd h' h, fun h' => absurd h' h, fun h' => absurd h' h, fun h' => absurd h' h, fun h' => absurd h' h, fun h' => absurd h' h⟩

/-- The call hands back numbers in a row of its own, and a truth value. -/
def DoneRes (L : List Int) (n : Nat) (b : Bool) (w : World) (e : Ending) (w' : World) : Prop :=
  ∃ A c, e = .returned (.tuple #[.slice A n c, .bool b]) ∧ RowAt w.heap.size w'.heap.size w' 3 1 (.slice A n c) n (iz L) ∧ Below w.heap.size w w'
theorem row_nil {lo hi : Nat} {w : World} : RowAt lo hi w 3 1 (.slice none 0 0) 0 (iz []) := ⟨⟨rfl, .inl ⟨rfl, rfl⟩⟩, fun k hk => by cases hk⟩
theorem row_int {w W : World} (v : Int) (hb : Below w.heap.size w W) :
    RowAt w.heap.size (W.alloc (.cells #[.int .i64 v] 3)).heap.size (W.alloc (.cells #[.int .i64 v] 3)) 3 1 (.slice (some ⟨W.heap.size, 0, none⟩) 1 1) 1 (iz [v]) :=
  (Own.new W 3 (iz [v])).rowAt hb.size rfl (by omega)

set_option maxHeartbeats 400000 in
theorem implOneDone_any (q N z mn mx m r : Int) (ok : Bool) (v : Value) (w : World)
    (HM : ∀ W, Calls Try.prog 129 #[.agg #[.int .i64 (hi z), .int .u64 (lo z)], .int .i64 N] W (IntRes W m ok))
    (hq : q = 1 ∧ r = N ∨ q = 3 ∧ r = mn ∨ q = 4 ∧ r = mx ∨ q = 5 ∧ r = m) :
    Calls Try.prog 111 #[.int .i64 q, agv N (hi z) (lo z) mn mx v] w fun e w' => e = .returned (.int .i64 r) ∧ Below w.heap.size w w' := by
  have o1 := Own.new w 72 (agc N (hi z) (lo z) mn mx v)
  have hb := below_alloc w (.cells (agc N (hi z) (lo z) mn mx v).toArray 72)
  obtain ⟨b0, b1, b2, b3, b4, b5⟩ := o1.six
  clear o1
  rcases hq with ⟨rfl, rfl⟩ | ⟨rfl, rfl⟩ | ⟨rfl, rfl⟩ | ⟨rfl, rfl⟩
  · go_enter Try.func111, Try.ntmps111
    go_wp2
    go_ret
    exact ⟨rfl, hb⟩
  · go_enter Try.func111, Try.ntmps111
    go_wp2
    go_ret
    exact ⟨rfl, hb⟩
  · go_enter Try.func111, Try.ntmps111
    go_wp2
    go_ret
    exact ⟨rfl, hb⟩
  · go_enter Try.func111, Try.ntmps111
    go_wp2_with fail
    refine (HM _).mono ?_
    rintro e w2 ⟨rfl, hb2⟩
    replace hb := below_trans hb hb2
    go_wp2
    go_ret
    exact ⟨rfl, hb⟩

set_option maxHeartbeats 400000 in
theorem implSumDone_any (z : Int) (L : List Int) (ln : Nat) (b : Bool) (w : World) (hL : L.length = ln) (hw : Wr z) (h1 : I64 z → L = [z] ∧ b = false) (h2 : ¬ I64 z → L = [] ∧ b = true) :
    Calls Try.prog 110 #[.agg #[.int .i64 (hi z), .int .u64 (lo z)]] w (DoneRes L ln b w) := by
  have o1 := Own.new w 70 [.int .i64 (hi z), .int .u64 (lo z)]
  have hb := below_alloc w (.cells #[.int .i64 (hi z), .int .u64 (lo z)] 70)
  obtain ⟨b0, b1⟩ := o1.two
  clear o1
  by_cases h : I64 z
  · obtain ⟨rfl, rfl⟩ := h1 h
    obtain rfl : ln = 1 := hL.symm
    go_enter Try.func110, Try.ntmps110
    go_wp2_with fail
    refine (implWideInt_yes _ _ z _ h rfl rfl).mono ?_
    rintro e w2 ⟨rfl, hb2⟩
    replace hb := below_trans hb hb2
    go_wp2
    go_ret2
    exact ⟨_, _, rfl, row_int z hb, below_trans hb (below_alloc _ _)⟩
  · obtain ⟨rfl, rfl⟩ := h2 h
    obtain rfl : ln = 0 := hL.symm
    go_enter Try.func110, Try.ntmps110
    go_wp2_with fail
    refine (implWideInt_no _ _ z _ hw h rfl rfl).mono ?_
    rintro e w2 ⟨rfl, hb2⟩
    replace hb := below_trans hb hb2
    go_wp2
    go_ret2
    exact ⟨_, _, rfl, row_nil, hb⟩

set_option maxHeartbeats 1000000 in
theorem cloneInt_any (ad : Addr) (n c : Nat) (ts : List Int) (w : World) (hR : Rd w (some ad) (iz ts)) (hz : ts.length = n) (hn : n ≤ 1048576) (hf : SFit (some ad) n c) :
    Calls Try.prog 92 #[.slice (some ad) n c] w fun e w' => ∃ A' c', e = .returned (.slice A' n c') ∧ w'.ownsRow w.heap.size 3 1 (.slice A' n c') n (iz ts) ∧ Below w.heap.size w w' := by
  have q : ∀ (w : World) (a : Option Addr) (n c n' c' : Nat), (binOp .eql 29 (.slice a n c) (.slice none n' c')).run Try.prog w = .ok (.bool a.isNone) w := fun w a n c n' c' => Lib.run_eql_slice_nil w _ _ a n c n' c' Try.underlying29
  have HR := Lib.hid (hR.below (below_alloc w (.cells #[] 3)))
  have HE := Lib.hid (owns_empty (size := 1) (Own.new w 3 []) (Nat.le_refl w.heap.size))
  have HL := Lib.hid (show (iz ts).length = n * 1 by rw [iz_length, hz, Nat.mul_one])
  have HN : Hid (0 + n ≤ 2097152) := Lib.hid (by omega)
  have HF := Lib.hid hf
  clear hR hf
  go_enter Try.func92, Try.ntmps92
  go_wp2_with (at_builtin; refine appInt.rd rfl _ (.tmp 6) rfl w.heap.size (.slice (some ⟨w.heap.size, 0, none⟩) 0 0) 0 [] rfl HE.out (some ad) n c (iz ts) rfl HR.out HF.out HL.out (iz_one _) HN (by simp) ?_; intro A' c' w1 hown hgrow hb1; rw [Nat.zero_add, List.nil_append] at hown; rw [Nat.zero_add])
  have hb := (below_alloc w (.cells #[] 3)).trans hb1
  go_wp2
  go_ret
  exact ⟨A', c', rfl, hown, hb⟩

/-- s[:p] of a slice that reads as a list -/
theorem int_front {w : World} {ad : Addr} {n c p : Nat} {ts : List Int} (hR : Rd w (some ad) (iz ts)) (hl : ts.length = n) (h0 : 0 < n) (hp : p ≤ n) (hf : SFit (some ad) n c) :
    (∀ W, (Instr.slice 29 (.slice (some ad) n c) none (some (.int .i64 (p : Int))) none).run Try.prog W = .ok (.slice (some ad) p c) W) ∧ Rd w (some ad) (iz (ts.take p)) ∧ SFit (some ad) p c := by
  have hc := hf.1
  refine ⟨fun W => ?_, fun j u hj => hR j u (iz_in_take hj), by omega, fun h => by cases h⟩
  rw [run_slice_h (P := Try.prog) (t := 29) (ht := under_int) (h0 := by omega) (h2 := by omega), size_int]
  obtain ⟨ad0, e0, _, hc0⟩ := hR 0 _ (iz_iat (by omega))
  cases e0
  obtain ⟨b, off, rfl⟩ := plain_of hc0
  simp [sliced, plain_add']

end Go.Proofs.Ytlmlckgnmkjkdaa

/-
  AggDone of the program, whole: what it returns.
-/
namespace Go.Proofs.Ytlmlckgnmkjkdaa
open Go.RowKit

theorem aggOk_top0 {N z mn mx : Int} {top : List Int} (h : aggOk N z mn mx top) (h0 : N ≠ 0) : 0 < N ∧ N ≤ 1000000 ∧ 0 < top.length ∧ top.length ≤ 4 := by
  obtain ⟨h1, h2, h3, -⟩ := (aggOk_some h0).1 h
  split at h3 <;> omega
theorem some_of {A : Option Addr} {n ca : Nat} (hf : SFit A n ca) (h : 0 < n) : ∃ ad, A = some ad := by
  cases A with
  | none => have := hf.1; have := hf.2 rfl; omega
  | some ad => exact ⟨ad, rfl⟩
/-- the first k of Top -/
theorem take_pick {top : List Int} {n : Nat} {k : Int} (hz : top.length = n) (h1 : 1 ≤ k) : ∃ p : Nat, p ≤ n ∧ min k (n : Int) = (p : Int) ∧ top.take k.toNat = top.take p ∧ (top.take k.toNat).length = p := by
  by_cases h : (n : Int) < k
  · refine ⟨n, Nat.le_refl _, by omega, ?_, ?_⟩
    · rw [List.take_of_length_le (by omega), List.take_of_length_le (by omega)]
    · rw [List.length_take]; omega
  · exact ⟨k.toNat, by omega, by omega, rfl, by rw [List.length_take]; omega⟩

set_option maxRecDepth 100000 in
set_option maxHeartbeats 4000000 in
theorem implAggDone_any (q k N z mn mx m : Int) (ok : Bool) (A : Option Addr) (n ca : Nat) (top : List Int) (L : List Int) (ln : Nat) (b : Bool) (w : World) (hA : Rd w A (iz top)) (hz : top.length = n) (hn : n ≤ 1048576) (hf : SFit A n ca)
    (h64 : ∀ x ∈ top, I64 x) (hm : I64 mn) (hw : Wr z)
    (HM : ∀ W, Calls Try.prog 129 #[.agg #[.int .i64 (hi z), .int .u64 (lo z)], .int .i64 N] W (IntRes W m ok)) (hD : DoneIs q k N z mn mx m top L b) (hL : L.length = ln) :
    Calls Try.prog 81 #[.int .i64 q, .int .i64 k, agv N (hi z) (lo z) mn mx (.slice A n ca)] w (DoneRes L ln b w) := by
  have HO := Lib.hid (fun W (hb : Below w.heap.size w W) => implAggOk_any N z mn mx _ _ A n ca top W (hA.below hb) hz hn h64 hm hw rfl rfl)
  have HA := Lib.hid (fun W (hb : Below w.heap.size w W) => hA.below hb)
  have o1 := Own.new w 72 (agc N (hi z) (lo z) mn mx (.slice A n ca))
  have hb := below_alloc w (.cells (agc N (hi z) (lo z) mn mx (.slice A n ca)).toArray 72)
  obtain ⟨b0, b1, b2, b3, b4, b5⟩ := o1.six
  have HW := Lib.hid hw
  have HMM := Lib.hid HM
  clear h64 hm hA hw HM
  by_cases hk : kindOk q k
  · have HK := Lib.hid (fun W => as_bool (tf_yes hk).symm (implAggKind_any q k W))
    by_cases h0 : N = 0
    · obtain ⟨rfl, rfl⟩ := hD.no (fun h => h.2.1 h0)
      subst h0
      obtain rfl : ln = 0 := hL.symm
      clear hk hD HMM hf hL
      go_enter Try.func81, Try.ntmps81
      go_wp2_with fail
      refine (HK.out _).mono ?_
      rintro e _ ⟨rfl, rfl⟩
      go_wp2
      go_ret2
      exact ⟨none, 0, rfl, row_nil, hb⟩
    · by_cases ho : aggOk N z mn mx top
      · replace HO := Lib.hid (fun W hb => as_bool (tf_yes ho).symm (HO.out W hb))
        have hd : doneOk q k N z mn mx top := ⟨hk, h0, ho⟩
        obtain ⟨t1, t2, t3, t4⟩ := aggOk_top0 ho h0
        have h0' : (N == 0) = false := by simp [h0]
        have hq : (q = 1 ∨ q = 3 ∨ q = 4 ∨ q = 5) ∨ q = 2 ∨ q = 6 ∧ 1 ≤ k := by unfold kindOk at hk; omega
        rcases hq with hq | hq | ⟨hq, hk1⟩
        · obtain ⟨r, rfl, rfl, hr⟩ : ∃ r, L = [r] ∧ b = false ∧ (q = 1 ∧ r = N ∨ q = 3 ∧ r = mn ∨ q = 4 ∧ r = mx ∨ q = 5 ∧ r = m) := by
            rcases hq with h | h | h | h
            · exact ⟨N, (hD.one hd h).1, (hD.one hd h).2, .inl ⟨h, rfl⟩⟩
            · exact ⟨mn, (hD.least hd h).1, (hD.least hd h).2, .inr (.inl ⟨h, rfl⟩)⟩
            · exact ⟨mx, (hD.most hd h).1, (hD.most hd h).2, .inr (.inr (.inl ⟨h, rfl⟩))⟩
            · exact ⟨m, (hD.mean hd h).1, (hD.mean hd h).2, .inr (.inr (.inr ⟨h, rfl⟩))⟩
          obtain rfl : ln = 1 := hL.symm
          have HON := Lib.hid (fun W => implOneDone_any q N z mn mx m r ok (.slice A n ca) W HMM.out hr)
          clear hr hd ho hD hk HMM hf h0 t1 t2 t3 t4 hL
          rcases hq with rfl | rfl | rfl | rfl
          all_goals
            go_enter Try.func81, Try.ntmps81
            go_wp2_with fail
            refine (HK.out _).mono ?_
            rintro e _ ⟨rfl, rfl⟩
            go_wp2_with fail
            clear b0 b1 b2 b3 b4 b5
            refine (HO.out _ hb).mono ?_
            rintro e w2 ⟨rfl, hb2⟩
            replace o1 := o1.grow hb2
            replace hb := below_trans hb hb2
            clear hb2
            obtain ⟨b0, b1, b2, b3, b4, b5⟩ := o1.six
            go_wp2_with fail
            clear b0 b1 b2 b3 b4 b5 o1
            refine (HON.out _).mono ?_
            rintro e w3 ⟨rfl, hb3⟩
            replace hb := below_trans hb hb3
            clear hb3
            go_wp2
            go_ret2
            exact ⟨_, _, rfl, row_int r hb, below_trans hb (below_alloc _ _)⟩
        · subst hq
          have HS := Lib.hid (fun W => implSumDone_any z L ln b W hL HW.out (hD.sum hd rfl) (hD.over hd rfl))
          clear hd ho hD hk HMM hf h0 t1 t2 t3 t4 hL
          go_enter Try.func81, Try.ntmps81
          go_wp2_with fail
          refine (HK.out _).mono ?_
          rintro e _ ⟨rfl, rfl⟩
          go_wp2_with fail
          clear b0 b1 b2 b3 b4 b5
          refine (HO.out _ hb).mono ?_
          rintro e w2 ⟨rfl, hb2⟩
          replace o1 := o1.grow hb2
          replace hb := below_trans hb hb2
          clear hb2
          obtain ⟨b0, b1, b2, b3, b4, b5⟩ := o1.six
          go_wp2_with fail
          clear b0 b1 b2 b3 b4 b5 o1
          refine (HS.out _).mono ?_
          rintro e w3 ⟨A3, c3, rfl, r3, hb3⟩
          replace r3 := r3.base hb.size
          replace hb := below_trans hb hb3
          clear hb3
          go_wp2
          go_ret2
          exact ⟨A3, c3, rfl, r3, hb⟩
        · subst hq
          obtain ⟨rfl, rfl⟩ := hD.top hd rfl
          obtain ⟨p, hp, hmin, hL1, hL2⟩ := take_pick hz hk1
          obtain rfl : ln = p := hL.symm.trans hL2
          rw [hL1]
          obtain ⟨ad, rfl⟩ := some_of hf (by omega)
          have HF := Lib.hid (fun W (hb : Below w.heap.size w W) => int_front (HA.out W hb) hz (by omega) hp hf)
          have hsl := (HF.out _ (Below.refl _ _)).1
          have hlt : (top.take ln).length = ln := by rw [← hL1]; exact hL2
          have HLN := Lib.hid (And.intro hlt (show ln ≤ 1048576 by omega))
          clear hd ho hD hk HMM hf h0 t1 t2 t3 t4 hL hL1 hL2 hlt hp HW
          go_enter Try.func81, Try.ntmps81
          go_wp2_with fail
          refine (HK.out _).mono ?_
          rintro e _ ⟨rfl, rfl⟩
          go_wp2_with fail
          clear b0 b1 b2 b3 b4 b5
          refine (HO.out _ hb).mono ?_
          rintro e w2 ⟨rfl, hb2⟩
          replace o1 := o1.grow hb2
          replace hb := below_trans hb hb2
          clear hb2
          obtain ⟨b0, b1, b2, b3, b4, b5⟩ := o1.six
          go_wp2_with fail
          clear b0 b1 b2 b3 b4 b5 o1
          refine (cloneInt_any ad ln ca (top.take ln) _ (HF.out _ hb).2.1 HLN.out.1 HLN.out.2 (HF.out _ hb).2.2).mono ?_
          rintro e w3 ⟨A3, c3, rfl, hown, hb3⟩
          have r3 := (RowAt.of hown).base hb.size
          replace hb := below_trans hb hb3
          clear hb3 hown
          go_wp2
          go_ret2
          exact ⟨A3, c3, rfl, r3, hb⟩
      · obtain ⟨rfl, rfl⟩ := hD.no (fun h => ho h.2.2)
        obtain rfl : ln = 0 := hL.symm
        replace HO := Lib.hid (fun W hb => as_bool (tf_no ho).symm (HO.out W hb))
        have h0' : (N == 0) = false := by simp [h0]
        clear hk hD HMM hf h0 ho hL
        go_enter Try.func81, Try.ntmps81
        go_wp2_with fail
        refine (HK.out _).mono ?_
        rintro e _ ⟨rfl, rfl⟩
        go_wp2_with fail
        clear b0 b1 b2 b3 b4 b5
        refine (HO.out _ hb).mono ?_
        rintro e w2 ⟨rfl, hb2⟩
        replace hb := below_trans hb hb2
        go_wp2
        go_ret2
        exact ⟨none, 0, rfl, row_nil, hb⟩
  · obtain ⟨rfl, rfl⟩ := hD.no (fun h => hk h.1)
    obtain rfl : ln = 0 := hL.symm
    have HK := Lib.hid (fun W => as_bool (tf_no hk).symm (implAggKind_any q k W))
    clear hk hD HMM hf hL
    go_enter Try.func81, Try.ntmps81
    go_wp2_with fail
    refine (HK.out _).mono ?_
    rintro e _ ⟨rfl, rfl⟩
    go_wp2
    go_ret2
    exact ⟨none, 0, rfl, row_nil, hb⟩

end Go.Proofs.Ytlmlckgnmkjkdaa

/-
  AggOk of the model, and what it calls.
-/
namespace Go.Proofs.Ytlmlckgnmkjkdaa
open Go.RowKit

set_option maxHeartbeats 400000 in
theorem l07Same_any (A B : Option Addr) (ca cb : Nat) (xs ys : List Int) (w : World) (hA : Rd w A (iz xs)) (hB : Rd w B (iz ys)) (hn : xs.length < 4611686018427387904) (hm : ys.length < 4611686018427387904) :
    Calls Try.prog 101 #[.slice A xs.length ca, .slice B ys.length cb] w fun e w' => e = .returned (.bool (decide (xs = ys))) ∧ Below w.heap.size w w' := by
  by_cases hl : xs.length = ys.length
  · have hl1 : ((xs.length : Int) != (ys.length : Int)) = false := by simp [hl]
    have HL := Lib.hid hl
    clear hl
    go_enter Try.func101, Try.ntmps101
    go_wp2
    go_loopw [5] (fun i wr => ∃ k : Nat, k ≤ xs.length ∧ i = .int .i64 k ∧ Hid (xs.take k = ys.take k) ∧ Below w.heap.size w wr) (fun i _ => xs.length - (intOf i).toNat)
    case atStart => exact ⟨0, Nat.zero_le _, rfl, Lib.hid (by simp), Below.refl _ _⟩
    case round =>
      obtain ⟨k, hk, rfl, hpre, hbel⟩ := hrel
      by_cases hlt : k < xs.length
      · have hlt2 : k < ys.length := by rw [← HL.out]; exact hlt
        obtain ⟨ad, rfl, hb1, hc1⟩ := hA k _ (iz_at hlt)
        obtain ⟨bd, rfl, hb2, hc2⟩ := hB k _ (iz_at hlt2)
        have h1 : ∀ u : Bel wr, u.w.cell? (ad.add k) = some (.int .i64 (xs.getD k 0)) := fun u => ((below_trans hbel u.ok).cell (by rw [add_block]; exact hb1)).trans hc1
        have h2 : ∀ u : Bel wr, u.w.cell? (bd.add k) = some (.int .i64 (ys.getD k 0)) := fun u => ((below_trans hbel u.ok).cell (by rw [add_block]; exact hb2)).trans hc2
        clear hc1 hc2
        go_wp2
        refine wp_region_bel (by kernel_rfl) (by kernel_rfl) ?_
        repeat (go_big_quiet_step (fail))
        refine wpQuiet_nil ?_
        rintro _ ⟨u, rfl⟩
        by_cases heq : xs[k] = ys[k]
        · have hne : (xs[k] != ys[k]) = false := by simp [heq]
          have HE := Lib.hid heq
          clear heq
          go_wp2
          go_roundw
          case rel => exact ⟨k + 1, by omega, by go_num, Lib.hid (take_next hlt hlt2 hpre.out HE.out), below_trans hbel u.ok⟩
          case measure => simp [intOf]; omega
        · have hne : (xs[k] != ys[k]) = true := by rw [bne_iff_ne]; omega
          go_wp2
          go_ret
          exact ⟨ret_bool (by rw [eq_comm, decide_eq_false_iff_not]; rintro rfl; exact heq rfl), below_trans hbel u.ok⟩
      · go_wp2
        go_ret
        refine ⟨ret_bool ?_, hbel⟩
        have hp := hpre.out
        have hll := HL.out
        rw [List.take_of_length_le (by omega), List.take_of_length_le (by omega)] at hp
        simp [hp]
  · have hl1 : ((xs.length : Int) != (ys.length : Int)) = true := by rw [bne_iff_ne]; omega
    go_enter Try.func101, Try.ntmps101
    go_wp2
    go_ret
    exact ⟨ret_bool (by rw [eq_comm, decide_eq_false_iff_not]; rintro rfl; exact hl rfl), Below.refl _ _⟩


theorem half_step {a z x : Int} : (x % 2 = 1 → z + a * x = z + a + (a + a) * (x / 2)) ∧ (x % 2 ≠ 1 → z + a * x = z + (a + a) * (x / 2)) := by
  have e : (a + a) * (x / 2) = a * (2 * (x / 2)) := by rw [Int.mul_comm 2, ← Int.mul_assoc, Int.mul_comm _ 2, ← Int.mul_assoc]; congr 1; omega
  constructor
  · intro h
    rw [e, show 2 * (x / 2) = x - 1 by omega, Int.mul_sub]; omega
  · intro h
    rw [e, show 2 * (x / 2) = x by omega]

/-- a product that is being added up: the result's cell, the sum and the number to add -/
structure TS (w wr : World) (X : Nat) (zw za : Int) : Prop where
  oR : Own wr w.heap.size 70 [.int .i64 0, .int .u64 0]
  oW : Own wr (w.heap.size + 1) 70 [.int .i64 (hi zw), .int .u64 (lo zw)]
  oA : Own wr X 70 [.int .i64 (hi za), .int .u64 (lo za)]
  hX : w.heap.size + 1 < X
  hb : Below w.heap.size w wr
section
variable {w wr w' : World} {X : Nat} {zw za : Int}
theorem TS.grow (h : TS w wr X zw za) (hb : Below wr.heap.size wr w') : TS w w' X zw za := ⟨h.oR.grow hb, h.oW.grow hb, h.oA.grow hb, h.hX, below_trans h.hb hb⟩
theorem TS.setW (h : TS w wr X zw za) (z : Int) : TS w ((wr.setCell ⟨w.heap.size + 1, 0, none⟩ (.int .i64 (hi z))).setCell ⟨w.heap.size + 1, 1, none⟩ (.int .u64 (lo z))) X z za := by
  have := h.hX
  exact ⟨(h.oR.far (p := ⟨w.heap.size + 1, 0, none⟩) (show w.heap.size ≠ w.heap.size + 1 by omega) _).far (p := ⟨w.heap.size + 1, 1, none⟩) (show w.heap.size ≠ w.heap.size + 1 by omega) _, own_set2 h.oW _ _,
    (h.oA.far (p := ⟨w.heap.size + 1, 0, none⟩) (show X ≠ w.heap.size + 1 by omega) _).far (p := ⟨w.heap.size + 1, 1, none⟩) (show X ≠ w.heap.size + 1 by omega) _, h.hX, below_set2 h.hb (by omega) _ _⟩
theorem TS.setA (h : TS w wr X zw za) (z : Int) : TS w ((wr.setCell ⟨X, 0, none⟩ (.int .i64 (hi z))).setCell ⟨X, 1, none⟩ (.int .u64 (lo z))) X zw z := by
  have := h.hX
  exact ⟨(h.oR.far (p := ⟨X, 0, none⟩) (show w.heap.size ≠ X by omega) _).far (p := ⟨X, 1, none⟩) (show w.heap.size ≠ X by omega) _,
    (h.oW.far (p := ⟨X, 0, none⟩) (show w.heap.size + 1 ≠ X by omega) _).far (p := ⟨X, 1, none⟩) (show w.heap.size + 1 ≠ X by omega) _, own_set2 h.oA _ _, h.hX, below_set2 h.hb (by omega) _ _⟩
end

set_option maxRecDepth 100000 in
set_option maxHeartbeats 4000000 in
theorem l03Times_any (a b : Int) (w : World) (ha : I64 a) (hb : I64 b) : Calls Try.prog 120 #[.int .i64 a, .int .i64 b] w (WideRes w (hi (a * b)) (lo (a * b))) := by
  have HA := Lib.hid ha
  obtain ⟨hb1, hb2⟩ := hb
  have o0 := (Own.new w 70 [.int .i64 0, .int .u64 0]).alloc (.cells #[.int .i64 0, .int .u64 0] 70)
  have o1 := new_second w (.cells #[.int .i64 0, .int .u64 0] 70) 70 [.int .i64 0, .int .u64 0]
  have hbb := below2 w (.cells #[.int .i64 0, .int .u64 0] 70) (.cells #[.int .i64 0, .int .u64 0] 70)
  go_enter Try.func120, Try.ntmps120
  go_wp2_with fail
  refine (specWideOf_any a _ HA.out).mono ?_
  rintro e w1 ⟨rfl, hb3⟩
  have hX : w.heap.size + 1 < w1.heap.size := by have := (o1.grow hb3).lt; omega
  have HT0 := Lib.hid (show TS w (w1.alloc (.cells #[.int .i64 (hi a), .int .u64 (lo a)] 70)) w1.heap.size 0 a from
    ⟨(o0.grow hb3).alloc _, (o1.grow hb3).alloc _, Own.new w1 70 [.int .i64 (hi a), .int .u64 (lo a)], hX, (below_trans hbb hb3).alloc (by omega) _⟩)
  clear o0 o1 hbb hb3 ha
  by_cases h : b < 0
  case' pos =>
    have hw1 : IntKind.u64.wrap b = b + 18446744073709551616 := by rw [wrapU]; omega
    have hw2 : IntKind.u64.wrap (-(b + 18446744073709551616)) = -b := by rw [wrapU]; omega
    have HX0 := Lib.hid (show 0 + (-a) * (-b) = a * b by rw [Int.neg_mul_neg]; omega)
    obtain ⟨x0, hx0, hx1, hx2⟩ : ∃ x0 : Int, -b = x0 ∧ 0 ≤ x0 ∧ x0 ≤ 18446744073709551615 := ⟨_, rfl, by omega, by omega⟩
    rw [hx0] at hw2 HX0
    go_upto_region 5 with (fail)
    generalize hX6 : w1.heap.size = X at *
    clear hX6
    generalize w1.alloc (.cells #[.int .i64 (hi a), .int .u64 (lo a)] 70) = w2 at *
    obtain ⟨c0, c1⟩ := HT0.out.oA.two
    go_wp2_with fail
    refine (specWideNeg_any _ _ a _ rfl rfl).mono ?_
    rintro e w3 ⟨rfl, hb3⟩
    have HT1 := Lib.hid (HT0.out.grow hb3)
    obtain ⟨c0, c1⟩ := HT1.out.oA.two
    have f0 := HT1.out.oA.free 0
    have f1 := HT1.out.oA.free 1
    have HT := Lib.hid (HT1.out.setA (-a))
    clear HT0 HT1 hb3
    generalize hza : -a = za at *
    go_wp2_with fail
    clear c0 c1 f0 f1
  case' neg =>
    have hw1 : IntKind.u64.wrap b = b := by rw [wrapU]; omega
    have HX0 := Lib.hid (show 0 + a * b = a * b by omega)
    have hx1 : 0 ≤ b := by omega
    have hx2 : b ≤ 18446744073709551615 := by omega
    go_wp2_with fail
    generalize hX6 : w1.heap.size = X at *
    clear hX6
    have HT := HT0
    clear HT0
  all_goals
    go_loopw [7] (fun s7 wr => ∃ zw za x : Int, s7 = .int .u64 x ∧ 0 ≤ x ∧ x ≤ 18446744073709551615 ∧ Hid (zw + za * x = a * b) ∧ Hid (TS w wr X zw za)) (fun s7 _ => (intOf s7).toNat)
    case atStart => exact ⟨0, _, _, rfl, hx1, hx2, HX0, HT⟩
    case round =>
      clear HT HX0
      obtain ⟨zw, za, x, rfl, hx3, hx4, HZ, HTr⟩ := hrel
      by_cases hp : 0 < x
      · obtain ⟨c0, c1⟩ := HTr.out.oW.two
        obtain ⟨d0, d1⟩ := HTr.out.oA.two
        by_cases hodd : x % 2 = 1
        · have hodd' : (x % 2 == 1) = true := by simp [hodd]
          have HN := Lib.hid ((half_step (a := za) (z := zw)).1 hodd)
          clear hodd
          go_wp2_with fail
          refine (specWideAdd_any _ _ _ _ zw za _ rfl rfl rfl rfl).mono ?_
          rintro e w4 ⟨rfl, hb4⟩
          have HT1 := Lib.hid (HTr.out.grow hb4)
          clear HTr hb4 c0 c1 d0 d1
          obtain ⟨c0, c1⟩ := HT1.out.oW.two
          have f0 := HT1.out.oW.free 0
          have f1 := HT1.out.oW.free 1
          have HT2 := Lib.hid (HT1.out.setW (zw + za))
          clear HT1
          go_upto_region 10 with (fail)
          clear c0 c1 f0 f1
          generalize (w4.setCell ⟨w.heap.size + 1, 0, none⟩ (.int .i64 (hi (zw + za)))).setCell ⟨w.heap.size + 1, 1, none⟩ (.int .u64 (lo (zw + za))) = w5 at *
          obtain ⟨d0, d1⟩ := HT2.out.oA.two
          go_wp2_with fail
          refine (specWideAdd_any _ _ _ _ za za _ rfl rfl rfl rfl).mono ?_
          rintro e w6 ⟨rfl, hb6⟩
          have HT3 := Lib.hid (HT2.out.grow hb6)
          clear HT2 hb6 d0 d1
          obtain ⟨c0, c1⟩ := HT3.out.oA.two
          have f0 := HT3.out.oA.free 0
          have f1 := HT3.out.oA.free 1
          have HT4 := Lib.hid (HT3.out.setA (za + za))
          clear HT3
          go_wp2_with fail
          go_roundw
          case rel => exact ⟨zw + za, za + za, x / 2, rfl, by omega, by omega, Lib.hid (by rw [← HZ.out, HN.out]), HT4⟩
          case measure => simp [intOf]; omega
        · have hodd' : (x % 2 == 1) = false := by simp [hodd]
          have HN := Lib.hid ((half_step (a := za) (z := zw)).2 hodd)
          clear hodd
          go_wp2_with fail
          refine (specWideAdd_any _ _ _ _ za za _ rfl rfl rfl rfl).mono ?_
          rintro e w6 ⟨rfl, hb6⟩
          have HT3 := Lib.hid (HTr.out.grow hb6)
          clear HTr hb6 c0 c1 d0 d1
          obtain ⟨c0, c1⟩ := HT3.out.oA.two
          have f0 := HT3.out.oA.free 0
          have f1 := HT3.out.oA.free 1
          have HT4 := Lib.hid (HT3.out.setA (za + za))
          clear HT3
          go_wp2_with fail
          go_roundw
          case rel => exact ⟨zw, za + za, x / 2, rfl, by omega, by omega, Lib.hid (by rw [← HZ.out, HN.out]), HT4⟩
          case measure => simp [intOf]; omega
      · have hx0 : x = 0 := by omega
        subst hx0
        have hz : zw = a * b := by have := HZ.out; rw [Int.mul_zero] at this; omega
        subst hz
        obtain ⟨c0, c1⟩ := HTr.out.oW.two
        obtain ⟨r0, r1⟩ := HTr.out.oR.two
        have f0 := HTr.out.oR.free 0
        have f1 := HTr.out.oR.free 1
        go_wp2
        exact bodyPost_ret (v := .agg #[.int .i64 (hi (a * b)), .int .u64 (lo (a * b))]) (by simp [results, Try.results120, go_sem, r0, r1]) rfl ⟨rfl, below_set2 HTr.out.hb (Nat.le_refl _) _ _⟩

set_option maxHeartbeats 1000000 in
theorem l07Times_any (a b : Int) (w : World) (ha : I64 a) (hb : I64 b) : Calls Try.prog 105 #[.int .i64 a, .int .i64 b] w (WideRes w (hi (a * b)) (lo (a * b))) := by
  have o0 := Own.new w 70 [.int .i64 0, .int .u64 0]
  have HC := Lib.hid (fun W => l03Times_any a b W ha hb)
  generalize a * b = p at *
  go_enter Try.func105, Try.ntmps105
  go_wp2_with fail
  refine (HC.out _).mono ?_
  rintro e w1 ⟨rfl, hb1⟩
  have o1 := o0.grow hb1
  have hb2 := below_trans (below_alloc w _) hb1
  clear o0 hb1
  obtain ⟨r0, r1⟩ := o1.two
  have f0 := o1.free 0
  have f1 := o1.free 1
  go_wp2
  exact bodyPost_ret (v := .agg #[.int .i64 (hi p), .int .u64 (lo p)]) (by simp [results, Try.results105, go_sem, r0, r1]) rfl ⟨rfl, below_set2 hb2 (Nat.le_refl _) _ _⟩

theorem l07Same_n (A B : Option Addr) (n ca cb : Nat) (xs ys : List Int) (w : World) (hA : Rd w A (iz xs)) (hB : Rd w B (iz ys)) (hx : xs.length = n) (hy : ys.length = n) (hn : n ≤ 1048576) :
    Calls Try.prog 101 #[.slice A n ca, .slice B n cb] w fun e w' => e = .returned (.bool (decide (xs = ys))) ∧ Below w.heap.size w w' := by
  have h := l07Same_any A B ca cb xs ys w hA hB (by omega) (by omega)
  rwa [hx, hy] at h

set_option maxRecDepth 100000 in
set_option maxHeartbeats 4000000 in
theorem specAggOk_any (N z mn mx h lw : Int) (A : Option Addr) (n ca : Nat) (top : List Int) (w : World) (hA : Rd w A (iz top)) (hz : top.length = n) (hn : n ≤ 1048576) (hf : SFit A n ca)
    (h64 : ∀ x ∈ top, I64 x) (hm : I64 mn) (hw : Wr z) (eh : h = hi z) (el : lw = lo z) :
    Calls Try.prog 78 #[agv N h lw mn mx (.slice A n ca)] w fun e w' => e = .returned (.bool (tf (aggOk N z mn mx top))) ∧ Below w.heap.size w w' := by
  have hb := below_alloc w (.cells (agc N h lw mn mx (.slice A n ca)).toArray 72)
  by_cases hN0 : N = 0
  · subst hN0
    have hzw := zero_words hw eh el
    have HZ := Lib.hid (show aggOk 0 z mn mx top ↔ (h = 0 ∧ lw = 0) ∧ mn = 0 ∧ mx = 0 ∧ n = 0 by rw [aggOk_zero, hzw, ← hz, List.length_eq_zero_iff])
    clear hA hz h64 hm hw eh el hzw hf
    by_cases hl : n = 0
    · subst hl
      have hl1 : (((0 : Nat) : Int) != 0) = false := by simp
      by_cases e1 : h = 0
      · by_cases e2 : lw = 0
        · by_cases e3 : mn = 0
          · have HY := Lib.hid (show mx = 0 → aggOk 0 z mn mx top from fun q => HZ.out.2 ⟨⟨e1, e2⟩, e3, q, rfl⟩)
            subst e1 e2 e3
            go_enter Try.func78, Try.ntmps78
            go_wp2
            go_ret
            refine ⟨ret_bool ?_, hb⟩
            by_cases hmx : mx = 0
            · rw [← tf_yes (HY.out hmx)]; simp [hmx]
            · rw [← tf_no (fun q => hmx (HZ.out.1 q).2.2.1)]; simp [hmx]
          · have HN := Lib.hid (tf_no (show ¬ aggOk 0 z mn mx top from fun q => e3 (HZ.out.1 q).2.1))
            have e3' : (mn == 0) = false := by simp [e3]
            subst e1 e2
            go_enter Try.func78, Try.ntmps78
            go_wp2
            go_ret
            exact ⟨ret_bool HN.out, hb⟩
        · have HN := Lib.hid (tf_no (show ¬ aggOk 0 z mn mx top from fun q => e2 (HZ.out.1 q).1.2))
          subst e1
          go_enter Try.func78, Try.ntmps78
          go_wp2
          go_ret
          exact ⟨ret_bool HN.out, hb⟩
      · have HN := Lib.hid (tf_no (show ¬ aggOk 0 z mn mx top from fun q => e1 (HZ.out.1 q).1.1))
        go_enter Try.func78, Try.ntmps78
        go_wp2
        go_ret
        exact ⟨ret_bool HN.out, hb⟩
    · have hl1 : ((n : Int) != 0) = true := by simp [hl]
      have HN := Lib.hid (tf_no (show ¬ aggOk 0 z mn mx top from fun q => hl (HZ.out.1 q).2.2.2))
      go_enter Try.func78, Try.ntmps78
      go_wp2
      go_ret
      exact ⟨ret_bool HN.out, hb⟩
  · have hN0' : (N == 0) = false := by simp [hN0]
    have HS := Lib.hid (aggOk_some (z := z) (mn := mn) (mx := mx) (top := top) hN0)
    by_cases hp : N < 0
    · have hp1 : decide (N < 0) = true := by simp [hp]
      have HN := Lib.hid (tf_no (show ¬ aggOk N z mn mx top from fun q => by have := (HS.out.1 q).1; omega))
      clear hA hz h64 hm hw eh el
      go_enter Try.func78, Try.ntmps78
      go_wp2
      go_ret
      exact ⟨ret_bool HN.out, hb⟩
    · have hp1 : decide (N < 0) = false := by simp; omega
      by_cases hM : 1000000 < N
      · have hM1 : decide (1000000 < N) = true := by simp [hM]
        have HN := Lib.hid (tf_no (show ¬ aggOk N z mn mx top from fun q => by have := (HS.out.1 q).2.1; omega))
        clear hA hz h64 hm hw eh el
        go_enter Try.func78, Try.ntmps78
        go_wp2
        go_ret
        exact ⟨ret_bool HN.out, hb⟩
      · have hM1 : decide (1000000 < N) = false := by simp; omega
        obtain ⟨M4, hM4, hM5⟩ : ∃ M4 : Int, (if 4 < N then 4 else N) = M4 ∧ 1 ≤ M4 ∧ M4 ≤ 4 ∧ M4 ≤ N := ⟨_, rfl, by split <;> omega⟩
        by_cases hl : (n : Int) = M4
        · have hl1 : ((n : Int) != M4) = false := by simp [hl]
          have hn1 : 1 ≤ n ∧ n ≤ 4 ∧ (n : Int) ≤ N := by omega
          obtain ⟨k, rfl⟩ : ∃ k, n = k + 1 := ⟨n - 1, by omega⟩
          obtain ⟨ad, rfl, hc0⟩ := rd_int hA (by omega)
          obtain ⟨b, off, rfl⟩ := plain_of (hc0 w (Below.refl _ _) 0 (by omega))
          simp only [plain_add'] at hc0
          have HO := Lib.hid (Own.new w 72 (agc N h lw mn mx (.slice (some ⟨b, off, none⟩) (k + 1) ca)))
          have HC := Lib.hid (fun W (h : Below w.heap.size w W) (i : Nat) (hi : i < k + 1) => hc0 W h i (by omega))
          have HT := Lib.hid (fun W (hb : Below w.heap.size w W) => specTopOf_any (some ⟨b, off, none⟩) (k + 1) ca top none 0 0 [] W (hA.below hb) hz hn hf (fun j u hu => by simp [iz] at hu) rfl (by omega) ⟨by omega, fun _ => rfl⟩)
          have HA := Lib.hid (fun W (hb : Below w.heap.size w W) => hA.below hb)
          have HZ := Lib.hid hz
          have hlast : iat top k = lastOf top := by unfold lastOf; rw [hz]; rfl
          have HEND := Lib.hid (show aggOk N z mn mx top ↔ mx = iat top 0 ∧ topOf top = top ∧ restOk N z mn top from HS.out.trans ⟨fun q => ⟨q.2.2.2.1, (topOf_iff (by omega)).2 q.2.2.2.2.1, q.2.2.2.2.2⟩, fun q => ⟨by omega, by omega, by rw [hz, hM4]; exact hl, q.1, (topOf_iff (by omega)).1 q.2.1, q.2.2⟩⟩)
          have hle : restOk N z mn top → mn ≤ lastOf top := fun q => by
            unfold restOk at q
            split at q
            · omega
            · exact q.1
          have HLE := Lib.hid hle
          have htl : (topOf top).length = k + 1 := by rw [topOf_length]; omega
          have HTL := Lib.hid htl
          have HT := Lib.hid (fun W hb => (HT.out W hb).mono fun _ _ h => ints_at (m := k + 1) h (by rw [List.append_nil]; exact htl))
          simp only [List.append_nil] at HT
          have H64 := Lib.hid h64
          have HE := Lib.hid (And.intro eh el)
          have HMW := Lib.hid (And.intro hm hw)
          have hk3 : k ≤ 3 := by omega
          have hkN : (k : Int) + 1 ≤ N := by omega
          have hk20 : k + 1 ≤ 1048576 := hn
          clear hA hz h64 hm hw eh el hl HS hc0 hM5 hf hle hn1 hn htl
          generalize topOf top = tp at *
          go_enter Try.func78, Try.ntmps78
          go_upto_region 5 with (fail)
          have hbb := hb
          generalize w.alloc (.cells (agc N h lw mn mx (.slice (some ⟨b, off, none⟩) (k + 1) ca)).toArray 72) = v at *
          have K3 := Lib.hid (fun W (h : Below v.heap.size v W) => (HO.out.grow h).six)
          refine wp_region_held_drew (S := fun W => Below v.heap.size v W) (by kernel_rfl) (Below.refl _ _).drew (fun hHeld => ?_)
          refine wpAnyH_take (i := 0) (v := ?v0) rfl (by kernel_rfl) (by kernel_rfl) (by kernel_rfl) (fun _ _ _ h => h) (Or.inl ⟨by rfl, ?y0⟩) (by with_reducible assumption) ?_
          case y0 =>
            intro w0 hSw
            (try dsimp only at hSw)
            go_simp
            (try with_reducible rfl)
          simp only [Act.put, List.setIfInBounds_toArray]
          refine wpAnyH_take (i := 1) (v := ?v1) rfl (by kernel_rfl) (by kernel_rfl) (by kernel_rfl) (fun _ _ _ h => h) (Or.inl ⟨by rfl, ?y1⟩) (by with_reducible assumption) ?_
          case y1 =>
            intro w0 hSw
            (try dsimp only at hSw)
            have e5 := (K3.out _ hSw).2.2.2.2.2
            go_simp
            (try with_reducible rfl)
          simp only [Act.put]
          refine wpAnyH_take (i := 3) (v := ?v3) rfl (by kernel_rfl) (by kernel_rfl) (by kernel_rfl) (fun _ _ _ h => h) (Or.inl ⟨by rfl, ?y3⟩) (by with_reducible assumption) ?_
          case y3 =>
            intro w0 hSw
            (try dsimp only at hSw)
            go_simp
            (try with_reducible rfl)
          simp only [Act.put]
          refine wpAnyH_take (i := 4) (v := ?v4) rfl (by kernel_rfl) (by kernel_rfl) (by kernel_rfl) (fun _ _ _ h => h) (Or.inl ⟨by rfl, ?y4⟩) (by with_reducible assumption) ?_
          case y4 =>
            intro w0 hSw
            (try dsimp only at hSw)
            have e5 := (K3.out _ hSw).2.2.2.2.2
            go_simp
            (try with_reducible rfl)
          simp only [Act.put]
          refine wpAnyH_ready (rs := [2]) (by kernel_rfl) (by simp) (AllReadyH.cons rfl (fun K hK => ?_) AllReadyH.nil)
          go_simp
          go_at_call 102
          refine (HT.out _ (below_trans hbb hHeld)).mono ?_
          rintro e w1 ⟨A1, c1, rfl, r1, hb1⟩
          refine hK.out _ _ (show Below v.heap.size v w1 from below_trans hHeld hb1) (fun hHeld1 => ?_)
          clear hK K hHeld hb1
          (try simp only [Act.put, List.setIfInBounds_toArray, List.set_cons_zero, List.set_cons_succ])
          refine wpAnyH_ready (rs := [5]) (by kernel_rfl) (by simp) (AllReadyH.cons rfl (fun K hK => ?_) AllReadyH.nil)
          go_simp
          go_at_call 101
          refine (l07Same_n A1 _ (k + 1) c1 ca tp top _ (RowAt.reads r1) (HA.out _ (below_trans hbb hHeld1)) HTL.out HZ.out hk20).mono ?_
          rintro e w2 ⟨rfl, hb2⟩
          refine hK.out _ _ (show Below v.heap.size v w2 from below_trans hHeld1 hb2) (fun hHeld2 => ?_)
          have HS2 := Lib.hid (show ∀ W, (∃ u : Bel w2, W = u.w) → Below v.heap.size v W from fun W ⟨u, e⟩ => by subst e; exact below_trans hHeld2 u.ok)
          clear hK K r1 hHeld1 hb2
          (try simp only [Act.put, List.setIfInBounds_toArray, List.set_cons_zero, List.set_cons_succ])
          have q3 : ∀ u : Bel w2, u.w.cell? ⟨w.heap.size, 3, none⟩ = some (.int .i64 mn) := fun u => (K3.out _ (HS2.out _ ⟨u, rfl⟩)).2.2.2.1
          have q4 : ∀ u : Bel w2, u.w.cell? ⟨w.heap.size, 4, none⟩ = some (.int .i64 mx) := fun u => (K3.out _ (HS2.out _ ⟨u, rfl⟩)).2.2.2.2.1
          have q5 : ∀ u : Bel w2, u.w.cell? ⟨w.heap.size, 5, none⟩ = some (.slice (some ⟨b, off, none⟩) (k + 1) ca) := fun u => (K3.out _ (HS2.out _ ⟨u, rfl⟩)).2.2.2.2.2
          have p0 : ∀ u : Bel w2, u.w.cell? ⟨b, off, none⟩ = some (.int .i64 (iat top 0)) := fun u => HC.out _ (below_trans hbb (HS2.out _ ⟨u, rfl⟩)) 0 (by omega)
          have pk : ∀ u : Bel w2, u.w.cell? ⟨b, off + k, none⟩ = some (.int .i64 (lastOf top)) := fun u => by rw [← hlast]; exact HC.out _ (below_trans hbb (HS2.out _ ⟨u, rfl⟩)) k (by omega)
          refine wpAnyH_rest 6 (by kernel_rfl) (by kernel_rfl) (by kernel_rfl) ⟨⟨w2, Below.refl _ _⟩, rfl⟩ HS2.out ?_
          simp only [List.drop_succ_cons, List.drop_zero]
          by_cases hdesc : tp = top
          · have hds : decide (tp = top) = true := by simp [hdesc]
            rw [hds]
            have HDE := Lib.hid hdesc
            clear hdesc hds
            by_cases hmx : iat top 0 = mx
            · have hmx' : (iat top 0 != mx) = false := by simp [hmx]
              have HMX := Lib.hid hmx.symm
              clear hmx
              by_cases hml : lastOf top < mn
              · have hml' : decide (mn > lastOf top) = true := by simp; omega
                have hml2 : decide (lastOf top < mn) = true := by simp; omega
                have HN := Lib.hid (tf_no (show ¬ aggOk N z mn mx top from fun q => by have := HLE.out (HEND.out.1 q).2.2; omega))
                clear hml
                repeat (go_big_quiet_step (fail))
                refine wpQuiet_nil ?_
                rintro _ ⟨u, rfl⟩
                clear q3 q4 q5 p0 pk
                go_wp2
                go_ret
                exact ⟨ret_bool HN.out, below_trans hbb (HS2.out _ ⟨u, rfl⟩)⟩
              · have hml' : decide (mn > lastOf top) = false := by simp; omega
                have hml2 : decide (lastOf top < mn) = false := by simp; omega
                have HML := Lib.hid hml
                clear hml
                repeat (go_big_quiet_step (fail))
                refine wpQuiet_nil ?_
                rintro _ ⟨u, rfl⟩
                clear q3 q4 q5 p0 pk
                have hbW := HS2.out _ ⟨u, rfl⟩
                generalize u.w = w3 at *
                clear u hHeld2 HS2 hml' hml2 hmx'
                have HST := Lib.hid (show Own (w3.alloc (.cells #[.int .i64 0, .int .u64 0] 70)) w.heap.size 72 (agc N h lw mn mx (.slice (some ⟨b, off, none⟩) (k + 1) ca)) ∧ Own (w3.alloc (.cells #[.int .i64 0, .int .u64 0] 70)) w3.heap.size 70 [.int .i64 (hi (sumTo top 0)), .int .u64 (lo (sumTo top 0))] ∧ Below w.heap.size w (w3.alloc (.cells #[.int .i64 0, .int .u64 0] 70)) from
                  ⟨(HO.out.grow hbW).alloc _, Own.new w3 _ [.int .i64 0, .int .u64 0], below_trans (below_trans hbb hbW) (below_alloc w3 _)⟩)
                have hB3 : w.heap.size < w3.heap.size := by have := (HO.out.grow hbW).lt; omega
                clear K3 HO hb hbb hbW HT HTL
                go_wp2_with fail
                generalize hB : w3.heap.size = B3 at *
                clear hB
                go_loopw [4] (fun s4 wr => ∃ i : Nat, i ≤ k + 1 ∧ s4 = .int .i64 i ∧ Hid (Own wr w.heap.size 72 (agc N h lw mn mx (.slice (some ⟨b, off, none⟩) (k + 1) ca)) ∧ Own wr B3 70 [.int .i64 (hi (sumTo top i)), .int .u64 (lo (sumTo top i))] ∧ Below w.heap.size w wr)) (fun s4 _ => k + 1 - (intOf s4).toNat)
                case atStart => exact ⟨0, by omega, rfl, HST⟩
                case round =>
                  obtain ⟨i, hi1, rfl, HSR⟩ := hrel
                  clear HST
                  by_cases hlt : i < k + 1
                  · have hlt' : (i : Int) < (k : Int) + 1 := by omega
                    have HV := Lib.hid (H64.out _ (iat_mem (show i < top.length by rw [HZ.out]; exact hlt)))
                    have HS := Lib.hid (sumTo_succ (ts := top) (k := i) (by rw [HZ.out]; exact hlt))
                    have kc : ∀ u : Bel wr, u.w.cell? ⟨b, off + i, none⟩ = some (.int .i64 (iat top i)) := fun u => HC.out _ (below_trans HSR.out.2.2 u.ok) i hlt
                    have k5 : ∀ u : Bel wr, u.w.cell? ⟨w.heap.size, 5, none⟩ = some (.slice (some ⟨b, off, none⟩) (k + 1) ca) := fun u => (HSR.out.1.grow u.ok).six.2.2.2.2.2
                    have k0 : ∀ u : Bel wr, u.w.cell? ⟨B3, 0, none⟩ = some (.int .i64 (hi (sumTo top i))) := fun u => (HSR.out.2.1.grow u.ok).two.1
                    have k1 : ∀ u : Bel wr, u.w.cell? ⟨B3, 1, none⟩ = some (.int .u64 (lo (sumTo top i))) := fun u => (HSR.out.2.1.grow u.ok).two.2
                    have a5 := HSR.out.1.six.2.2.2.2.2
                    generalize sumTo top i = zi at *
                    generalize iat top i = vi at *
                    go_upto_region 11 with (fail)
                    clear a5
                    refine wp_region_belt 8 (by kernel_rfl) (by kernel_rfl) ?_
                    simp only [List.take_succ_cons, List.take_zero, List.drop_succ_cons, List.drop_zero]
                    repeat (go_big_quiet_step (first | (go_at_call 104; exact bel_of _ (specWideOf_any vi _ HV.out)) | (go_at_call 103; exact bel_of _ (specWideAdd_any _ _ _ _ zi vi _ rfl rfl rfl rfl))))
                    refine wpQuiet_nil ?_
                    rintro _ ⟨u, rfl⟩
                    clear k0 k1 k5 kc
                    have oA := HSR.out.1.grow u.ok
                    have oS := HSR.out.2.1.grow u.ok
                    have hb4 := below_trans HSR.out.2.2 u.ok
                    clear HSR
                    generalize u.w = w4 at *
                    obtain ⟨d0, d1⟩ := oS.two
                    have f0 := oS.free 0
                    have f1 := oS.free 1
                    have HN := Lib.hid (show Own ((w4.setCell ⟨B3, 0, none⟩ (.int .i64 (hi (zi + vi)))).setCell ⟨B3, 1, none⟩ (.int .u64 (lo (zi + vi)))) w.heap.size 72 (agc N h lw mn mx (.slice (some ⟨b, off, none⟩) (k + 1) ca)) ∧ Own ((w4.setCell ⟨B3, 0, none⟩ (.int .i64 (hi (zi + vi)))).setCell ⟨B3, 1, none⟩ (.int .u64 (lo (zi + vi)))) B3 70 [.int .i64 (hi (zi + vi)), .int .u64 (lo (zi + vi))] ∧ Below w.heap.size w ((w4.setCell ⟨B3, 0, none⟩ (.int .i64 (hi (zi + vi)))).setCell ⟨B3, 1, none⟩ (.int .u64 (lo (zi + vi)))) from
                      ⟨(oA.far (p := ⟨B3, 0, none⟩) (show w.heap.size ≠ B3 by omega) _).far (p := ⟨B3, 1, none⟩) (show w.heap.size ≠ B3 by omega) _, own_set2 oS _ _, below_set2 hb4 (Nat.le_of_lt hB3) _ _⟩)
                    clear oA oS hb4
                    go_wp2_with fail
                    go_roundw
                    case rel => exact ⟨i + 1, by omega, by go_num, by rw [HS.out]; exact HN⟩
                    case measure => simp [intOf]; omega
                  · have hik : i = k + 1 := by omega
                    subst hik
                    have hsum : sumTo top (k + 1) = top.sum := by unfold sumTo; rw [List.take_of_length_le (by rw [HZ.out]; omega)]
                    rw [hsum] at HSR
                    obtain ⟨a0, a1, a2, a3, a4, a5⟩ := HSR.out.1.six
                    have hrest : N - ((k : Int) + 1) = 0 ∨ 1 ≤ N - ((k : Int) + 1) := by omega
                    have HZW := Lib.hid hsum
                    clear hsum hlt
                    go_upto_region 13 with (fail)
                    clear a0 a1 a2 a3 a4 a5
                    rcases hrest with hr0 | hr1
                    · have hr0' : (N - ((k : Int) + 1) == 0) = true := by simp [hr0]
                      have HR := Lib.hid (HEND.out.trans (show _ ↔ mn = lastOf top ∧ z = top.sum from ⟨fun q => by have := q.2.2; unfold restOk at this; rwa [if_pos (by rw [HZ.out]; omega)] at this, fun q => ⟨HMX.out, HDE.out, by unfold restOk; rwa [if_pos (by rw [HZ.out]; omega)]⟩⟩))
                      have HWS := Lib.hid (wr_ends (a := mn) (f := 0) H64.out (by rw [HZ.out]; omega) rfl HMW.out.1 HMW.out.1 (by omega) (by omega)).2.2.2
                      have HPK := Lib.hid (fun W (hb : Below w.heap.size w W) => HC.out W hb k (by omega))
                      rw [hlast] at HPK
                      go_upto_region 14 with (fail)
                      have k1 : ∀ u : Bel wr, u.w.cell? ⟨w.heap.size, 1, none⟩ = some (.int .i64 h) := fun u => (HSR.out.1.grow u.ok).six.2.1
                      have k2 : ∀ u : Bel wr, u.w.cell? ⟨w.heap.size, 2, none⟩ = some (.int .u64 lw) := fun u => (HSR.out.1.grow u.ok).six.2.2.1
                      have k3 : ∀ u : Bel wr, u.w.cell? ⟨w.heap.size, 3, none⟩ = some (.int .i64 mn) := fun u => (HSR.out.1.grow u.ok).six.2.2.2.1
                      have k5 : ∀ u : Bel wr, u.w.cell? ⟨w.heap.size, 5, none⟩ = some (.slice (some ⟨b, off, none⟩) (k + 1) ca) := fun u => (HSR.out.1.grow u.ok).six.2.2.2.2.2
                      have s0 : ∀ u : Bel wr, u.w.cell? ⟨B3, 0, none⟩ = some (.int .i64 (hi top.sum)) := fun u => (HSR.out.2.1.grow u.ok).two.1
                      have s1 : ∀ u : Bel wr, u.w.cell? ⟨B3, 1, none⟩ = some (.int .u64 (lo top.sum)) := fun u => (HSR.out.2.1.grow u.ok).two.2
                      have pk : ∀ u : Bel wr, u.w.cell? ⟨b, off + k, none⟩ = some (.int .i64 (lastOf top)) := fun u => HPK.out _ (below_trans HSR.out.2.2 u.ok)
                      have HBE := Lib.hid HSR.out.2.2
                      have HEQ := Lib.hid (show z = top.sum ↔ h = hi top.sum ∧ lw = lo top.sum by rw [HE.out.1, HE.out.2]; exact eq_words HMW.out.2 HWS.out)
                      clear HSR HC HT HA HLE HE HEND HZW
                      generalize top.sum = S at *
                      generalize lastOf top = last at *
                      by_cases hml : mn = last
                      · have hml' : (mn == last) = true := by simp [hml]
                        have HML := Lib.hid hml
                        clear hml
                        generalize hi S = hs at *
                        generalize lo S = ls at *
                        by_cases e1 : h = hs
                        · have e1' : (h == hs) = true := by simp [e1]
                          by_cases e2 : lw = ls
                          · have e2' : (lw == ls) = true := by simp [e2]
                            have HN := Lib.hid (tf_yes (HR.out.2 ⟨HML.out, HEQ.out.2 ⟨e1, e2⟩⟩))
                            clear e1 e2
                            refine wp_region_bel (by kernel_rfl) (by kernel_rfl) ?_
                            repeat (go_big_quiet_step (fail))
                            refine wpQuiet_nil ?_
                            rintro _ ⟨u, rfl⟩
                            clear k1 k2 k3 k5 s0 s1 pk
                            go_wp2
                            go_ret
                            exact ⟨ret_bool HN.out, below_trans HBE.out u.ok⟩
                          · have e2' : (lw == ls) = false := by simp [e2]
                            have HN := Lib.hid (tf_no (show ¬ aggOk N z mn mx top from fun q => e2 (HEQ.out.1 (HR.out.1 q).2).2))
                            clear e1 e2
                            refine wp_region_bel (by kernel_rfl) (by kernel_rfl) ?_
                            repeat (go_big_quiet_step (fail))
                            refine wpQuiet_nil ?_
                            rintro _ ⟨u, rfl⟩
                            clear k1 k2 k3 k5 s0 s1 pk
                            go_wp2
                            go_ret
                            exact ⟨ret_bool HN.out, below_trans HBE.out u.ok⟩
                        · have e1' : (h == hs) = false := by simp [e1]
                          have HN := Lib.hid (tf_no (show ¬ aggOk N z mn mx top from fun q => e1 (HEQ.out.1 (HR.out.1 q).2).1))
                          clear e1
                          refine wp_region_bel (by kernel_rfl) (by kernel_rfl) ?_
                          repeat (go_big_quiet_step (fail))
                          refine wpQuiet_nil ?_
                          rintro _ ⟨u, rfl⟩
                          clear k1 k2 k3 k5 s0 s1 pk
                          go_wp2
                          go_ret
                          exact ⟨ret_bool HN.out, below_trans HBE.out u.ok⟩
                      · have hml' : (mn == last) = false := by simp [hml]
                        have HN := Lib.hid (tf_no (show ¬ aggOk N z mn mx top from fun q => hml (HR.out.1 q).1))
                        clear hml
                        refine wp_region_bel (by kernel_rfl) (by kernel_rfl) ?_
                        repeat (go_big_quiet_step (fail))
                        refine wpQuiet_nil ?_
                        rintro _ ⟨u, rfl⟩
                        clear k1 k2 k3 k5 s0 s1 pk
                        go_wp2
                        go_ret
                        exact ⟨ret_bool HN.out, below_trans HBE.out u.ok⟩
                    · have hr0' : (N - ((k : Int) + 1) == 0) = false := by rw [beq_eq_false_iff_ne]; omega
                      have hk : k = 3 := by
                        have e : ((k + 1 : Nat) : Int) = M4 := by simpa using hl1
                        split at hM4 <;> omega
                      have HR := Lib.hid (HEND.out.trans (show _ ↔ mn ≤ iat top 3 ∧ top.sum + (N - top.length) * mn ≤ z ∧ z ≤ top.sum + mn + (N - top.length - 1) * iat top 3 from ⟨fun q => (rest_model (by rw [HZ.out]; omega) (by rw [HZ.out, hk])).1 q.2.2, fun q => ⟨HMX.out, HDE.out, (rest_model (by rw [HZ.out]; omega) (by rw [HZ.out, hk])).2 q⟩⟩))
                      rw [HZ.out, show ((k + 1 : Nat) : Int) = (k : Int) + 1 from rfl] at HR
                      obtain ⟨f, hff, hf1, hf2⟩ : ∃ f : Int, N - ((k : Int) + 1) = f ∧ 1 ≤ f ∧ f ≤ 1000000 := ⟨_, rfl, hr1, by omega⟩
                      rw [hff] at HR hr0' ⊢
                      have hL64 : I64 (iat top 3) := H64.out _ (iat_mem (by rw [HZ.out]; omega))
                      have hw1 : IntKind.i64.wrap f = f := by rw [IntKind.wrap_i64]; omega
                      have hw2 : IntKind.i64.wrap (f - 1) = f - 1 := by rw [IntKind.wrap_i64]; omega
                      have HWR := Lib.hid (And.intro (show _ ≤ f * mn ∧ f * mn ≤ _ by rw [Int.mul_comm]; exact mul_bound HMW.out.1 (show 0 ≤ f by omega) hf2) (And.intro (show _ ≤ (f - 1) * iat top 3 ∧ (f - 1) * iat top 3 ≤ _ by rw [Int.mul_comm]; exact mul_bound hL64 (show 0 ≤ f - 1 by omega) (by omega)) (And.intro (sum_bound H64.out) HMW.out.1)))
                      rw [HZ.out, hk] at HWR
                      have HPK := Lib.hid (fun W (hb : Below w.heap.size w W) => HC.out W hb 3 (by omega))
                      have HL := Lib.hid hL64
                      subst hk
                      go_upto_region 15 with (fail)
                      rw [← hlast] at HML
                      clear HT HA HLE HEND HZW hL64 hlast HC
                      have HO1 := Lib.hid HSR.out.1
                      have HO3 := Lib.hid HSR.out.2.1
                      have HB := Lib.hid HSR.out.2.2
                      clear HSR
                      generalize top.sum = S at *
                      generalize iat top 3 = last at *
                      have HC1 := Lib.hid (fun W => l07Times_any f mn W (by unfold I64; omega) HMW.out.1)
                      have HC2 := Lib.hid (fun W => l07Times_any (f - 1) last W (by unfold I64; omega) HL.out)
                      generalize hp1 : f * mn = P1 at *
                      generalize hp2 : (f - 1) * last = P2 at *
                      refine wp_region_box 6 6 70 [.int .i64 0, .int .u64 0] (by kernel_rfl) (by kernel_rfl) rfl rfl rfl rfl (by kernel_rfl) (fun a w => by simp [execOp, go_sem, ptr]) ?_
                      apply Exists.intro
                      refine And.intro ?walk6 ?rest6
                      case walk6 =>
                        intro w6 hb6
                        have f0 : ∀ u : Bel w6, u.w.cell? ⟨B3, 0, none⟩ = some (.int .i64 (hi S)) := fun u => ((HO3.out.grow hb6).grow u.ok).two.1
                        have f1 : ∀ u : Bel w6, u.w.cell? ⟨B3, 1, none⟩ = some (.int .u64 (lo S)) := fun u => ((HO3.out.grow hb6).grow u.ok).two.2
                        have f3 : ∀ u : Bel w6, u.w.cell? ⟨w.heap.size, 3, none⟩ = some (.int .i64 mn) := fun u => ((HO1.out.grow hb6).grow u.ok).six.2.2.2.1
                        show wpQuiet _ _ _ _ [_, _, _, _, _, _] _
                        repeat (go_big_quiet_step (first | (go_at_call 105; exact bel_of _ (HC1.out _)) | (go_at_call 103; exact bel_of _ (specWideAdd_any _ _ _ _ S P1 _ rfl rfl rfl rfl))))
                        exact wpQuiet_nil rfl
                      case rest6 =>
                      intro X6 w6 hbb hO6 hw6
                      show wpList _ _ _ [_] _ _
                      simp only [Act.put, ptr]
                      have ff0 := hO6.free 0
                      have ff1 := hO6.free 1
                      obtain ⟨c0, c1⟩ := hO6.two
                      have HX6 := Lib.hid (own_set2 hO6 (.int .i64 (hi (S + P1))) (.int .u64 (lo (S + P1))))
                      have hT := below_set2 hw6 hbb (.int .i64 (hi (S + P1))) (.int .u64 (lo (S + P1)))
                      have HO3' := Lib.hid (HO3.out.grow hT)
                      have HO1' := Lib.hid (HO1.out.grow hT)
                      have HB' := Lib.hid (below_trans HB.out hT)
                      clear HO3 HO1 HB hT hO6 hw6 hbb
                      go_upto_region 16 with (fail)
                      clear ff0 ff1 c0 c1
                      generalize (w6.setCell ⟨X6, 0, none⟩ (.int .i64 (hi (S + P1)))).setCell ⟨X6, 1, none⟩ (.int .u64 (lo (S + P1))) = w7 at *
                      have HW := Lib.hid HMW.out.1
                      refine wp_region_box 13 7 70 [.int .i64 0, .int .u64 0] (by kernel_rfl) (by kernel_rfl) rfl rfl rfl rfl (by kernel_rfl) (fun a w => by simp [execOp, go_sem, ptr]) ?_
                      apply Exists.intro
                      refine And.intro ?walk7 ?rest7
                      case walk7 =>
                        intro w6 hb6
                        have f0 : ∀ u : Bel w6, u.w.cell? ⟨B3, 0, none⟩ = some (.int .i64 (hi S)) := fun u => ((HO3'.out.grow hb6).grow u.ok).two.1
                        have f1 : ∀ u : Bel w6, u.w.cell? ⟨B3, 1, none⟩ = some (.int .u64 (lo S)) := fun u => ((HO3'.out.grow hb6).grow u.ok).two.2
                        have f3 : ∀ u : Bel w6, u.w.cell? ⟨w.heap.size, 3, none⟩ = some (.int .i64 mn) := fun u => ((HO1'.out.grow hb6).grow u.ok).six.2.2.2.1
                        have f5 : ∀ u : Bel w6, u.w.cell? ⟨w.heap.size, 5, none⟩ = some (.slice (some ⟨b, off, none⟩) (3 + 1) ca) := fun u => ((HO1'.out.grow hb6).grow u.ok).six.2.2.2.2.2
                        have fk : ∀ u : Bel w6, u.w.cell? ⟨b, off + 3, none⟩ = some (.int .i64 last) := fun u => HPK.out _ (below_trans HB'.out (below_trans hb6 u.ok))
                        show wpQuiet _ _ _ _ [_, _, _, _, _, _, _, _, _, _, _, _, _] _
                        repeat (go_big_quiet_step (first | (go_at_call 104; exact bel_of _ (specWideOf_any mn _ HW.out)) | (go_at_call 105; exact bel_of _ (HC2.out _)) | (go_at_call 103; exact bel_of _ (specWideAdd_any _ _ _ _ S mn _ rfl rfl rfl rfl)) | (go_at_call 103; exact bel_of _ (specWideAdd_any _ _ _ _ (S + mn) P2 _ rfl rfl rfl rfl))))
                        exact wpQuiet_nil rfl
                      case rest7 =>
                      intro X7 w6 hbb hO6 hw6
                      show wpList _ _ _ [_] _ _
                      simp only [Act.put, ptr]
                      have ff0 := hO6.free 0
                      have ff1 := hO6.free 1
                      obtain ⟨c0, c1⟩ := hO6.two
                      have HX7 := Lib.hid (own_set2 hO6 (.int .i64 (hi (S + mn + P2))) (.int .u64 (lo (S + mn + P2))))
                      have hT := below_set2 hw6 hbb (.int .i64 (hi (S + mn + P2))) (.int .u64 (lo (S + mn + P2)))
                      have HX6' := Lib.hid (HX6.out.grow hT)
                      have HO1 := Lib.hid (HO1'.out.grow hT)
                      have HB := Lib.hid (below_trans HB'.out hT)
                      clear HO3' HO1' HB' hT hO6 hw6 hbb HX6 HC1 HC2
                      go_upto_region 17 with (fail)
                      clear ff0 ff1 c0 c1
                      generalize (w6.setCell ⟨X7, 0, none⟩ (.int .i64 (hi (S + mn + P2)))).setCell ⟨X7, 1, none⟩ (.int .u64 (lo (S + mn + P2))) = w8 at *
                      have HWA := Lib.hid (show Wr (S + P1) ∧ Wr (S + mn + P2) from by
                        obtain ⟨q1, q2, q3, q4⟩ := HWR.out
                        unfold I64 at q4
                        unfold Wr
                        omega)
                      obtain ⟨x0, x1⟩ := HX6'.out.two
                      obtain ⟨y0, y1⟩ := HX7.out.two
                      obtain ⟨a0, a1, a2, a3, a4, a5⟩ := HO1.out.six
                      have HC1 := Lib.hid (fun W => specWideCmp_any h lw (hi (S + P1)) (lo (S + P1)) z (S + P1) W HMW.out.2 HWA.out.1 HE.out.1 HE.out.2 rfl rfl)
                      have HC2 := Lib.hid (fun W => specWideCmp_any h lw (hi (S + mn + P2)) (lo (S + mn + P2)) z (S + mn + P2) W HMW.out.2 HWA.out.2 HE.out.1 HE.out.2 rfl rfl)
                      have h1 := cmp3_ge z (S + P1)
                      have h2 := cmp3_le z (S + mn + P2)
                      generalize cmp3 z (S + P1) = r1 at *
                      generalize cmp3 z (S + mn + P2) = r2 at *
                      by_cases hr1 : 0 ≤ r1
                      · have hd2 : decide (r1 ≥ 0) = true := by simp [hr1]
                        have hd3 : decide (0 ≤ r1) = true := by simp [hr1]
                        have H1 := Lib.hid (h1.1 hr1)
                        have H2 := Lib.hid h2
                        clear h1 h2 hr1
                        go_wp2_with fail
                        refine (HC1.out _).mono ?_
                        rintro e w9 ⟨rfl, hb9⟩
                        obtain ⟨y0, y1⟩ := (HX7.out.grow hb9).two
                        obtain ⟨a0, a1, a2, a3, a4, a5⟩ := (HO1.out.grow hb9).six
                        have hb10 := below_trans HB.out hb9
                        clear hb9
                        go_wp2_with fail
                        refine (HC2.out _).mono ?_
                        rintro e w10 ⟨rfl, hb11⟩
                        replace hb10 := below_trans hb10 hb11
                        go_wp2
                        go_ret
                        refine ⟨ret_bool ?_, hb10⟩
                        by_cases hr2 : r2 ≤ 0
                        · rw [← tf_yes (HR.out.2 ⟨HML.out, H1.out, H2.out.1 hr2⟩)]; simp [hr2]
                        · rw [← tf_no (fun q => hr2 (H2.out.2 (HR.out.1 q).2.2))]; simp; omega
                      · have hd2 : decide (r1 ≥ 0) = false := by simp; omega
                        have hd3 : decide (0 ≤ r1) = false := by simp; omega
                        have HN := Lib.hid (tf_no (show ¬ aggOk N z mn mx top from fun q => hr1 (h1.2 (HR.out.1 q).2.1)))
                        clear h1 h2 hr1
                        go_wp2_with fail
                        refine (HC1.out _).mono ?_
                        rintro e w9 ⟨rfl, hb9⟩
                        have hb10 := below_trans HB.out hb9
                        go_wp2
                        go_ret
                        exact ⟨ret_bool HN.out, hb10⟩
            · have hmx' : (iat top 0 != mx) = true := by simp [hmx]
              have HN := Lib.hid (tf_no (show ¬ aggOk N z mn mx top from fun q => hmx (HEND.out.1 q).1.symm))
              clear hmx
              repeat (go_big_quiet_step (fail))
              refine wpQuiet_nil ?_
              rintro _ ⟨u, rfl⟩
              clear q3 q4 q5 p0 pk
              go_wp2
              go_ret
              exact ⟨ret_bool HN.out, below_trans hbb (HS2.out _ ⟨u, rfl⟩)⟩
          · have hds : decide (tp = top) = false := by simp [hdesc]
            rw [hds]
            have HN := Lib.hid (tf_no (show ¬ aggOk N z mn mx top from fun q => hdesc (HEND.out.1 q).2.1))
            clear hdesc hds
            repeat (go_big_quiet_step (fail))
            refine wpQuiet_nil ?_
            rintro _ ⟨u, rfl⟩
            clear q3 q4 q5 p0 pk
            go_wp2
            go_ret
            exact ⟨ret_bool HN.out, below_trans hbb (HS2.out _ ⟨u, rfl⟩)⟩
        · have hl1 : ((n : Int) != M4) = true := by simp [hl]
          have HN := Lib.hid (tf_no (show ¬ aggOk N z mn mx top from fun q => hl (by have := (HS.out.1 q).2.2.1; rwa [hz, hM4] at this)))
          clear hA hz h64 hm hw eh el
          go_enter Try.func78, Try.ntmps78
          go_wp2
          go_ret
          exact ⟨ret_bool HN.out, hb⟩
end Go.Proofs.Ytlmlckgnmkjkdaa

/-
  AggDone of the model: what it returns.
-/
namespace Go.Proofs.Ytlmlckgnmkjkdaa
open Go.RowKit

set_option maxRecDepth 100000 in
set_option maxHeartbeats 4000000 in
theorem specAggDone_any (q k N z mn mx m : Int) (ok : Bool) (A : Option Addr) (n ca : Nat) (top : List Int) (L : List Int) (ln : Nat) (b : Bool) (w : World) (hA : Rd w A (iz top)) (hz : top.length = n) (hn : n ≤ 1048576) (hf : SFit A n ca)
    (h64 : ∀ x ∈ top, I64 x) (hm : I64 mn) (hw : Wr z)
    (HM : ∀ W, Calls Try.prog 108 #[.agg #[.int .i64 (hi z), .int .u64 (lo z)], .int .i64 N] W (IntRes W m ok)) (hD : DoneIs q k N z mn mx m top L b) (hL : L.length = ln) :
    Calls Try.prog 79 #[.int .i64 q, .int .i64 k, agv N (hi z) (lo z) mn mx (.slice A n ca)] w (DoneRes L ln b w) := by
  have HO := Lib.hid (fun W (hb : Below w.heap.size w W) => specAggOk_any N z mn mx _ _ A n ca top W (hA.below hb) hz hn hf h64 hm hw rfl rfl)
  have HA := Lib.hid (fun W (hb : Below w.heap.size w W) => hA.below hb)
  have o1 := Own.new w 72 (agc N (hi z) (lo z) mn mx (.slice A n ca))
  have hb := below_alloc w (.cells (agc N (hi z) (lo z) mn mx (.slice A n ca)).toArray 72)
  obtain ⟨b0, b1, b2, b3, b4, b5⟩ := o1.six
  have HW := Lib.hid hw
  have HMM := Lib.hid HM
  clear h64 hm hA hw HM
  by_cases ho : aggOk N z mn mx top
  · replace HO := Lib.hid (fun W hb => as_bool (tf_yes ho).symm (HO.out W hb))
    by_cases h0 : N = 0
    · obtain ⟨rfl, rfl⟩ := hD.no (fun h => h.2.1 h0)
      subst h0
      obtain rfl : ln = 0 := hL.symm
      clear ho hD HMM hf hL
      go_enter Try.func79, Try.ntmps79
      go_wp2_with fail
      clear b0 b1 b2 b3 b4 b5
      refine (HO.out _ hb).mono ?_
      rintro e w2 ⟨rfl, hb2⟩
      replace o1 := o1.grow hb2
      replace hb := below_trans hb hb2
      clear hb2
      obtain ⟨b0, b1, b2, b3, b4, b5⟩ := o1.six
      go_wp2
      go_ret2
      exact ⟨none, 0, rfl, row_nil, hb⟩
    · have h0' : (N == 0) = false := by simp [h0]
      by_cases hk : kindOk q k
      · have HK := Lib.hid (fun W => as_bool (tf_yes hk).symm (specAggKind_any q k W))
        have hd : doneOk q k N z mn mx top := ⟨hk, h0, ho⟩
        obtain ⟨t1, t2, t3, t4⟩ := aggOk_top0 ho h0
        have hq : q = 1 ∨ q = 2 ∨ q = 3 ∨ q = 4 ∨ q = 5 ∨ q = 6 ∧ 1 ≤ k := by unfold kindOk at hk; omega
        rcases hq with hq | hq | hq | hq | hq | ⟨hq, hk1⟩
        · subst hq
          obtain ⟨rfl, rfl⟩ := hD.one hd rfl
          obtain rfl : ln = 1 := hL.symm
          clear hd ho hD hk HMM hf h0 t1 t2 t3 t4 hL
          go_enter Try.func79, Try.ntmps79
          go_wp2_with fail
          clear b0 b1 b2 b3 b4 b5
          refine (HO.out _ hb).mono ?_
          rintro e w2 ⟨rfl, hb2⟩
          replace o1 := o1.grow hb2
          replace hb := below_trans hb hb2
          clear hb2
          obtain ⟨b0, b1, b2, b3, b4, b5⟩ := o1.six
          go_wp2_with fail
          refine (HK.out _).mono ?_
          rintro e _ ⟨rfl, rfl⟩
          go_wp2
          go_ret2
          exact ⟨_, _, rfl, row_int N hb, below_trans hb (below_alloc _ _)⟩
        · subst hq
          by_cases hi64 : I64 z
          · obtain ⟨rfl, rfl⟩ := hD.sum hd rfl hi64
            obtain rfl : ln = 1 := hL.symm
            have HS := Lib.hid (fun W => specWideInt_yes _ _ z W hi64 rfl rfl)
            clear hd ho hD hk HMM hf h0 t1 t2 t3 t4 hL
            go_enter Try.func79, Try.ntmps79
            go_wp2_with fail
            clear b0 b1 b2 b3 b4 b5
            refine (HO.out _ hb).mono ?_
            rintro e w2 ⟨rfl, hb2⟩
            replace o1 := o1.grow hb2
            replace hb := below_trans hb hb2
            clear hb2
            obtain ⟨b0, b1, b2, b3, b4, b5⟩ := o1.six
            go_wp2_with fail
            refine (HK.out _).mono ?_
            rintro e _ ⟨rfl, rfl⟩
            go_wp2_with fail
            clear b0 b1 b2 b3 b4 b5 o1
            refine (HS.out _).mono ?_
            rintro e w3 ⟨rfl, hb3⟩
            replace hb := below_trans hb hb3
            clear hb3
            go_wp2
            go_ret2
            exact ⟨_, _, rfl, row_int z hb, below_trans hb (below_alloc _ _)⟩
          · obtain ⟨rfl, rfl⟩ := hD.over hd rfl hi64
            obtain rfl : ln = 0 := hL.symm
            have HS := Lib.hid (fun W => specWideInt_no _ _ z W HW.out hi64 rfl rfl)
            clear hd ho hD hk HMM hf h0 t1 t2 t3 t4 hL
            go_enter Try.func79, Try.ntmps79
            go_wp2_with fail
            clear b0 b1 b2 b3 b4 b5
            refine (HO.out _ hb).mono ?_
            rintro e w2 ⟨rfl, hb2⟩
            replace o1 := o1.grow hb2
            replace hb := below_trans hb hb2
            clear hb2
            obtain ⟨b0, b1, b2, b3, b4, b5⟩ := o1.six
            go_wp2_with fail
            refine (HK.out _).mono ?_
            rintro e _ ⟨rfl, rfl⟩
            go_wp2_with fail
            clear b0 b1 b2 b3 b4 b5 o1
            refine (HS.out _).mono ?_
            rintro e w3 ⟨rfl, hb3⟩
            replace hb := below_trans hb hb3
            clear hb3
            go_wp2
            go_ret2
            exact ⟨_, _, rfl, row_nil, hb⟩
        · subst hq
          obtain ⟨rfl, rfl⟩ := hD.least hd rfl
          obtain rfl : ln = 1 := hL.symm
          clear hd ho hD hk HMM hf h0 t1 t2 t3 t4 hL
          go_enter Try.func79, Try.ntmps79
          go_wp2_with fail
          clear b0 b1 b2 b3 b4 b5
          refine (HO.out _ hb).mono ?_
          rintro e w2 ⟨rfl, hb2⟩
          replace o1 := o1.grow hb2
          replace hb := below_trans hb hb2
          clear hb2
          obtain ⟨b0, b1, b2, b3, b4, b5⟩ := o1.six
          go_wp2_with fail
          refine (HK.out _).mono ?_
          rintro e _ ⟨rfl, rfl⟩
          go_wp2
          go_ret2
          exact ⟨_, _, rfl, row_int mn hb, below_trans hb (below_alloc _ _)⟩
        · subst hq
          obtain ⟨rfl, rfl⟩ := hD.most hd rfl
          obtain rfl : ln = 1 := hL.symm
          clear hd ho hD hk HMM hf h0 t1 t2 t3 t4 hL
          go_enter Try.func79, Try.ntmps79
          go_wp2_with fail
          clear b0 b1 b2 b3 b4 b5
          refine (HO.out _ hb).mono ?_
          rintro e w2 ⟨rfl, hb2⟩
          replace o1 := o1.grow hb2
          replace hb := below_trans hb hb2
          clear hb2
          obtain ⟨b0, b1, b2, b3, b4, b5⟩ := o1.six
          go_wp2_with fail
          refine (HK.out _).mono ?_
          rintro e _ ⟨rfl, rfl⟩
          go_wp2
          go_ret2
          exact ⟨_, _, rfl, row_int mx hb, below_trans hb (below_alloc _ _)⟩
        · subst hq
          obtain ⟨rfl, rfl⟩ := hD.mean hd rfl
          obtain rfl : ln = 1 := hL.symm
          clear hd ho hD hk hf h0 t1 t2 t3 t4 hL
          go_enter Try.func79, Try.ntmps79
          go_wp2_with fail
          clear b0 b1 b2 b3 b4 b5
          refine (HO.out _ hb).mono ?_
          rintro e w2 ⟨rfl, hb2⟩
          replace o1 := o1.grow hb2
          replace hb := below_trans hb hb2
          clear hb2
          obtain ⟨b0, b1, b2, b3, b4, b5⟩ := o1.six
          go_wp2_with fail
          refine (HK.out _).mono ?_
          rintro e _ ⟨rfl, rfl⟩
          go_wp2_with fail
          clear b0 b1 b2 b3 b4 b5 o1
          refine (HMM.out _).mono ?_
          rintro e w3 ⟨rfl, hb3⟩
          replace hb := below_trans hb hb3
          clear hb3
          go_wp2
          go_ret2
          exact ⟨_, _, rfl, row_int m hb, below_trans hb (below_alloc _ _)⟩
        · subst hq
          obtain ⟨rfl, rfl⟩ := hD.top hd rfl
          obtain ⟨p, hp, hmin, hL1, hL2⟩ := take_pick hz hk1
          obtain rfl : ln = p := hL.symm.trans hL2
          rw [hL1]
          obtain ⟨ad, rfl⟩ := some_of hf (by omega)
          have HF := Lib.hid (fun W (hb : Below w.heap.size w W) => int_front (HA.out W hb) hz (by omega) hp hf)
          have hsl := (HF.out _ (Below.refl _ _)).1
          have HL := Lib.hid (show (iz (top.take ln)).length = ln * 1 by rw [iz_length, ← hL1, hL2, Nat.mul_one])
          have HN : Hid (0 + ln ≤ 2097152) := Lib.hid (by omega)
          clear hd ho hD hk HMM hf h0 t1 t2 t3 t4 hL hL1 hL2 hp HW
          go_enter Try.func79, Try.ntmps79
          go_wp2_with fail
          clear b0 b1 b2 b3 b4 b5
          refine (HO.out _ hb).mono ?_
          rintro e w2 ⟨rfl, hb2⟩
          replace o1 := o1.grow hb2
          replace hb := below_trans hb hb2
          clear hb2
          have HB := Lib.hid (below_trans hb (below_alloc w2 (.cells #[] 3)))
          have HE := Lib.hid (owns_empty (size := 1) (Own.new w2 3 []) (show w.heap.size ≤ w2.heap.size from hb.size))
          have b0 := (o1.alloc (.cells #[] 3)).six
          replace o1 := o1.six
          obtain ⟨b0, b1, b2, b3, b4, b5⟩ := b0
          obtain ⟨c0, c1, c2, c3, c4, c5⟩ := o1
          go_wp2_with fail
          refine (HK.out _).mono ?_
          rintro e _ ⟨rfl, rfl⟩
          go_wp2_with (at_builtin; refine appInt.rd rfl _ (.tmp 74) rfl w.heap.size (.slice (some ⟨w2.heap.size, 0, none⟩) 0 0) 0 [] rfl HE.out (some ad) ln ca (iz (top.take ln)) rfl (HF.out _ HB.out).2.1 (HF.out _ HB.out).2.2 HL.out (iz_one _) HN HB.out.size ?_; intro A' c' w3 hown hgrow hb3; rw [Nat.zero_add, List.nil_append] at hown; rw [Nat.zero_add])
          have hb4 := HB.out.trans hb3
          have r3 := RowAt.of hown
          clear b0 b1 b2 b3 b4 b5 c0 c1 c2 c3 c4 c5
          go_wp2
          go_ret2
          exact ⟨A', c', rfl, r3, hb4⟩
      · obtain ⟨rfl, rfl⟩ := hD.no (fun h => hk h.1)
        obtain rfl : ln = 0 := hL.symm
        have HK := Lib.hid (fun W => as_bool (tf_no hk).symm (specAggKind_any q k W))
        clear hk hD HMM hf hL h0 ho
        go_enter Try.func79, Try.ntmps79
        go_wp2_with fail
        clear b0 b1 b2 b3 b4 b5
        refine (HO.out _ hb).mono ?_
        rintro e w2 ⟨rfl, hb2⟩
        replace o1 := o1.grow hb2
        replace hb := below_trans hb hb2
        clear hb2
        obtain ⟨b0, b1, b2, b3, b4, b5⟩ := o1.six
        go_wp2_with fail
        refine (HK.out _).mono ?_
        rintro e _ ⟨rfl, rfl⟩
        go_wp2
        go_ret2
        exact ⟨none, 0, rfl, row_nil, hb⟩
  · obtain ⟨rfl, rfl⟩ := hD.no (fun h => ho h.2.2)
    obtain rfl : ln = 0 := hL.symm
    replace HO := Lib.hid (fun W hb => as_bool (tf_no ho).symm (HO.out W hb))
    clear hD HMM hf ho hL
    go_enter Try.func79, Try.ntmps79
    go_wp2_with fail
    clear b0 b1 b2 b3 b4 b5
    refine (HO.out _ hb).mono ?_
    rintro e w2 ⟨rfl, hb2⟩
    replace hb := below_trans hb hb2
    go_wp2
    go_ret2
    exact ⟨none, 0, rfl, row_nil, hb⟩

end Go.Proofs.Ytlmlckgnmkjkdaa
