/-
  QueryOk, the model's and the program's: what they return. WRITTEN BY tools/genquery.py.
-/
import Derived.Test.YtlmlckgnmkjkdaaKitQuery
import Derived.Test.YtlmlckgnmkjkdaaExprS
import Derived.Test.YtlmlckgnmkjkdaaExprE
import Derived.Test.YtlmlckgnmkjkdaaWinS
import Derived.Test.YtlmlckgnmkjkdaaAggKindI
namespace Go.Proofs.Ytlmlckgnmkjkdaa
open Go.RowKit

def queryOk (fs ms : List (Int × Int)) (k s t q kk : Int) : Prop := (0 ≤ depthOf fs) ∧ (0 ≤ depthOf ms) ∧ defOk k s t ∧ kindOk q kk

set_option maxHeartbeats 1000000 in
theorem queryWinOk_any (k s t : Int) (w : World) :
    Calls Try.prog 61 #[.agg #[.int .i64 k, .int .i64 s, .int .i64 t]] w fun e w' => e = .returned (.bool (tf (defOk k s t))) ∧ Below w.heap.size w w' := by
  obtain ⟨b, HB⟩ : ∃ b, Hid (tf (defOk k s t) = b) := ⟨_, Lib.hid rfl⟩
  have o1 := Own.new w 40 [.int .i64 k, .int .i64 s, .int .i64 t]
  have hb := below_alloc w (.cells #[.int .i64 k, .int .i64 s, .int .i64 t] 40)
  have c0 := o1.cell 0
  have c1 := o1.cell 1
  have c2 := o1.cell 2
  simp only [List.getElem?_cons_zero, List.getElem?_cons_succ] at c0 c1 c2
  clear o1
  have HW := Lib.hid (fun W => as_bool HB.out (implWinOk_any k s t W))
  have hr : Ending.returned (.bool (tf (defOk k s t))) = .returned (.bool b) := ret_bool HB.out
  rw [hr]
  clear hr
  by_cases h2 : k = 2
  · subst h2
    go_enter Try.func61, Try.ntmps61
    go_wp2_with fail
    refine (HW.out _).mono ?_
    rintro e w1 ⟨rfl, h1⟩
    replace hb := below_trans hb h1
    go_wp2
    go_ret
    exact ⟨rfl, hb⟩
  · have t2 : (k == 2) = false := by simpa using h2
    by_cases h13 : k = 1 ∨ k = 3
    · by_cases ht : t = 0
      · subst ht
        rcases h13 with rfl | rfl
        · clear t2 h2
          go_enter Try.func61, Try.ntmps61
          go_wp2_with fail
          refine (HW.out _).mono ?_
          rintro e w1 ⟨rfl, h1⟩
          replace hb := below_trans hb h1
          go_wp2
          go_ret
          exact ⟨rfl, hb⟩
        · clear t2 h2
          go_enter Try.func61, Try.ntmps61
          go_wp2_with fail
          refine (HW.out _).mono ?_
          rintro e w1 ⟨rfl, h1⟩
          replace hb := below_trans hb h1
          go_wp2
          go_ret
          exact ⟨rfl, hb⟩
      · have t3 : (t != 0) = true := by simpa using ht
        have HF := Lib.hid (tf_no (show ¬ defOk k s t from fun h => by unfold defOk at h; omega))
        clear ht
        rcases h13 with rfl | rfl
        · clear t2 h2
          go_enter Try.func61, Try.ntmps61
          go_wp2
          go_ret
          exact ⟨ret_bool (HF.out.trans HB.out), hb⟩
        · clear t2 h2
          go_enter Try.func61, Try.ntmps61
          go_wp2
          go_ret
          exact ⟨ret_bool (HF.out.trans HB.out), hb⟩
    · have t1 : (k == 1) = false := by simp; omega
      have t4 : (k == 3) = false := by simp; omega
      have HF := Lib.hid (tf_no (show ¬ defOk k s t from fun h => by unfold defOk at h; omega))
      clear h2 h13
      go_enter Try.func61, Try.ntmps61
      go_wp2
      go_ret
      exact ⟨ret_bool (HF.out.trans HB.out), hb⟩

set_option maxHeartbeats 4000000 in
theorem specQueryOk_any (k s t q kk : Int) (F : Option Addr) (n cf : Nat) (fs : List (Int × Int)) (M : Option Addr) (m cm : Nat) (ms : List (Int × Int)) (w : World)
    (hF : Rd w F (ez fs)) (hz : fs.length = n) (hn : n ≤ 1048576) (hM : Rd w M (ez ms)) (hy : ms.length = m) (hm : m ≤ 1048576) :
    Calls Try.prog 17 #[qv (.slice F n cf) (.slice M m cm) k s t q kk] w fun e w' => e = .returned (.bool (tf (queryOk fs ms k s t q kk))) ∧ Below w.heap.size w w' := by
  have HF := Lib.hid (fun W (h : Below w.heap.size w W) => specExprOk_any F cf fs W (hF.below h) (by rw [hz]; omega))
  have HM := Lib.hid (fun W (h : Below w.heap.size w W) => specExprOk_any M cm ms W (hM.below h) (by rw [hy]; omega))
  rw [hz] at HF
  rw [hy] at HM
  clear hF hM hz hy
  have o1 := Own.new w 42 (qc (.slice F n cf) (.slice M m cm) k s t q kk)
  have hb := below_alloc w (.cells (qc (.slice F n cf) (.slice M m cm) k s t q kk).toArray 42)
  obtain ⟨a0, a1, a2, a3, a4, a5, a6⟩ := o1.seven
  by_cases h0 : 0 ≤ depthOf fs
  · have H0 := Lib.hid (decide_eq_true h0)
    by_cases h1 : 0 ≤ depthOf ms
    · have H1 := Lib.hid (decide_eq_true h1)
      by_cases h2 : defOk k s t
      · have H2 := Lib.hid ((tf_yes h2).symm)
        by_cases h3 : kindOk q kk
        · have H3 := Lib.hid ((tf_yes h3).symm)
          have H := Lib.hid (show queryOk fs ms k s t q kk from ⟨h0, h1, h2, h3⟩)
          clear h0 h1 h2 h3
          go_enter Try.func17, Try.ntmps17
          go_wp2_with fail
          refine (as_bool (R := fun w' => _ = w') H0.out (HF.out _ hb)).mono ?_
          rintro e _ ⟨rfl, rfl⟩
          go_wp2_with fail
          refine (as_bool (R := fun w' => _ = w') H1.out (HM.out _ hb)).mono ?_
          rintro e _ ⟨rfl, rfl⟩
          go_wp2_with fail
          refine (as_bool H2.out (specWinOk_any k s t _)).mono ?_
          clear a0 a1 a2 a3 a4 a5 a6
          rintro e w3 ⟨rfl, hb1⟩
          replace o1 := o1.grow hb1
          replace hb := below_trans hb hb1
          clear hb1
          obtain ⟨a0, a1, a2, a3, a4, a5, a6⟩ := o1.seven
          go_wp2_with fail
          refine (as_bool (R := fun w' => _ = w') H3.out (specAggKind_any q kk _)).mono ?_
          rintro e _ ⟨rfl, rfl⟩
          go_wp2
          go_ret
          exact ⟨ret_bool (tf_yes H.out), hb⟩
        · have H3 := Lib.hid ((tf_no h3).symm)
          have H := Lib.hid (show ¬ queryOk fs ms k s t q kk from fun h => h3 h.2.2.2)
          clear h0 h1 h2 h3
          go_enter Try.func17, Try.ntmps17
          go_wp2_with fail
          refine (as_bool (R := fun w' => _ = w') H0.out (HF.out _ hb)).mono ?_
          rintro e _ ⟨rfl, rfl⟩
          go_wp2_with fail
          refine (as_bool (R := fun w' => _ = w') H1.out (HM.out _ hb)).mono ?_
          rintro e _ ⟨rfl, rfl⟩
          go_wp2_with fail
          refine (as_bool H2.out (specWinOk_any k s t _)).mono ?_
          clear a0 a1 a2 a3 a4 a5 a6
          rintro e w3 ⟨rfl, hb1⟩
          replace o1 := o1.grow hb1
          replace hb := below_trans hb hb1
          clear hb1
          obtain ⟨a0, a1, a2, a3, a4, a5, a6⟩ := o1.seven
          go_wp2_with fail
          refine (as_bool (R := fun w' => _ = w') H3.out (specAggKind_any q kk _)).mono ?_
          rintro e _ ⟨rfl, rfl⟩
          go_wp2
          go_ret
          exact ⟨ret_bool (tf_no H.out), hb⟩
      · have H2 := Lib.hid ((tf_no h2).symm)
        have H := Lib.hid (show ¬ queryOk fs ms k s t q kk from fun h => h2 h.2.2.1)
        clear h0 h1 h2
        go_enter Try.func17, Try.ntmps17
        go_wp2_with fail
        refine (as_bool (R := fun w' => _ = w') H0.out (HF.out _ hb)).mono ?_
        rintro e _ ⟨rfl, rfl⟩
        go_wp2_with fail
        refine (as_bool (R := fun w' => _ = w') H1.out (HM.out _ hb)).mono ?_
        rintro e _ ⟨rfl, rfl⟩
        go_wp2_with fail
        refine (as_bool H2.out (specWinOk_any k s t _)).mono ?_
        clear a0 a1 a2 a3 a4 a5 a6
        rintro e w3 ⟨rfl, hb1⟩
        replace o1 := o1.grow hb1
        replace hb := below_trans hb hb1
        clear hb1
        obtain ⟨a0, a1, a2, a3, a4, a5, a6⟩ := o1.seven
        go_wp2
        go_ret
        exact ⟨ret_bool (tf_no H.out), hb⟩
    · have H1 := Lib.hid (decide_eq_false h1)
      have H := Lib.hid (show ¬ queryOk fs ms k s t q kk from fun h => h1 h.2.1)
      clear h0 h1
      go_enter Try.func17, Try.ntmps17
      go_wp2_with fail
      refine (as_bool (R := fun w' => _ = w') H0.out (HF.out _ hb)).mono ?_
      rintro e _ ⟨rfl, rfl⟩
      go_wp2_with fail
      refine (as_bool (R := fun w' => _ = w') H1.out (HM.out _ hb)).mono ?_
      rintro e _ ⟨rfl, rfl⟩
      go_wp2
      go_ret
      exact ⟨ret_bool (tf_no H.out), hb⟩
  · have H0 := Lib.hid (decide_eq_false h0)
    have H := Lib.hid (show ¬ queryOk fs ms k s t q kk from fun h => h0 h.1)
    clear h0
    go_enter Try.func17, Try.ntmps17
    go_wp2_with fail
    refine (as_bool (R := fun w' => _ = w') H0.out (HF.out _ hb)).mono ?_
    rintro e _ ⟨rfl, rfl⟩
    go_wp2
    go_ret
    exact ⟨ret_bool (tf_no H.out), hb⟩

set_option maxHeartbeats 4000000 in
theorem implQueryOk_any (k s t q kk : Int) (F : Option Addr) (n cf : Nat) (fs : List (Int × Int)) (M : Option Addr) (m cm : Nat) (ms : List (Int × Int)) (w : World)
    (hF : Rd w F (ez fs)) (hz : fs.length = n) (hn : n ≤ 1048576) (hM : Rd w M (ez ms)) (hy : ms.length = m) (hm : m ≤ 1048576) :
    Calls Try.prog 19 #[qv (.slice F n cf) (.slice M m cm) k s t q kk] w fun e w' => e = .returned (.bool (tf (queryOk fs ms k s t q kk))) ∧ Below w.heap.size w w' := by
  have HF := Lib.hid (fun W (h : Below w.heap.size w W) => implExprOk_any F cf fs W (hF.below h) (by rw [hz]; omega))
  have HM := Lib.hid (fun W (h : Below w.heap.size w W) => implExprOk_any M cm ms W (hM.below h) (by rw [hy]; omega))
  rw [hz] at HF
  rw [hy] at HM
  clear hF hM hz hy
  have o1 := Own.new w 42 (qc (.slice F n cf) (.slice M m cm) k s t q kk)
  have hb := below_alloc w (.cells (qc (.slice F n cf) (.slice M m cm) k s t q kk).toArray 42)
  obtain ⟨a0, a1, a2, a3, a4, a5, a6⟩ := o1.seven
  by_cases h0 : 0 ≤ depthOf fs
  · have H0 := Lib.hid (decide_eq_true h0)
    by_cases h1 : 0 ≤ depthOf ms
    · have H1 := Lib.hid (decide_eq_true h1)
      by_cases h2 : defOk k s t
      · have H2 := Lib.hid ((tf_yes h2).symm)
        by_cases h3 : kindOk q kk
        · have H3 := Lib.hid ((tf_yes h3).symm)
          have H := Lib.hid (show queryOk fs ms k s t q kk from ⟨h0, h1, h2, h3⟩)
          clear h0 h1 h2 h3
          go_enter Try.func19, Try.ntmps19
          go_wp2_with fail
          refine (as_bool H0.out (HF.out _ hb)).mono ?_
          clear a0 a1 a2 a3 a4 a5 a6
          rintro e w1 ⟨rfl, hb1⟩
          replace o1 := o1.grow hb1
          replace hb := below_trans hb hb1
          clear hb1
          obtain ⟨a0, a1, a2, a3, a4, a5, a6⟩ := o1.seven
          go_wp2_with fail
          refine (as_bool H1.out (HM.out _ hb)).mono ?_
          clear a0 a1 a2 a3 a4 a5 a6
          rintro e w2 ⟨rfl, hb1⟩
          replace o1 := o1.grow hb1
          replace hb := below_trans hb hb1
          clear hb1
          obtain ⟨a0, a1, a2, a3, a4, a5, a6⟩ := o1.seven
          go_wp2_with fail
          refine (as_bool H2.out (queryWinOk_any k s t _)).mono ?_
          clear a0 a1 a2 a3 a4 a5 a6
          rintro e w3 ⟨rfl, hb1⟩
          replace o1 := o1.grow hb1
          replace hb := below_trans hb hb1
          clear hb1
          obtain ⟨a0, a1, a2, a3, a4, a5, a6⟩ := o1.seven
          go_wp2_with fail
          refine (as_bool (R := fun w' => _ = w') H3.out (implAggKind_any q kk _)).mono ?_
          rintro e _ ⟨rfl, rfl⟩
          go_wp2
          go_ret
          exact ⟨ret_bool (tf_yes H.out), hb⟩
        · have H3 := Lib.hid ((tf_no h3).symm)
          have H := Lib.hid (show ¬ queryOk fs ms k s t q kk from fun h => h3 h.2.2.2)
          clear h0 h1 h2 h3
          go_enter Try.func19, Try.ntmps19
          go_wp2_with fail
          refine (as_bool H0.out (HF.out _ hb)).mono ?_
          clear a0 a1 a2 a3 a4 a5 a6
          rintro e w1 ⟨rfl, hb1⟩
          replace o1 := o1.grow hb1
          replace hb := below_trans hb hb1
          clear hb1
          obtain ⟨a0, a1, a2, a3, a4, a5, a6⟩ := o1.seven
          go_wp2_with fail
          refine (as_bool H1.out (HM.out _ hb)).mono ?_
          clear a0 a1 a2 a3 a4 a5 a6
          rintro e w2 ⟨rfl, hb1⟩
          replace o1 := o1.grow hb1
          replace hb := below_trans hb hb1
          clear hb1
          obtain ⟨a0, a1, a2, a3, a4, a5, a6⟩ := o1.seven
          go_wp2_with fail
          refine (as_bool H2.out (queryWinOk_any k s t _)).mono ?_
          clear a0 a1 a2 a3 a4 a5 a6
          rintro e w3 ⟨rfl, hb1⟩
          replace o1 := o1.grow hb1
          replace hb := below_trans hb hb1
          clear hb1
          obtain ⟨a0, a1, a2, a3, a4, a5, a6⟩ := o1.seven
          go_wp2_with fail
          refine (as_bool (R := fun w' => _ = w') H3.out (implAggKind_any q kk _)).mono ?_
          rintro e _ ⟨rfl, rfl⟩
          go_wp2
          go_ret
          exact ⟨ret_bool (tf_no H.out), hb⟩
      · have H2 := Lib.hid ((tf_no h2).symm)
        have H := Lib.hid (show ¬ queryOk fs ms k s t q kk from fun h => h2 h.2.2.1)
        clear h0 h1 h2
        go_enter Try.func19, Try.ntmps19
        go_wp2_with fail
        refine (as_bool H0.out (HF.out _ hb)).mono ?_
        clear a0 a1 a2 a3 a4 a5 a6
        rintro e w1 ⟨rfl, hb1⟩
        replace o1 := o1.grow hb1
        replace hb := below_trans hb hb1
        clear hb1
        obtain ⟨a0, a1, a2, a3, a4, a5, a6⟩ := o1.seven
        go_wp2_with fail
        refine (as_bool H1.out (HM.out _ hb)).mono ?_
        clear a0 a1 a2 a3 a4 a5 a6
        rintro e w2 ⟨rfl, hb1⟩
        replace o1 := o1.grow hb1
        replace hb := below_trans hb hb1
        clear hb1
        obtain ⟨a0, a1, a2, a3, a4, a5, a6⟩ := o1.seven
        go_wp2_with fail
        refine (as_bool H2.out (queryWinOk_any k s t _)).mono ?_
        clear a0 a1 a2 a3 a4 a5 a6
        rintro e w3 ⟨rfl, hb1⟩
        replace o1 := o1.grow hb1
        replace hb := below_trans hb hb1
        clear hb1
        obtain ⟨a0, a1, a2, a3, a4, a5, a6⟩ := o1.seven
        go_wp2
        go_ret
        exact ⟨ret_bool (tf_no H.out), hb⟩
    · have H1 := Lib.hid (decide_eq_false h1)
      have H := Lib.hid (show ¬ queryOk fs ms k s t q kk from fun h => h1 h.2.1)
      clear h0 h1
      go_enter Try.func19, Try.ntmps19
      go_wp2_with fail
      refine (as_bool H0.out (HF.out _ hb)).mono ?_
      clear a0 a1 a2 a3 a4 a5 a6
      rintro e w1 ⟨rfl, hb1⟩
      replace o1 := o1.grow hb1
      replace hb := below_trans hb hb1
      clear hb1
      obtain ⟨a0, a1, a2, a3, a4, a5, a6⟩ := o1.seven
      go_wp2_with fail
      refine (as_bool H1.out (HM.out _ hb)).mono ?_
      clear a0 a1 a2 a3 a4 a5 a6
      rintro e w2 ⟨rfl, hb1⟩
      replace o1 := o1.grow hb1
      replace hb := below_trans hb hb1
      clear hb1
      obtain ⟨a0, a1, a2, a3, a4, a5, a6⟩ := o1.seven
      go_wp2
      go_ret
      exact ⟨ret_bool (tf_no H.out), hb⟩
  · have H0 := Lib.hid (decide_eq_false h0)
    have H := Lib.hid (show ¬ queryOk fs ms k s t q kk from fun h => h0 h.1)
    clear h0
    go_enter Try.func19, Try.ntmps19
    go_wp2_with fail
    refine (as_bool H0.out (HF.out _ hb)).mono ?_
    clear a0 a1 a2 a3 a4 a5 a6
    rintro e w1 ⟨rfl, hb1⟩
    replace o1 := o1.grow hb1
    replace hb := below_trans hb hb1
    clear hb1
    obtain ⟨a0, a1, a2, a3, a4, a5, a6⟩ := o1.seven
    go_wp2
    go_ret
    exact ⟨ret_bool (tf_no H.out), hb⟩
end Go.Proofs.Ytlmlckgnmkjkdaa
