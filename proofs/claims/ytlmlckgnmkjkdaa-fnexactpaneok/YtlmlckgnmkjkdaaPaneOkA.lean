/-
  PaneOk, the model's and the program's: what they return. WRITTEN BY tools/genpane.py.
-/
import Derived.Test.YtlmlckgnmkjkdaaElemA
import Derived.Test.YtlmlckgnmkjkdaaPaneA
import Derived.Test.YtlmlckgnmkjkdaaSessOk
import Derived.Test.YtlmlckgnmkjkdaaLatSmall
namespace Go.Proofs.Ytlmlckgnmkjkdaa
open Go.RowKit

def paneOk (q k f t l n : Int) (m : Nat) (o : Bool) : Prop := (0 ≤ q ∧ q < 4) ∧ (0 ≤ k ∧ k ≤ 15) ∧ winOk (f, t) ∧ (0 ≤ l ∧ l < 16) ∧ (1 ≤ n ∧ n ≤ 1000000) ∧ m ≤ 4 ∧ o = decide (m = 0)
theorem isLabel_dec {a : Int} {b : Bool} (h : decide (0 ≤ a ∧ a < 16) = b) (w : World) : Calls Try.prog 76 #[.int .i64 16, .int .i64 a] w fun e w' => e = .returned (.bool b) ∧ w = w' :=
  as_bool (R := fun w' => w = w') (by rw [← h]; simp) (isLabel_any 16 a w)
set_option maxHeartbeats 400000 in
theorem isQuery_any (a : Int) (w : World) :
    Calls Try.prog 74 #[.int .i64 a] w fun e w' => e = .returned (.bool (decide (0 ≤ a) && decide (a < 4))) ∧ w = w' := by
  go_enter Try.func74, Try.ntmps74
  go_wp2
  all_goals (go_ret; refine ⟨ret_bool ?_, rfl⟩; simp [*]; try omega)
theorem isQuery_is {a : Int} {b : Bool} (h : decide (0 ≤ a ∧ a < 4) = b) (w : World) : Calls Try.prog 74 #[.int .i64 a] w fun e w' => e = .returned (.bool b) ∧ w = w' :=
  as_bool (R := fun w' => w = w') (by rw [← h]; simp) (isQuery_any a w)

set_option maxHeartbeats 4000000 in
theorem specPaneOk_any (q k f t l n : Int) (A : Option Addr) (m c : Nat) (o : Bool) (w : World) (hm : m ≤ 9223372036854775807) :
    Calls Try.prog 25 #[pav q k f t l n (.slice A m c) o] w fun e w' => e = .returned (.bool (tf (paneOk q k f t l n m o))) ∧ Below w.heap.size w w' := by
  have o1 := Own.new w 31 (pac q k f t l n (.slice A m c) o)
  have hb := below_alloc w (.cells (pac q k f t l n (.slice A m c) o).toArray 31)
  obtain ⟨a0, a1, a2, a3, a4, a5, a6, a7⟩ := o1.eight
  have HM := Lib.hid hm
  clear hm
  by_cases h0 : 0 ≤ q
  · skip
    by_cases h1 : q < 4
    · skip
      by_cases h2 : 0 ≤ k ∧ k ≤ 15
      · have H2 := Lib.hid (decide_eq_true h2)
        by_cases h3 : winOk (f, t)
        · have H3 := Lib.hid ((tf_yes h3).symm)
          by_cases h4 : 0 ≤ l
          · skip
            by_cases h5 : l < 16
            · skip
              by_cases h6 : 1 ≤ n
              · skip
                by_cases h7 : n ≤ 1000000
                · skip
                  by_cases h8 : m ≤ 4
                  · skip
                    have HP := Lib.hid (And.intro (show (0 ≤ q ∧ q < 4) ∧ (0 ≤ k ∧ k ≤ 15) from by omega) (And.intro h3 (show (0 ≤ l ∧ l < 16) ∧ (1 ≤ n ∧ n ≤ 1000000) ∧ m ≤ 4 from by omega)))
                    clear h2 h3
                    by_cases e0 : m = 0
                    · subst e0
                      cases o with
                      | true =>
                        have H := Lib.hid (show paneOk q k f t l n 0 true from ⟨HP.out.1.1, HP.out.1.2, HP.out.2.1, HP.out.2.2.1, HP.out.2.2.2.1, HP.out.2.2.2.2, rfl⟩)
                        clear HP
                        go_enter Try.func25, Try.ntmps25
                        go_wp2_with (first | (go_at_call 66; refine (l04Key_is H2.out _).mono ?_; rintro e w' ⟨rfl, rfl⟩))
                        refine (l06Win_is H3.out _).mono ?_
                        clear a0 a1 a2 a3 a4 a5 a6 a7
                        rintro e w1 ⟨rfl, hb1⟩
                        replace hb := below_trans hb hb1
                        obtain ⟨a0, a1, a2, a3, a4, a5, a6, a7⟩ := (o1.grow hb1).eight
                        clear o1
                        go_wp2
                        go_ret
                        exact ⟨ret_bool (tf_yes H.out), hb⟩
                      | false =>
                        have H := Lib.hid (show ¬ paneOk q k f t l n 0 false from fun h => by have := h.2.2.2.2.2.2; simp at this)
                        clear HP
                        go_enter Try.func25, Try.ntmps25
                        go_wp2_with (first | (go_at_call 66; refine (l04Key_is H2.out _).mono ?_; rintro e w' ⟨rfl, rfl⟩))
                        refine (l06Win_is H3.out _).mono ?_
                        clear a0 a1 a2 a3 a4 a5 a6 a7
                        rintro e w1 ⟨rfl, hb1⟩
                        replace hb := below_trans hb hb1
                        obtain ⟨a0, a1, a2, a3, a4, a5, a6, a7⟩ := (o1.grow hb1).eight
                        clear o1
                        go_wp2
                        go_ret
                        exact ⟨ret_bool (tf_no H.out), hb⟩
                    · have t0 : ((m : Int) == 0) = false := by simpa using e0
                      cases o with
                      | true =>
                        have H := Lib.hid (show ¬ paneOk q k f t l n m true from fun h => by have := h.2.2.2.2.2.2; simp [e0] at this)
                        clear HP e0
                        go_enter Try.func25, Try.ntmps25
                        go_wp2_with (first | (go_at_call 66; refine (l04Key_is H2.out _).mono ?_; rintro e w' ⟨rfl, rfl⟩))
                        refine (l06Win_is H3.out _).mono ?_
                        clear a0 a1 a2 a3 a4 a5 a6 a7
                        rintro e w1 ⟨rfl, hb1⟩
                        replace hb := below_trans hb hb1
                        obtain ⟨a0, a1, a2, a3, a4, a5, a6, a7⟩ := (o1.grow hb1).eight
                        clear o1
                        go_wp2
                        go_ret
                        exact ⟨ret_bool (tf_no H.out), hb⟩
                      | false =>
                        have H := Lib.hid (show paneOk q k f t l n m false from ⟨HP.out.1.1, HP.out.1.2, HP.out.2.1, HP.out.2.2.1, HP.out.2.2.2.1, HP.out.2.2.2.2, by simp [e0]⟩)
                        clear HP e0
                        go_enter Try.func25, Try.ntmps25
                        go_wp2_with (first | (go_at_call 66; refine (l04Key_is H2.out _).mono ?_; rintro e w' ⟨rfl, rfl⟩))
                        refine (l06Win_is H3.out _).mono ?_
                        clear a0 a1 a2 a3 a4 a5 a6 a7
                        rintro e w1 ⟨rfl, hb1⟩
                        replace hb := below_trans hb hb1
                        obtain ⟨a0, a1, a2, a3, a4, a5, a6, a7⟩ := (o1.grow hb1).eight
                        clear o1
                        go_wp2
                        go_ret
                        exact ⟨ret_bool (tf_yes H.out), hb⟩
                  · have H := Lib.hid (show ¬ paneOk q k f t l n m o from fun h => by unfold paneOk at h; omega)
                    clear h2 h3
                    go_enter Try.func25, Try.ntmps25
                    go_wp2_with (first | (go_at_call 66; refine (l04Key_is H2.out _).mono ?_; rintro e w' ⟨rfl, rfl⟩))
                    refine (l06Win_is H3.out _).mono ?_
                    clear a0 a1 a2 a3 a4 a5 a6 a7
                    rintro e w1 ⟨rfl, hb1⟩
                    replace hb := below_trans hb hb1
                    obtain ⟨a0, a1, a2, a3, a4, a5, a6, a7⟩ := (o1.grow hb1).eight
                    clear o1
                    go_wp2
                    go_ret
                    exact ⟨ret_bool (tf_no H.out), hb⟩
                · have H := Lib.hid (show ¬ paneOk q k f t l n m o from fun h => by unfold paneOk at h; omega)
                  clear h2 h3
                  go_enter Try.func25, Try.ntmps25
                  go_wp2_with (first | (go_at_call 66; refine (l04Key_is H2.out _).mono ?_; rintro e w' ⟨rfl, rfl⟩))
                  refine (l06Win_is H3.out _).mono ?_
                  clear a0 a1 a2 a3 a4 a5 a6 a7
                  rintro e w1 ⟨rfl, hb1⟩
                  replace hb := below_trans hb hb1
                  obtain ⟨a0, a1, a2, a3, a4, a5, a6, a7⟩ := (o1.grow hb1).eight
                  clear o1
                  go_wp2
                  go_ret
                  exact ⟨ret_bool (tf_no H.out), hb⟩
              · have H := Lib.hid (show ¬ paneOk q k f t l n m o from fun h => by unfold paneOk at h; omega)
                clear h2 h3
                go_enter Try.func25, Try.ntmps25
                go_wp2_with (first | (go_at_call 66; refine (l04Key_is H2.out _).mono ?_; rintro e w' ⟨rfl, rfl⟩))
                refine (l06Win_is H3.out _).mono ?_
                clear a0 a1 a2 a3 a4 a5 a6 a7
                rintro e w1 ⟨rfl, hb1⟩
                replace hb := below_trans hb hb1
                obtain ⟨a0, a1, a2, a3, a4, a5, a6, a7⟩ := (o1.grow hb1).eight
                clear o1
                go_wp2
                go_ret
                exact ⟨ret_bool (tf_no H.out), hb⟩
            · have H := Lib.hid (show ¬ paneOk q k f t l n m o from fun h => by unfold paneOk at h; omega)
              clear h2 h3
              go_enter Try.func25, Try.ntmps25
              go_wp2_with (first | (go_at_call 66; refine (l04Key_is H2.out _).mono ?_; rintro e w' ⟨rfl, rfl⟩))
              refine (l06Win_is H3.out _).mono ?_
              clear a0 a1 a2 a3 a4 a5 a6 a7
              rintro e w1 ⟨rfl, hb1⟩
              replace hb := below_trans hb hb1
              obtain ⟨a0, a1, a2, a3, a4, a5, a6, a7⟩ := (o1.grow hb1).eight
              clear o1
              go_wp2
              go_ret
              exact ⟨ret_bool (tf_no H.out), hb⟩
          · have H := Lib.hid (show ¬ paneOk q k f t l n m o from fun h => by unfold paneOk at h; omega)
            clear h2 h3
            go_enter Try.func25, Try.ntmps25
            go_wp2_with (first | (go_at_call 66; refine (l04Key_is H2.out _).mono ?_; rintro e w' ⟨rfl, rfl⟩))
            refine (l06Win_is H3.out _).mono ?_
            clear a0 a1 a2 a3 a4 a5 a6 a7
            rintro e w1 ⟨rfl, hb1⟩
            replace hb := below_trans hb hb1
            obtain ⟨a0, a1, a2, a3, a4, a5, a6, a7⟩ := (o1.grow hb1).eight
            clear o1
            go_wp2
            go_ret
            exact ⟨ret_bool (tf_no H.out), hb⟩
        · have H3 := Lib.hid ((tf_no h3).symm)
          have H := Lib.hid (show ¬ paneOk q k f t l n m o from fun h => h3 h.2.2.1)
          clear h2 h3
          go_enter Try.func25, Try.ntmps25
          go_wp2_with (first | (go_at_call 66; refine (l04Key_is H2.out _).mono ?_; rintro e w' ⟨rfl, rfl⟩))
          refine (l06Win_is H3.out _).mono ?_
          clear a0 a1 a2 a3 a4 a5 a6 a7
          rintro e w1 ⟨rfl, hb1⟩
          replace hb := below_trans hb hb1
          obtain ⟨a0, a1, a2, a3, a4, a5, a6, a7⟩ := (o1.grow hb1).eight
          clear o1
          go_wp2
          go_ret
          exact ⟨ret_bool (tf_no H.out), hb⟩
      · have H2 := Lib.hid (decide_eq_false h2)
        have H := Lib.hid (show ¬ paneOk q k f t l n m o from fun h => by unfold paneOk at h; omega)
        clear h2
        go_enter Try.func25, Try.ntmps25
        go_wp2_with (first | (go_at_call 66; refine (l04Key_is H2.out _).mono ?_; rintro e w' ⟨rfl, rfl⟩))
        go_ret
        exact ⟨ret_bool (tf_no H.out), hb⟩
    · have H := Lib.hid (show ¬ paneOk q k f t l n m o from fun h => by unfold paneOk at h; omega)
      go_enter Try.func25, Try.ntmps25
      go_wp2
      go_ret
      exact ⟨ret_bool (tf_no H.out), hb⟩
  · have H := Lib.hid (show ¬ paneOk q k f t l n m o from fun h => by unfold paneOk at h; omega)
    go_enter Try.func25, Try.ntmps25
    go_wp2
    go_ret
    exact ⟨ret_bool (tf_no H.out), hb⟩

set_option maxHeartbeats 4000000 in
theorem implPaneOk_any (q k f t l n : Int) (A : Option Addr) (m c : Nat) (o : Bool) (w : World) (hm : m ≤ 9223372036854775807) :
    Calls Try.prog 27 #[pav q k f t l n (.slice A m c) o] w fun e w' => e = .returned (.bool (tf (paneOk q k f t l n m o))) ∧ Below w.heap.size w w' := by
  have o1 := Own.new w 31 (pac q k f t l n (.slice A m c) o)
  have hb := below_alloc w (.cells (pac q k f t l n (.slice A m c) o).toArray 31)
  obtain ⟨a0, a1, a2, a3, a4, a5, a6, a7⟩ := o1.eight
  have HM := Lib.hid hm
  clear hm
  by_cases h0 : 0 ≤ q ∧ q < 4
  · have H0 := Lib.hid (decide_eq_true h0)
    by_cases h1 : 0 ≤ k ∧ k ≤ 15
    · have H1 := Lib.hid (decide_eq_true h1)
      by_cases h2 : winOk (f, t)
      · have H2 := Lib.hid ((tf_yes h2).symm)
        by_cases h3 : 0 ≤ l ∧ l < 16
        · have H3 := Lib.hid (decide_eq_true h3)
          by_cases h4 : 1 ≤ n
          · skip
            by_cases h5 : n ≤ 1000000
            · skip
              by_cases h6 : m ≤ 4
              · skip
                have HP := Lib.hid (And.intro (show (0 ≤ q ∧ q < 4) ∧ (0 ≤ k ∧ k ≤ 15) from by omega) (And.intro h2 (show (0 ≤ l ∧ l < 16) ∧ (1 ≤ n ∧ n ≤ 1000000) ∧ m ≤ 4 from by omega)))
                clear h0 h1 h2 h3
                by_cases e0 : m = 0
                · subst e0
                  cases o with
                  | true =>
                    have H := Lib.hid (show paneOk q k f t l n 0 true from ⟨HP.out.1.1, HP.out.1.2, HP.out.2.1, HP.out.2.2.1, HP.out.2.2.2.1, HP.out.2.2.2.2, rfl⟩)
                    clear HP
                    go_enter Try.func27, Try.ntmps27
                    go_wp2_with (first | (go_at_call 74; refine (isQuery_is H0.out _).mono ?_; rintro e w' ⟨rfl, rfl⟩) | (go_at_call 69; refine (isKey_is H1.out _).mono ?_; rintro e w' ⟨rfl, rfl⟩))
                    refine (isWin_is H2.out _).mono ?_
                    clear a0 a1 a2 a3 a4 a5 a6 a7
                    rintro e w1 ⟨rfl, hb1⟩
                    replace hb := below_trans hb hb1
                    obtain ⟨a0, a1, a2, a3, a4, a5, a6, a7⟩ := (o1.grow hb1).eight
                    clear o1
                    go_wp2_with (first | (go_at_call 76; refine (isLabel_dec H3.out _).mono ?_; rintro e w' ⟨rfl, rfl⟩))
                    go_ret
                    exact ⟨ret_bool (tf_yes H.out), hb⟩
                  | false =>
                    have H := Lib.hid (show ¬ paneOk q k f t l n 0 false from fun h => by have := h.2.2.2.2.2.2; simp at this)
                    clear HP
                    go_enter Try.func27, Try.ntmps27
                    go_wp2_with (first | (go_at_call 74; refine (isQuery_is H0.out _).mono ?_; rintro e w' ⟨rfl, rfl⟩) | (go_at_call 69; refine (isKey_is H1.out _).mono ?_; rintro e w' ⟨rfl, rfl⟩))
                    refine (isWin_is H2.out _).mono ?_
                    clear a0 a1 a2 a3 a4 a5 a6 a7
                    rintro e w1 ⟨rfl, hb1⟩
                    replace hb := below_trans hb hb1
                    obtain ⟨a0, a1, a2, a3, a4, a5, a6, a7⟩ := (o1.grow hb1).eight
                    clear o1
                    go_wp2_with (first | (go_at_call 76; refine (isLabel_dec H3.out _).mono ?_; rintro e w' ⟨rfl, rfl⟩))
                    go_ret
                    exact ⟨ret_bool (tf_no H.out), hb⟩
                · have t0 : ((m : Int) == 0) = false := by simpa using e0
                  cases o with
                  | true =>
                    have H := Lib.hid (show ¬ paneOk q k f t l n m true from fun h => by have := h.2.2.2.2.2.2; simp [e0] at this)
                    clear HP e0
                    go_enter Try.func27, Try.ntmps27
                    go_wp2_with (first | (go_at_call 74; refine (isQuery_is H0.out _).mono ?_; rintro e w' ⟨rfl, rfl⟩) | (go_at_call 69; refine (isKey_is H1.out _).mono ?_; rintro e w' ⟨rfl, rfl⟩))
                    refine (isWin_is H2.out _).mono ?_
                    clear a0 a1 a2 a3 a4 a5 a6 a7
                    rintro e w1 ⟨rfl, hb1⟩
                    replace hb := below_trans hb hb1
                    obtain ⟨a0, a1, a2, a3, a4, a5, a6, a7⟩ := (o1.grow hb1).eight
                    clear o1
                    go_wp2_with (first | (go_at_call 76; refine (isLabel_dec H3.out _).mono ?_; rintro e w' ⟨rfl, rfl⟩))
                    go_ret
                    exact ⟨ret_bool (tf_no H.out), hb⟩
                  | false =>
                    have H := Lib.hid (show paneOk q k f t l n m false from ⟨HP.out.1.1, HP.out.1.2, HP.out.2.1, HP.out.2.2.1, HP.out.2.2.2.1, HP.out.2.2.2.2, by simp [e0]⟩)
                    clear HP e0
                    go_enter Try.func27, Try.ntmps27
                    go_wp2_with (first | (go_at_call 74; refine (isQuery_is H0.out _).mono ?_; rintro e w' ⟨rfl, rfl⟩) | (go_at_call 69; refine (isKey_is H1.out _).mono ?_; rintro e w' ⟨rfl, rfl⟩))
                    refine (isWin_is H2.out _).mono ?_
                    clear a0 a1 a2 a3 a4 a5 a6 a7
                    rintro e w1 ⟨rfl, hb1⟩
                    replace hb := below_trans hb hb1
                    obtain ⟨a0, a1, a2, a3, a4, a5, a6, a7⟩ := (o1.grow hb1).eight
                    clear o1
                    go_wp2_with (first | (go_at_call 76; refine (isLabel_dec H3.out _).mono ?_; rintro e w' ⟨rfl, rfl⟩))
                    go_ret
                    exact ⟨ret_bool (tf_yes H.out), hb⟩
              · have H := Lib.hid (show ¬ paneOk q k f t l n m o from fun h => by unfold paneOk at h; omega)
                clear h0 h1 h2 h3
                go_enter Try.func27, Try.ntmps27
                go_wp2_with (first | (go_at_call 74; refine (isQuery_is H0.out _).mono ?_; rintro e w' ⟨rfl, rfl⟩) | (go_at_call 69; refine (isKey_is H1.out _).mono ?_; rintro e w' ⟨rfl, rfl⟩))
                refine (isWin_is H2.out _).mono ?_
                clear a0 a1 a2 a3 a4 a5 a6 a7
                rintro e w1 ⟨rfl, hb1⟩
                replace hb := below_trans hb hb1
                obtain ⟨a0, a1, a2, a3, a4, a5, a6, a7⟩ := (o1.grow hb1).eight
                clear o1
                go_wp2_with (first | (go_at_call 76; refine (isLabel_dec H3.out _).mono ?_; rintro e w' ⟨rfl, rfl⟩))
                go_ret
                exact ⟨ret_bool (tf_no H.out), hb⟩
            · have H := Lib.hid (show ¬ paneOk q k f t l n m o from fun h => by unfold paneOk at h; omega)
              clear h0 h1 h2 h3
              go_enter Try.func27, Try.ntmps27
              go_wp2_with (first | (go_at_call 74; refine (isQuery_is H0.out _).mono ?_; rintro e w' ⟨rfl, rfl⟩) | (go_at_call 69; refine (isKey_is H1.out _).mono ?_; rintro e w' ⟨rfl, rfl⟩))
              refine (isWin_is H2.out _).mono ?_
              clear a0 a1 a2 a3 a4 a5 a6 a7
              rintro e w1 ⟨rfl, hb1⟩
              replace hb := below_trans hb hb1
              obtain ⟨a0, a1, a2, a3, a4, a5, a6, a7⟩ := (o1.grow hb1).eight
              clear o1
              go_wp2_with (first | (go_at_call 76; refine (isLabel_dec H3.out _).mono ?_; rintro e w' ⟨rfl, rfl⟩))
              go_ret
              exact ⟨ret_bool (tf_no H.out), hb⟩
          · have H := Lib.hid (show ¬ paneOk q k f t l n m o from fun h => by unfold paneOk at h; omega)
            clear h0 h1 h2 h3
            go_enter Try.func27, Try.ntmps27
            go_wp2_with (first | (go_at_call 74; refine (isQuery_is H0.out _).mono ?_; rintro e w' ⟨rfl, rfl⟩) | (go_at_call 69; refine (isKey_is H1.out _).mono ?_; rintro e w' ⟨rfl, rfl⟩))
            refine (isWin_is H2.out _).mono ?_
            clear a0 a1 a2 a3 a4 a5 a6 a7
            rintro e w1 ⟨rfl, hb1⟩
            replace hb := below_trans hb hb1
            obtain ⟨a0, a1, a2, a3, a4, a5, a6, a7⟩ := (o1.grow hb1).eight
            clear o1
            go_wp2_with (first | (go_at_call 76; refine (isLabel_dec H3.out _).mono ?_; rintro e w' ⟨rfl, rfl⟩))
            go_ret
            exact ⟨ret_bool (tf_no H.out), hb⟩
        · have H3 := Lib.hid (decide_eq_false h3)
          have H := Lib.hid (show ¬ paneOk q k f t l n m o from fun h => by unfold paneOk at h; omega)
          clear h0 h1 h2 h3
          go_enter Try.func27, Try.ntmps27
          go_wp2_with (first | (go_at_call 74; refine (isQuery_is H0.out _).mono ?_; rintro e w' ⟨rfl, rfl⟩) | (go_at_call 69; refine (isKey_is H1.out _).mono ?_; rintro e w' ⟨rfl, rfl⟩))
          refine (isWin_is H2.out _).mono ?_
          clear a0 a1 a2 a3 a4 a5 a6 a7
          rintro e w1 ⟨rfl, hb1⟩
          replace hb := below_trans hb hb1
          obtain ⟨a0, a1, a2, a3, a4, a5, a6, a7⟩ := (o1.grow hb1).eight
          clear o1
          go_wp2_with (first | (go_at_call 76; refine (isLabel_dec H3.out _).mono ?_; rintro e w' ⟨rfl, rfl⟩))
          go_ret
          exact ⟨ret_bool (tf_no H.out), hb⟩
      · have H2 := Lib.hid ((tf_no h2).symm)
        have H := Lib.hid (show ¬ paneOk q k f t l n m o from fun h => h2 h.2.2.1)
        clear h0 h1 h2
        go_enter Try.func27, Try.ntmps27
        go_wp2_with (first | (go_at_call 74; refine (isQuery_is H0.out _).mono ?_; rintro e w' ⟨rfl, rfl⟩) | (go_at_call 69; refine (isKey_is H1.out _).mono ?_; rintro e w' ⟨rfl, rfl⟩))
        refine (isWin_is H2.out _).mono ?_
        clear a0 a1 a2 a3 a4 a5 a6 a7
        rintro e w1 ⟨rfl, hb1⟩
        replace hb := below_trans hb hb1
        obtain ⟨a0, a1, a2, a3, a4, a5, a6, a7⟩ := (o1.grow hb1).eight
        clear o1
        go_wp2
        go_ret
        exact ⟨ret_bool (tf_no H.out), hb⟩
    · have H1 := Lib.hid (decide_eq_false h1)
      have H := Lib.hid (show ¬ paneOk q k f t l n m o from fun h => by unfold paneOk at h; omega)
      clear h0 h1
      go_enter Try.func27, Try.ntmps27
      go_wp2_with (first | (go_at_call 74; refine (isQuery_is H0.out _).mono ?_; rintro e w' ⟨rfl, rfl⟩) | (go_at_call 69; refine (isKey_is H1.out _).mono ?_; rintro e w' ⟨rfl, rfl⟩))
      go_ret
      exact ⟨ret_bool (tf_no H.out), hb⟩
  · have H0 := Lib.hid (decide_eq_false h0)
    have H := Lib.hid (show ¬ paneOk q k f t l n m o from fun h => by unfold paneOk at h; omega)
    clear h0
    go_enter Try.func27, Try.ntmps27
    go_wp2_with (first | (go_at_call 74; refine (isQuery_is H0.out _).mono ?_; rintro e w' ⟨rfl, rfl⟩))
    go_ret
    exact ⟨ret_bool (tf_no H.out), hb⟩
end Go.Proofs.Ytlmlckgnmkjkdaa
