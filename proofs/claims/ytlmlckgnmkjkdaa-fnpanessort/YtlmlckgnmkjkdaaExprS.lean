/-
  ExprDepth and ExprOk of the model.
-/
import Derived.Test.YtlmlckgnmkjkdaaExprE
namespace Go.Proofs.Ytlmlckgnmkjkdaa
open Go.RowKit

set_option maxRecDepth 100000 in
set_option maxHeartbeats 2000000 in
theorem l03Depth_any (A : Option Addr) (ca : Nat) (es : List (Int × Int)) (w : World) (hA : Rd w A (ez es)) (hn : es.length ≤ 1048576) :
    Calls Try.prog 96 #[.slice A es.length ca] w fun e w' => e = .returned (.int .i64 (depthOf es)) ∧ w = w' := by
  by_cases hl0 : es.length < 1
  · obtain rfl : es = [] := by cases es with | nil => rfl | cons => simp at hl0
    clear hl0 hn
    go_enter Try.func96, Try.ntmps96
    go_wp2
    go_ret
    exact ⟨rfl, rfl⟩
  by_cases hl : es.length ≤ 20
  case neg =>
    have hl' : (20 : Int) < es.length := by omega
    have hl1 : ¬ ((es.length : Int) < 1) := by omega
    go_enter Try.func96, Try.ntmps96
    go_wp2
    go_ret
    exact ⟨ret_int (by simp [depthOf, hl]), rfl⟩
  have HD : Hid (depthOf es = dep es 0 0) := Lib.hid (by simp [depthOf, hl])
  have hl1 : ¬ ((es.length : Int) < 1) := by omega
  have hl' : ¬ ((es.length : Int) > 20) := by omega
  go_enter Try.func96, Try.ntmps96
  go_wp2
  go_loop [3, 4, 5] (fun d m i => ∃ (k : Nat) (n q : Int), k ≤ es.length ∧ i = .int .i64 k ∧ d = .int .i64 n ∧ m = .int .i64 q ∧ 0 ≤ n ∧ n ≤ k ∧ 0 ≤ q ∧ q ≤ 20 ∧ Hid (depthOf es = dep (es.drop k) n q)) (fun _ _ i => es.length - (intOf i).toNat)
  case atStart => exact ⟨0, 0, 0, Nat.zero_le _, rfl, rfl, rfl, by omega, by omega, by omega, by omega, HD⟩
  case round =>
    obtain ⟨k, n, q, hk, rfl, rfl, rfl, hn0, hn1, hq0, hq1, HE⟩ := hrel
    by_cases hlt : k < es.length
    · obtain ⟨b, off, rfl, h1⟩ := hA.edge hlt
      obtain ⟨c0, c1⟩ := h1 w (Below.refl _ _)
      clear h1
      have hstop := fun h => HE.out.trans (dep_stop (n := n) (m := q) hlt h)
      have hstep := fun h h' => HE.out.trans (dep_step (n := n) (m := q) hlt h h')
      rw [at_pair] at hstop hstep
      generalize elo es k = op at *
      generalize ehi es k = N at *
      have HS := Lib.hid hstop
      have HT := Lib.hid hstep
      clear hstop hstep
      have CP := l03Takes_any op
      generalize hP : pops op = P at CP
      have hPr : 0 ≤ P ∧ P ≤ 2 := by rw [← hP]; exact pops_range _
      by_cases h0 : op < 0
      · go_wp2_with (go_at_call 117; refine (CP _).mono ?_; rintro e w' ⟨rfl, rfl⟩)
        go_ret
        exact ⟨ret_int (by rw [HS.out (by intro h; have := h.1; unfold tokGood at this; simp only at this; omega)]), rfl⟩
      by_cases h11 : op > 11
      · go_wp2_with (go_at_call 117; refine (CP _).mono ?_; rintro e w' ⟨rfl, rfl⟩)
        go_ret
        exact ⟨ret_int (by rw [HS.out (by intro h; have := h.1; unfold tokGood at this; simp only at this; omega)]), rfl⟩
      by_cases hz : op = 0
      · have tz : (op != 0) = false := by simp [hz]
        have HZ := Lib.hid hz
        clear hz
        by_cases hp : P > n
        · go_wp2_with (go_at_call 117; refine (CP _).mono ?_; rintro e w' ⟨rfl, rfl⟩)
          go_ret
          exact ⟨ret_int (by rw [HS.out (by intro h; have := h.2; simp only [hP] at this; omega)]), rfl⟩
        · go_wp2_with (go_at_call 117; refine (CP _).mono ?_; rintro e w' ⟨rfl, rfl⟩)
          go_round
          case rel =>
            refine ⟨k + 1, n - P + 1, max q (n - P + 1), by omega, by go_num, ?_, ?_, by omega, by omega, by omega, by omega, Lib.hid ?_⟩
            · congr 1
            · congr 1; omega
            · rw [HT.out (.inl HZ.out) (by simp only [hP]; omega)]; simp only [hP]
          case measure => simp [intOf]; omega
      · have tz : (op != 0) = true := by simpa using hz
        by_cases hN : N = 0
        · have tn : (N != 0) = false := by simp [hN]
          have HN := Lib.hid hN
          clear hN
          by_cases hp : P > n
          · go_wp2_with (go_at_call 117; refine (CP _).mono ?_; rintro e w' ⟨rfl, rfl⟩)
            go_ret
            exact ⟨ret_int (by rw [HS.out (by intro h; have := h.2; simp only [hP] at this; omega)]), rfl⟩
          · go_wp2_with (go_at_call 117; refine (CP _).mono ?_; rintro e w' ⟨rfl, rfl⟩)
            go_round
            case rel =>
              refine ⟨k + 1, n - P + 1, max q (n - P + 1), by omega, by go_num, ?_, ?_, by omega, by omega, by omega, by omega, Lib.hid ?_⟩
              · congr 1
              · congr 1; omega
              · rw [HT.out (.inr ⟨by simp only; omega, by simp only; omega, HN.out⟩) (by simp only [hP]; omega)]; simp only [hP]
            case measure => simp [intOf]; omega
        · have tn : (N != 0) = true := by simpa using hN
          go_wp2_with (go_at_call 117; refine (CP _).mono ?_; rintro e w' ⟨rfl, rfl⟩)
          go_ret
          exact ⟨ret_int (by rw [HS.out (by intro h; have := h.1; unfold tokGood at this; simp only at this; omega)]), rfl⟩
    · have hkl : k = es.length := by omega
      subst hkl
      have HF := HE.out
      rw [List.drop_length, dep_nil] at HF
      have HF' := Lib.hid HF
      clear HF
      by_cases h1 : n = 1
      · subst h1
        go_wp2
        go_ret
        exact ⟨ret_int (by rw [HF'.out]; simp), rfl⟩
      · have t1 : (n != 1) = true := by simpa using h1
        go_wp2
        go_ret
        exact ⟨ret_int (by rw [HF'.out]; simp [h1]), rfl⟩

set_option maxHeartbeats 400000 in
theorem specExprOk_any (A : Option Addr) (ca : Nat) (es : List (Int × Int)) (w : World) (hA : Rd w A (ez es)) (hn : es.length ≤ 1048576) :
    Calls Try.prog 55 #[.slice A es.length ca] w fun e w' => e = .returned (.bool (decide (0 ≤ depthOf es))) ∧ w = w' := by
  have HC := Lib.hid (l03Depth_any A ca es w hA hn)
  have hr := depthOf_range es
  generalize depthOf es = D at *
  go_enter Try.func55, Try.ntmps55
  go_wp2_with (go_at_call 96; refine HC.out.mono ?_; rintro e w' ⟨rfl, rfl⟩)
  go_ret
  exact ⟨ret_bool (by simp), rfl⟩
end Go.Proofs.Ytlmlckgnmkjkdaa
