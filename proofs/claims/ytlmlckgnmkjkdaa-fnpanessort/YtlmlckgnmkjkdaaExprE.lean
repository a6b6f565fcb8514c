/-
  ExprDepth and ExprOk of the program.
-/
import Derived.Test.YtlmlckgnmkjkdaaExprD
namespace Go.Proofs.Ytlmlckgnmkjkdaa
open Go.RowKit

theorem at_pair (es : List (Int × Int)) (k : Nat) : es.getD k (0, 0) = (elo es k, ehi es k) := rfl

set_option maxRecDepth 100000 in
set_option maxHeartbeats 1000000 in
theorem implExprDepth_any (A : Option Addr) (ca : Nat) (es : List (Int × Int)) (w : World) (hA : Rd w A (ez es)) (hn : es.length ≤ 2097152) :
    Calls Try.prog 98 #[.slice A es.length ca] w fun e w' => e = .returned (.int .i64 (depthOf es)) ∧ Below w.heap.size w w' := by
  by_cases hl : es.length ≤ 20
  case neg =>
    have hl' : (20 : Int) < es.length := by omega
    go_enter Try.func98, Try.ntmps98
    go_wp2
    go_ret
    exact ⟨ret_int (by simp [depthOf, hl]), Below.refl _ _⟩
  have HD : Hid (depthOf es = dep es 0 0) := Lib.hid (by simp [depthOf, hl])
  go_enter Try.func98, Try.ntmps98
  go_wp2
  go_loopw [3, 4, 12] (fun d m i wr => ∃ (k : Nat) (n q : Int), k ≤ es.length ∧ i = .int .i64 k ∧ d = .int .i64 n ∧ m = .int .i64 q ∧ 0 ≤ n ∧ n ≤ k ∧ 0 ≤ q ∧ q ≤ 20 ∧ Hid (depthOf es = dep (es.drop k) n q) ∧ Below w.heap.size w wr) (fun _ _ i _ => es.length - (intOf i).toNat)
  case atStart => exact ⟨0, 0, 0, Nat.zero_le _, rfl, rfl, rfl, by omega, by omega, by omega, by omega, HD, Below.refl _ _⟩
  case round =>
    obtain ⟨k, n, q, hk, rfl, rfl, rfl, hn0, hn1, hq0, hq1, HE, hbel⟩ := hrel
    by_cases hlt : k < es.length
    · obtain ⟨b, off, rfl, h1⟩ := hA.edge hlt
      obtain ⟨c0, c1⟩ := h1 wr hbel
      clear h1
      generalize hP : pops (elo es k) = P
      have hPr : 0 ≤ P ∧ P ≤ 2 := by rw [← hP]; exact pops_range _
      by_cases hg : tokGood (elo es k, ehi es k)
      · have hgd : decide (tokGood (elo es k, ehi es k)) = true := by simp [hg]
        have hop : 0 ≤ elo es k ∧ elo es k ≤ 11 := by unfold tokGood at hg; simp only at hg; omega
        have CP := fun W : World => as_int (R := fun w' => W = w') hP (popsOf_any (elo es k) W hop.1 hop.2)
        by_cases hp : n < P
        · go_wp2_with (first | (go_at_call 118; refine (as_bool hgd (tokOk_any (elo es k) (ehi es k) _)).mono ?_; rintro e w1 ⟨rfl, hb1⟩; have d0 := (box_own hb1).1.two.1; have hb2 := below_trans hbel (box_own hb1).2; clear hb1) | (go_at_call 119; refine (CP _).mono ?_; rintro e w' ⟨rfl, rfl⟩))
          go_ret
          refine ⟨ret_int ?_, hb2⟩
          rw [HE.out, dep_stop hlt (by rw [at_pair]; intro h; have := h.2; simp only at this; omega)]
        · have HS : Hid (depthOf es = dep (es.drop (k + 1)) (n - P + 1) (max q (n - P + 1))) := Lib.hid (by
            rw [HE.out, dep_step hlt (by rw [at_pair]; exact hg) (by rw [at_pair]; simp only; omega), at_pair, hP])
          go_wp2_with (first | (go_at_call 118; refine (as_bool hgd (tokOk_any (elo es k) (ehi es k) _)).mono ?_; rintro e w1 ⟨rfl, hb1⟩; have d0 := (box_own hb1).1.two.1; have hb2 := below_trans hbel (box_own hb1).2; clear hb1) | (go_at_call 119; refine (CP _).mono ?_; rintro e w' ⟨rfl, rfl⟩))
          go_roundw
          case rel =>
            refine ⟨k + 1, n - P + 1, max q (n - P + 1), by omega, by go_num, ?_, ?_, by omega, by omega, by omega, by omega, HS, hb2⟩
            · congr 1; omega
            · congr 1; omega
          case measure => simp [intOf]; omega
      · have hgd : decide (tokGood (elo es k, ehi es k)) = false := by simp [hg]
        go_wp2_with (go_at_call 118; refine (as_bool hgd (tokOk_any (elo es k) (ehi es k) _)).mono ?_; rintro e w1 ⟨rfl, hb1⟩; have d0 := (box_own hb1).1.two.1; have hb2 := below_trans hbel (box_own hb1).2; clear hb1)
        go_ret
        refine ⟨ret_int ?_, hb2⟩
        rw [HE.out, dep_stop hlt (by rw [at_pair]; exact fun h => hg h.1)]
    · have hkl : k = es.length := by omega
      subst hkl
      have HF := HE.out
      rw [List.drop_length, dep_nil] at HF
      have HF' := Lib.hid HF
      clear HF
      by_cases h1 : n = 1
      · subst h1
        go_wp2
        go_ret
        exact ⟨ret_int (by rw [HF'.out]; simp), hbel⟩
      · have t1 : (n != 1) = true := by simpa using h1
        go_wp2
        go_ret
        exact ⟨ret_int (by rw [HF'.out]; simp [h1]), hbel⟩

set_option maxHeartbeats 400000 in
theorem implExprOk_any (A : Option Addr) (ca : Nat) (es : List (Int × Int)) (w : World) (hA : Rd w A (ez es)) (hn : es.length ≤ 2097152) :
    Calls Try.prog 60 #[.slice A es.length ca] w fun e w' => e = .returned (.bool (decide (0 ≤ depthOf es))) ∧ Below w.heap.size w w' := by
  have HC := Lib.hid (implExprDepth_any A ca es w hA hn)
  have hr := depthOf_range es
  generalize depthOf es = D at *
  go_enter Try.func60, Try.ntmps60
  go_wp2_with (go_at_call 98; refine HC.out.mono ?_; rintro e w' ⟨rfl, hb⟩)
  go_ret
  exact ⟨ret_bool (by simp), hb⟩
end Go.Proofs.Ytlmlckgnmkjkdaa
