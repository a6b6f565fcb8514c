/-
  PolicyFor, the model's: what it returns.
-/
import Derived.Test.YtipcjofmplpffaaPolicyForI
namespace Go.Proofs.Ytipcjofmplpffaa
open Go.RowKit

theorem specPunctHas_is {a b c d s k : Int} {B : Bool} (h : decide (hasP (a, b, c, d) s k) = B) (w : World) :
    Calls Try.prog 16 #[pv a b c d, .int .i64 s, .int .i64 k] w fun e w' => e = .returned (.bool B) ∧ Below w.heap.size w w' := as_bool h (specPunctHas_any a b c d s k w)

set_option maxRecDepth 100000 in
set_option maxHeartbeats 1000000 in
theorem specPolicyFor_any (N : Int) (A : Option Addr) (ca : Nat) (xs : List Nat) (B : Option Addr) (cb : Nat) (ps : List Pn) (s k : Int) (w : World) (hA : Rd w A (us xs)) (hu : U64 xs) (hn : xs.length ≤ 1048576) (hB : Rd w B (iz (qz ps))) (hm : ps.length ≤ 1048588) :
    Calls Try.prog 23 #[.agg #[.int .i64 N, .slice A xs.length ca], .slice B ps.length cb, .int .i64 s, .int .i64 k] w fun e w' => e = .returned (.int .i64 (forV N xs ps s k)) ∧ Below w.heap.size w w' := by
  have HA := Lib.hid (fun W (h : Below w.heap.size w W) => hA.below h)
  have HB0 := Lib.hid hB
  have HB := Lib.hid (fun W (h : Below w.heap.size w W) => hB.below h)
  clear hA hB
  go_enter Try.func23, Try.ntmps23
  go_wp2_with fail
  by_cases hL : okL N xs ps
  · refine (as_bool (tf_yes hL).symm (specPolicyOk_any N A ca xs B cb ps _ (HA.out _ (below_alloc _ _)) hu hn (HB.out _ (below_alloc _ _)) hm)).mono ?_
    have HL := Lib.hid hL
    clear hL
    rintro e w1 ⟨rfl, hb1⟩
    obtain ⟨ho, hb⟩ := box_own hb1
    clear hb1
    go_wp2_with fail
    by_cases hs : 0 ≤ s ∧ s < 4
    · refine (l04Src_is (decide_eq_true hs) _).mono ?_
      rintro e _ ⟨rfl, rfl⟩
      go_wp2_with fail
      by_cases hk : 0 ≤ k ∧ k ≤ 15
      · refine (l04Key_is (decide_eq_true hk) _).mono ?_
        rintro e _ ⟨rfl, rfl⟩
        obtain ⟨c0, c1⟩ := ho.two
        go_wp2_with fail
        clear c0 c1
        refine (specLatEnds_any N A ca xs _ (HA.out _ hb) hu hn).mono ?_
        rintro e w2 ⟨rfl, hb2⟩
        replace hb := below_trans hb hb2
        clear hb2
        rw [show endV N xs true = endOf xs true from endV_yes HL.out.1]
        have HF := Lib.hid (show (bestOf ps s k (-1) (endOf xs true)).2 = forV N xs ps s k from forV_yes ⟨HL.out, hs, hk⟩)
        generalize endOf xs true = T at *
        go_wp2
        go_loopw [10, 11, 12] (fun l b i wr => ∃ (j : Nat) (zb zl : Int), j ≤ ps.length ∧ i = .int .i64 j ∧ b = .int .i64 zb ∧ l = .int .i64 zl ∧ bestOf (ps.drop j) s k zb zl = bestOf ps s k (-1) T ∧ Below w.heap.size w wr) (fun _ _ i _ => ps.length - (intOf i).toNat)
        case atStart => exact ⟨0, -1, T, Nat.zero_le _, rfl, rfl, rfl, rfl, hb⟩
        case round =>
          obtain ⟨j, zb, zl, hj, rfl, rfl, rfl, hbest, hbel⟩ := hrel
          by_cases hlt : j < ps.length
          · obtain ⟨b, off, rfl, c0, c1, c2, c3⟩ := quad_cells HB0.out hbel hlt
            have HS := Lib.hid (bestOf_step (s := s) (k := k) (b := zb) (l := zl) hlt)
            have HQ := Lib.hid hbest
            clear hbest
            generalize qat ps j = q at *
            obtain ⟨q0, q1, q2, q3⟩ := q
            have w0 := c0 ⟨wr, Below.refl _ _⟩
            have w1 := c1 ⟨wr, Below.refl _ _⟩
            have w2 := c2 ⟨wr, Below.refl _ _⟩
            have w3 := c3 ⟨wr, Below.refl _ _⟩
            simp only at w0 w1 w2 w3
            by_cases hh : hasP (q0, q1, q2, q3) s k
            · by_cases hz : zb < q1
              · have HR := Lib.hid (show bestOf (ps.drop (j + 1)) s k q1 q3 = bestOf ps s k (-1) T by rw [← HQ.out, HS.out, if_pos ⟨hh, hz⟩])
                have HH := Lib.hid (decide_eq_true hh)
                clear hh HQ HS
                go_wp2_with fail
                refine (specPunctHas_is HH.out _).mono ?_
                rintro e w4 ⟨rfl, hb4⟩
                have d0 := c0 ⟨w4, hb4⟩
                have d1 := c1 ⟨w4, hb4⟩
                have d2 := c2 ⟨w4, hb4⟩
                have d3 := c3 ⟨w4, hb4⟩
                simp only at d0 d1 d2 d3
                clear w0 w1 w2 w3 c0 c1 c2 c3
                go_wp2
                go_roundw
                case rel => exact ⟨j + 1, q1, q3, by omega, by go_num, rfl, rfl, HR.out, below_trans hbel hb4⟩
                case measure => simp [intOf]; omega
              · have HR := Lib.hid (show bestOf (ps.drop (j + 1)) s k zb zl = bestOf ps s k (-1) T by rw [← HQ.out, HS.out, if_neg (fun h => hz h.2)])
                have HH := Lib.hid (decide_eq_true hh)
                clear hh HQ HS
                go_wp2_with fail
                refine (specPunctHas_is HH.out _).mono ?_
                rintro e w4 ⟨rfl, hb4⟩
                have d0 := c0 ⟨w4, hb4⟩
                have d1 := c1 ⟨w4, hb4⟩
                have d2 := c2 ⟨w4, hb4⟩
                have d3 := c3 ⟨w4, hb4⟩
                simp only at d0 d1 d2 d3
                clear w0 w1 w2 w3 c0 c1 c2 c3
                go_wp2
                go_roundw
                case rel => exact ⟨j + 1, zb, zl, by omega, by go_num, rfl, rfl, HR.out, below_trans hbel hb4⟩
                case measure => simp [intOf]; omega
            · have HR := Lib.hid (show bestOf (ps.drop (j + 1)) s k zb zl = bestOf ps s k (-1) T by rw [← HQ.out, HS.out, if_neg (fun h => hh h.1)])
              have HH := Lib.hid (decide_eq_false hh)
              clear hh HQ HS c0 c1 c2 c3
              go_wp2_with fail
              refine (specPunctHas_is HH.out _).mono ?_
              rintro e w4 ⟨rfl, hb4⟩
              clear w0 w1 w2 w3
              go_wp2
              go_roundw
              case rel => exact ⟨j + 1, zb, zl, by omega, by go_num, rfl, rfl, HR.out, below_trans hbel hb4⟩
              case measure => simp [intOf]; omega
          · have hjn : j = ps.length := by omega
            subst hjn
            have HR := Lib.hid (show zl = forV N xs ps s k by rw [← HF.out, ← hbest]; simp [bestOf])
            clear hbest
            go_wp2
            go_ret
            exact ⟨ret_int HR.out, hbel⟩
      · refine (l04Key_is (decide_eq_false hk) _).mono ?_
        rintro e _ ⟨rfl, rfl⟩
        go_wp2
        go_ret
        exact ⟨ret_int (forV_no (fun h => hk h.2.2)), hb⟩
    · refine (l04Src_is (decide_eq_false hs) _).mono ?_
      rintro e _ ⟨rfl, rfl⟩
      go_wp2
      go_ret
      exact ⟨ret_int (forV_no (fun h => hs h.2.1)), hb⟩
  · refine (as_bool (tf_no hL).symm (specPolicyOk_any N A ca xs B cb ps _ (HA.out _ (below_alloc _ _)) hu hn (HB.out _ (below_alloc _ _)) hm)).mono ?_
    have HL := Lib.hid hL
    clear hL
    rintro e w1 ⟨rfl, hb1⟩
    go_wp2
    go_ret
    exact ⟨ret_int (forV_no (fun h => HL.out h.1)), (box_own hb1).2⟩
end Go.Proofs.Ytipcjofmplpffaa
