/-
  PolicyOk, the model's: what it returns.
-/
import Derived.Test.YtipcjofmplpffaaPunctOk
namespace Go.Proofs.Ytipcjofmplpffaa
open Go.RowKit

def okL (N : Int) (xs : List Nat) (ps : List Pn) : Prop := LatP N xs ∧ listOk N ps

set_option maxHeartbeats 400000 in
theorem l01Here_any (N : Int) (A : Option Addr) (n ca : Nat) (a : Int) (w : World) :
    Calls Try.prog 57 #[.agg #[.int .i64 N, .slice A n ca], .int .i64 a] w fun e w' => e = .returned (.bool (decide (0 ≤ a) && decide (a < N))) ∧ Below w.heap.size w w' := by
  go_enter Try.func57, Try.ntmps57
  go_wp2
  all_goals (go_ret; refine ⟨ret_bool ?_, below_alloc _ _⟩; simp [*]; try omega)
theorem l01Here_is {N : Int} {A : Option Addr} {n ca : Nat} {a : Int} {b : Bool} (h : decide (0 ≤ a ∧ a < N) = b) (w : World) :
    Calls Try.prog 57 #[.agg #[.int .i64 N, .slice A n ca], .int .i64 a] w fun e w' => e = .returned (.bool b) ∧ Below w.heap.size w w' :=
  as_bool (by rw [← h]; simp) (l01Here_any N A n ca a w)

theorem l04Right_is {a b c d : Int} {B : Bool} (h : decide (rightP (a, b, c, d)) = B) (w : World) :
    Calls Try.prog 58 #[pv a b c d] w fun e w' => e = .returned (.bool B) ∧ Below w.heap.size w w' := as_bool h (l04Right_any a b c d w)
theorem l04Less_is {a b c d a' b' c' d' : Int} {B : Bool} (h : decide (lessP (a, b, c, d) (a', b', c', d')) = B) (w : World) :
    Calls Try.prog 44 #[pv a b c d, pv a' b' c' d'] w fun e w' => e = .returned (.bool B) ∧ Below w.heap.size w w' := as_bool h (l04Less_any a b c d a' b' c' d' w)

/-- the cells of entry k, in every world grown from wr -/
theorem quad_cells {w wr : World} {A : Option Addr} {ps : List Pn} (h : Rd w A (iz (qz ps))) (hbel : Below w.heap.size w wr) {k : Nat} (hk : k < ps.length) :
    ∃ b off, A = some ⟨b, off, none⟩ ∧ (∀ u : Bel wr, u.w.cell? ⟨b, off + k * 4, none⟩ = some (.int .i64 (qat ps k).1)) ∧ (∀ u : Bel wr, u.w.cell? ⟨b, off + k * 4 + 1, none⟩ = some (.int .i64 (qat ps k).2.1)) ∧
      (∀ u : Bel wr, u.w.cell? ⟨b, off + k * 4 + 2, none⟩ = some (.int .i64 (qat ps k).2.2.1)) ∧ (∀ u : Bel wr, u.w.cell? ⟨b, off + k * 4 + 3, none⟩ = some (.int .i64 (qat ps k).2.2.2)) := by
  obtain ⟨b, off, rfl, hc⟩ := h.punct hk
  exact ⟨b, off, rfl, fun u => (hc _ (below_trans hbel u.ok)).1, fun u => (hc _ (below_trans hbel u.ok)).2.1, fun u => (hc _ (below_trans hbel u.ok)).2.2.1, fun u => (hc _ (below_trans hbel u.ok)).2.2.2⟩

set_option maxRecDepth 100000 in
set_option maxHeartbeats 2000000 in
theorem specPolicyOk_any (N : Int) (A : Option Addr) (ca : Nat) (xs : List Nat) (B : Option Addr) (cb : Nat) (ps : List Pn) (w : World) (hA : Rd w A (us xs)) (hu : U64 xs) (hn : xs.length ≤ 1048576) (hB : Rd w B (iz (qz ps))) (hm : ps.length ≤ 1048588) :
    Calls Try.prog 20 #[.agg #[.int .i64 N, .slice A xs.length ca], .slice B ps.length cb] w fun e w' => e = .returned (.bool (tf (okL N xs ps))) ∧ Below w.heap.size w w' := by
  have HA := Lib.hid (fun W (h : Below w.heap.size w W) => hA.below h)
  clear hA
  have HB := Lib.hid hB
  clear hB
  go_enter Try.func20, Try.ntmps20
  go_wp2_with fail
  by_cases hL : LatP N xs
  · refine (as_bool (tf_yes hL).symm (specLatOk_any N A ca xs _ (HA.out _ (below_alloc _ _)) hu hn)).mono ?_
    have HL := Lib.hid hL
    clear hL
    rintro e w1 ⟨rfl, hb1⟩
    obtain ⟨ho1, hB1⟩ := box_own hb1
    clear hb1
    by_cases h12 : ps.length ≤ 12
    · go_wp2
      go_loopw [5] (fun i wr => ∃ k : Nat, k ≤ ps.length ∧ i = .int .i64 k ∧ okTo N ps k ∧ Own wr w.heap.size 26 [.int .i64 N, .slice A xs.length ca] ∧ Below w.heap.size w wr) (fun i _ => ps.length - (intOf i).toNat)
      case atStart => exact ⟨0, Nat.zero_le _, rfl, okTo_zero _ _, ho1, hB1⟩
      case round =>
        obtain ⟨k, hk, rfl, hok, ho, hbel⟩ := hrel
        by_cases hlt : k < ps.length
        · obtain ⟨b, off, rfl, c0, c1, c2, c3⟩ := quad_cells HB.out hbel hlt
          have n0 : ∀ u : Bel wr, u.w.cell? ⟨w.heap.size, 0, none⟩ = some (.int .i64 N) := fun u => (ho.grow u.ok).two.1
          have n1 : ∀ u : Bel wr, u.w.cell? ⟨w.heap.size, 1, none⟩ = some (.slice A xs.length ca) := fun u => (ho.grow u.ok).two.2
          have HO := Lib.hid hok
          clear hok
          by_cases h1 : 0 ≤ (qat ps k).2.2.2 ∧ (qat ps k).2.2.2 < N
          · by_cases h2 : rightP (qat ps k)
            · have H1 := Lib.hid (decide_eq_true h1)
              have H2 := Lib.hid (decide_eq_true h2)
              have HG := Lib.hid (show goodP N (qat ps k) from ⟨h1, h2⟩)
              clear h1 h2
              by_cases hk0 : 0 < k
              · obtain ⟨j, rfl⟩ : ∃ j, k = j + 1 := ⟨k - 1, by omega⟩
                obtain ⟨b', off', e', d0, d1, d2, d3⟩ := quad_cells HB.out hbel (k := j) (by omega)
                obtain ⟨rfl, rfl⟩ : b = b' ∧ off = off' := by injection e' with e'; injection e' with e1 e2; exact ⟨e1, e2⟩
                clear e'
                by_cases h3 : lessP (qat ps j) (qat ps (j + 1))
                · have H3 := Lib.hid (decide_eq_true h3)
                  have HS := Lib.hid (show okTo N ps (j + 1 + 1) from okTo_succ.2 ⟨HO.out, HG.out, fun _ => h3⟩)
                  clear h3 HO HG
                  generalize qat ps (j + 1) = q at *
                  generalize qat ps j = p at *
                  obtain ⟨p0, p1, p2, p3⟩ := p
                  obtain ⟨q0, q1, q2, q3⟩ := q
                  go_wp2
                  refine wp_region_bel (by kernel_rfl) (by kernel_rfl) ?_
                  repeat (go_big_quiet_step (first | (go_at_call 57; exact bel_of _ (l01Here_is H1.out _)) | (go_at_call 58; exact bel_of _ (l04Right_is H2.out _)) | (go_at_call 44; exact bel_of _ (l04Less_is H3.out _))))
                  refine wpQuiet_nil ?_
                  rintro _ ⟨u, rfl⟩
                  go_wp2
                  go_roundw
                  case rel => exact ⟨j + 1 + 1, by omega, by go_num, HS.out, ho.grow u.ok, below_trans hbel u.ok⟩
                  case measure => simp [intOf]; omega
                · have H3 := Lib.hid (decide_eq_false h3)
                  have HS := Lib.hid (show ¬ okL N xs ps from fun h => h3 ((okTo_iff.2 h.2.2 (j + 1) hlt).2 (by omega)))
                  clear h3 HO HG
                  generalize qat ps (j + 1) = q at *
                  generalize qat ps j = p at *
                  obtain ⟨p0, p1, p2, p3⟩ := p
                  obtain ⟨q0, q1, q2, q3⟩ := q
                  go_wp2
                  refine wp_region_bel (by kernel_rfl) (by kernel_rfl) ?_
                  repeat (go_big_quiet_step (first | (go_at_call 57; exact bel_of _ (l01Here_is H1.out _)) | (go_at_call 58; exact bel_of _ (l04Right_is H2.out _)) | (go_at_call 44; exact bel_of _ (l04Less_is H3.out _))))
                  refine wpQuiet_nil ?_
                  rintro _ ⟨u, rfl⟩
                  go_wp2
                  go_ret
                  exact ⟨ret_bool (tf_no HS.out), below_trans hbel u.ok⟩
              · obtain rfl : k = 0 := by omega
                simp only [Nat.zero_mul, Nat.add_zero] at c0 c1 c2 c3
                have HS := Lib.hid (show okTo N ps (0 + 1) from okTo_succ.2 ⟨HO.out, HG.out, fun h => by omega⟩)
                clear HO HG
                generalize qat ps 0 = q at *
                obtain ⟨q0, q1, q2, q3⟩ := q
                go_wp2
                refine wp_region_bel (by kernel_rfl) (by kernel_rfl) ?_
                repeat (go_big_quiet_step (first | (go_at_call 57; exact bel_of _ (l01Here_is H1.out _)) | (go_at_call 58; exact bel_of _ (l04Right_is H2.out _))))
                refine wpQuiet_nil ?_
                rintro _ ⟨u, rfl⟩
                go_wp2
                go_roundw
                case rel => exact ⟨0 + 1, by omega, by go_num, HS.out, ho.grow u.ok, below_trans hbel u.ok⟩
                case measure => simp [intOf]; omega
            · have H1 := Lib.hid (decide_eq_true h1)
              have H2 := Lib.hid (decide_eq_false h2)
              have HS := Lib.hid (show ¬ okL N xs ps from fun h => h2 (h.2.2.1 _ (qat_mem hlt)).2)
              clear h1 h2 HO
              generalize qat ps k = q at *
              obtain ⟨q0, q1, q2, q3⟩ := q
              go_wp2
              refine wp_region_bel (by kernel_rfl) (by kernel_rfl) ?_
              repeat (go_big_quiet_step (first | (go_at_call 57; exact bel_of _ (l01Here_is H1.out _)) | (go_at_call 58; exact bel_of _ (l04Right_is H2.out _))))
              refine wpQuiet_nil ?_
              rintro _ ⟨u, rfl⟩
              go_wp2
              go_ret
              exact ⟨ret_bool (tf_no HS.out), below_trans hbel u.ok⟩
          · have H1 := Lib.hid (decide_eq_false h1)
            have HS := Lib.hid (show ¬ okL N xs ps from fun h => h1 (h.2.2.1 _ (qat_mem hlt)).1)
            clear h1 HO
            generalize qat ps k = q at *
            obtain ⟨q0, q1, q2, q3⟩ := q
            go_wp2
            refine wp_region_bel (by kernel_rfl) (by kernel_rfl) ?_
            repeat (go_big_quiet_step (first | (go_at_call 57; exact bel_of _ (l01Here_is H1.out _))))
            refine wpQuiet_nil ?_
            rintro _ ⟨u, rfl⟩
            go_wp2
            go_ret
            exact ⟨ret_bool (tf_no HS.out), below_trans hbel u.ok⟩
        · have hkn : k = ps.length := by omega
          subst hkn
          have HS := Lib.hid (show okL N xs ps from ⟨HL.out, h12, okTo_iff.1 hok⟩)
          clear hok
          go_wp2
          go_ret
          exact ⟨ret_bool (tf_yes HS.out), hbel⟩
    · go_wp2
      go_ret
      exact ⟨ret_bool (tf_no (fun h => h12 h.2.1)), hB1⟩
  · refine (as_bool (tf_no hL).symm (specLatOk_any N A ca xs _ (HA.out _ (below_alloc _ _)) hu hn)).mono ?_
    have HL := Lib.hid hL
    clear hL
    rintro e w1 ⟨rfl, hb1⟩
    go_wp2
    go_ret
    exact ⟨ret_bool (tf_no (fun h => HL.out h.1)), (box_own hb1).2⟩
end Go.Proofs.Ytipcjofmplpffaa
