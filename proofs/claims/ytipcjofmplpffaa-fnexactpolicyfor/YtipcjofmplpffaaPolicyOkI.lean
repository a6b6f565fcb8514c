/-
  PolicyOk, the program's: what it returns.
-/
import Derived.Test.YtipcjofmplpffaaPolicyOkS
import Derived.Test.YtipcjofmplpffaaPolicyCmp
namespace Go.Proofs.Ytipcjofmplpffaa
open Go.RowKit Go.Lib Go.Sort

theorem below_grown {w w' : World} (h : ∃ q os', w' = grow (w.drewN q) os') : Below w.heap.size w w' := by
  obtain ⟨q, os, rfl⟩ := h
  exact ⟨rfl, rfl, rfl, by show w.heap.size ≤ (w.heap ++ os).size; rw [Array.size_append]; omega, fun j hj => by show (w.heap ++ os)[j]? = w.heap[j]?; rw [Array.getElem?_append_left hj]⟩
theorem punctFits_is {N a b c d : Int} {B : Bool} (h : decide (goodP N (a, b, c, d)) = B) (w : World) :
    Calls Try.prog 70 #[.int .i64 N, pv a b c d] w fun e w' => e = .returned (.bool B) ∧ Below w.heap.size w w' := as_bool h (punctFits_any N a b c d w)
theorem comparePlaces_is {a b c d a' b' c' d' z : Int} (h : cmpP (a, b, c, d) (a', b', c', d') = z) (w : World) :
    Calls Try.prog 72 #[pv a b c d, pv a' b' c' d'] w fun e w' => e = .returned (.int .i64 z) ∧ Below w.heap.size w w' :=
  as_int h ((comparePlaces_any a b c d a' b' c' d' w).mono fun _ _ ⟨he, hb⟩ => ⟨he, below_grown hb⟩)

set_option maxRecDepth 100000 in
set_option maxHeartbeats 2000000 in
theorem implPolicyOk_any (N : Int) (A : Option Addr) (ca : Nat) (xs : List Nat) (B : Option Addr) (cb : Nat) (ps : List Pn) (w : World) (hA : Rd w A (us xs)) (hu : U64 xs) (hn : xs.length ≤ 1048576) (hB : Rd w B (iz (qz ps))) (hm : ps.length ≤ 1048588) :
    Calls Try.prog 33 #[.agg #[.int .i64 N, .slice A xs.length ca], .slice B ps.length cb] w fun e w' => e = .returned (.bool (tf (okL N xs ps))) ∧ Below w.heap.size w w' := by
  have HA := Lib.hid (fun W (h : Below w.heap.size w W) => hA.below h)
  clear hA
  have HB := Lib.hid hB
  clear hB
  go_enter Try.func33, Try.ntmps33
  go_wp2_with fail
  by_cases hL : LatP N xs
  · refine (as_bool (tf_yes hL).symm (implLatOk_any N A ca xs _ (HA.out _ (below_alloc _ _)) hu hn)).mono ?_
    have HL := Lib.hid hL
    clear hL
    rintro e w1 ⟨rfl, hb1⟩
    obtain ⟨ho1, hB1⟩ := box_own hb1
    clear hb1
    by_cases h12 : ps.length ≤ 12
    · go_wp2
      go_loopw [17] (fun i wr => ∃ k : Nat, k ≤ ps.length ∧ i = .int .i64 k ∧ okTo N ps k ∧ Own wr w.heap.size 26 [.int .i64 N, .slice A xs.length ca] ∧ Below w.heap.size w wr) (fun i _ => ps.length - (intOf i).toNat)
      case atStart => exact ⟨0, Nat.zero_le _, rfl, okTo_zero _ _, ho1, hB1⟩
      case round =>
        obtain ⟨k, hk, rfl, hok, ho, hbel⟩ := hrel
        by_cases hlt : k < ps.length
        · obtain ⟨b, off, rfl, c0, c1, c2, c3⟩ := quad_cells HB.out hbel hlt
          replace c0 := c0 ⟨wr, Below.refl _ _⟩
          replace c1 := c1 ⟨wr, Below.refl _ _⟩
          replace c2 := c2 ⟨wr, Below.refl _ _⟩
          replace c3 := c3 ⟨wr, Below.refl _ _⟩
          simp only at c0 c1 c2 c3
          have HO := Lib.hid hok
          clear hok
          by_cases h1 : goodP N (qat ps k)
          · have H1 := Lib.hid (decide_eq_true h1)
            have HG := Lib.hid h1
            clear h1
            by_cases hk0 : 0 < k
            · obtain ⟨j, rfl⟩ : ∃ j, k = j + 1 := ⟨k - 1, by omega⟩
              by_cases h3 : lessP (qat ps j) (qat ps (j + 1))
              · have HS := Lib.hid (show okTo N ps (j + 1 + 1) from okTo_succ.2 ⟨HO.out, HG.out, fun _ => h3⟩)
                have hz := cmpP_neg.2 h3
                clear h3 HO HG
                generalize hq : qat ps (j + 1) = q at *
                obtain ⟨q0, q1, q2, q3⟩ := q
                obtain ⟨b', off', e', d0, d1, d2, d3⟩ := quad_cells HB.out (below_trans hbel (below_alloc wr (.cells #[.int .i64 q0, .int .i64 q1, .int .i64 q2, .int .i64 q3] 29))) (k := j) (by omega)
                obtain ⟨rfl, rfl⟩ : b = b' ∧ off = off' := by injection e' with e'; injection e' with e1 e2; exact ⟨e1, e2⟩
                clear e' hq
                generalize qat ps j = p at *
                obtain ⟨r0, r1, r2, r3⟩ := p
                generalize h3 : cmpP (r0, r1, r2, r3) (q0, q1, q2, q3) = z at *
                have H3 := Lib.hid h3
                clear h3
                have n0 : ∀ u : Bel (wr.alloc (.cells #[.int .i64 q0, .int .i64 q1, .int .i64 q2, .int .i64 q3] 29)), u.w.cell? ⟨w.heap.size, 0, none⟩ = some (.int .i64 N) := fun u => ((ho.alloc _).grow u.ok).two.1
                have p0 := fun u : Bel (wr.alloc (.cells #[.int .i64 q0, .int .i64 q1, .int .i64 q2, .int .i64 q3] 29)) => (box_punct u.w u.ok).1
                have p1 := fun u : Bel (wr.alloc (.cells #[.int .i64 q0, .int .i64 q1, .int .i64 q2, .int .i64 q3] 29)) => (box_punct u.w u.ok).2.1
                have p2 := fun u : Bel (wr.alloc (.cells #[.int .i64 q0, .int .i64 q1, .int .i64 q2, .int .i64 q3] 29)) => (box_punct u.w u.ok).2.2.1
                have p3 := fun u : Bel (wr.alloc (.cells #[.int .i64 q0, .int .i64 q1, .int .i64 q2, .int .i64 q3] 29)) => (box_punct u.w u.ok).2.2.2
                go_wp2
                refine wp_region_bel (by kernel_rfl) (by kernel_rfl) ?_
                repeat (go_big_quiet_step (first | (go_at_call 70; exact bel_of _ (punctFits_is H1.out _)) | (go_at_call 72; exact bel_of _ (comparePlaces_is H3.out _))))
                refine wpQuiet_nil ?_
                rintro _ ⟨u, rfl⟩
                go_wp2
                go_roundw
                case rel => exact ⟨j + 1 + 1, by omega, by go_num, HS.out, (ho.alloc _).grow u.ok, below_trans hbel (below_trans (below_alloc _ _) u.ok)⟩
                case measure => simp [intOf]; omega
              · have HS := Lib.hid (show ¬ okL N xs ps from fun h => h3 ((okTo_iff.2 h.2.2 (j + 1) hlt).2 (by omega)))
                have hz := cmpP_nonneg.2 h3
                clear h3 HO HG
                generalize hq : qat ps (j + 1) = q at *
                obtain ⟨q0, q1, q2, q3⟩ := q
                obtain ⟨b', off', e', d0, d1, d2, d3⟩ := quad_cells HB.out (below_trans hbel (below_alloc wr (.cells #[.int .i64 q0, .int .i64 q1, .int .i64 q2, .int .i64 q3] 29))) (k := j) (by omega)
                obtain ⟨rfl, rfl⟩ : b = b' ∧ off = off' := by injection e' with e'; injection e' with e1 e2; exact ⟨e1, e2⟩
                clear e' hq
                generalize qat ps j = p at *
                obtain ⟨r0, r1, r2, r3⟩ := p
                generalize h3 : cmpP (r0, r1, r2, r3) (q0, q1, q2, q3) = z at *
                have H3 := Lib.hid h3
                clear h3
                have n0 : ∀ u : Bel (wr.alloc (.cells #[.int .i64 q0, .int .i64 q1, .int .i64 q2, .int .i64 q3] 29)), u.w.cell? ⟨w.heap.size, 0, none⟩ = some (.int .i64 N) := fun u => ((ho.alloc _).grow u.ok).two.1
                have p0 := fun u : Bel (wr.alloc (.cells #[.int .i64 q0, .int .i64 q1, .int .i64 q2, .int .i64 q3] 29)) => (box_punct u.w u.ok).1
                have p1 := fun u : Bel (wr.alloc (.cells #[.int .i64 q0, .int .i64 q1, .int .i64 q2, .int .i64 q3] 29)) => (box_punct u.w u.ok).2.1
                have p2 := fun u : Bel (wr.alloc (.cells #[.int .i64 q0, .int .i64 q1, .int .i64 q2, .int .i64 q3] 29)) => (box_punct u.w u.ok).2.2.1
                have p3 := fun u : Bel (wr.alloc (.cells #[.int .i64 q0, .int .i64 q1, .int .i64 q2, .int .i64 q3] 29)) => (box_punct u.w u.ok).2.2.2
                go_wp2
                refine wp_region_bel (by kernel_rfl) (by kernel_rfl) ?_
                repeat (go_big_quiet_step (first | (go_at_call 70; exact bel_of _ (punctFits_is H1.out _)) | (go_at_call 72; exact bel_of _ (comparePlaces_is H3.out _))))
                refine wpQuiet_nil ?_
                rintro _ ⟨u, rfl⟩
                go_wp2
                go_ret
                exact ⟨ret_bool (tf_no HS.out), below_trans hbel (below_trans (below_alloc _ _) u.ok)⟩
            · obtain rfl : k = 0 := by omega
              have HS := Lib.hid (show okTo N ps (0 + 1) from okTo_succ.2 ⟨HO.out, HG.out, fun h => by omega⟩)
              clear HO HG
              simp only [Nat.zero_mul, Nat.add_zero] at c0 c1 c2 c3
              generalize qat ps 0 = q at *
              obtain ⟨q0, q1, q2, q3⟩ := q
              have n0 : ∀ u : Bel (wr.alloc (.cells #[.int .i64 q0, .int .i64 q1, .int .i64 q2, .int .i64 q3] 29)), u.w.cell? ⟨w.heap.size, 0, none⟩ = some (.int .i64 N) := fun u => ((ho.alloc _).grow u.ok).two.1
              have p0 := fun u : Bel (wr.alloc (.cells #[.int .i64 q0, .int .i64 q1, .int .i64 q2, .int .i64 q3] 29)) => (box_punct u.w u.ok).1
              have p1 := fun u : Bel (wr.alloc (.cells #[.int .i64 q0, .int .i64 q1, .int .i64 q2, .int .i64 q3] 29)) => (box_punct u.w u.ok).2.1
              have p2 := fun u : Bel (wr.alloc (.cells #[.int .i64 q0, .int .i64 q1, .int .i64 q2, .int .i64 q3] 29)) => (box_punct u.w u.ok).2.2.1
              have p3 := fun u : Bel (wr.alloc (.cells #[.int .i64 q0, .int .i64 q1, .int .i64 q2, .int .i64 q3] 29)) => (box_punct u.w u.ok).2.2.2
              go_wp2
              refine wp_region_bel (by kernel_rfl) (by kernel_rfl) ?_
              repeat (go_big_quiet_step (first | (go_at_call 70; exact bel_of _ (punctFits_is H1.out _))))
              refine wpQuiet_nil ?_
              rintro _ ⟨u, rfl⟩
              go_wp2
              go_roundw
              case rel => exact ⟨0 + 1, by omega, by go_num, HS.out, (ho.alloc _).grow u.ok, below_trans hbel (below_trans (below_alloc _ _) u.ok)⟩
              case measure => simp [intOf]; omega
          · have H1 := Lib.hid (decide_eq_false h1)
            have HS := Lib.hid (show ¬ okL N xs ps from fun h => h1 (h.2.2.1 _ (qat_mem hlt)))
            clear h1 HO
            generalize qat ps k = q at *
            obtain ⟨q0, q1, q2, q3⟩ := q
            have n0 : ∀ u : Bel (wr.alloc (.cells #[.int .i64 q0, .int .i64 q1, .int .i64 q2, .int .i64 q3] 29)), u.w.cell? ⟨w.heap.size, 0, none⟩ = some (.int .i64 N) := fun u => ((ho.alloc _).grow u.ok).two.1
            have p0 := fun u : Bel (wr.alloc (.cells #[.int .i64 q0, .int .i64 q1, .int .i64 q2, .int .i64 q3] 29)) => (box_punct u.w u.ok).1
            have p1 := fun u : Bel (wr.alloc (.cells #[.int .i64 q0, .int .i64 q1, .int .i64 q2, .int .i64 q3] 29)) => (box_punct u.w u.ok).2.1
            have p2 := fun u : Bel (wr.alloc (.cells #[.int .i64 q0, .int .i64 q1, .int .i64 q2, .int .i64 q3] 29)) => (box_punct u.w u.ok).2.2.1
            have p3 := fun u : Bel (wr.alloc (.cells #[.int .i64 q0, .int .i64 q1, .int .i64 q2, .int .i64 q3] 29)) => (box_punct u.w u.ok).2.2.2
            go_wp2
            refine wp_region_bel (by kernel_rfl) (by kernel_rfl) ?_
            repeat (go_big_quiet_step (first | (go_at_call 70; exact bel_of _ (punctFits_is H1.out _))))
            refine wpQuiet_nil ?_
            rintro _ ⟨u, rfl⟩
            go_wp2
            go_ret
            exact ⟨ret_bool (tf_no HS.out), below_trans hbel (below_trans (below_alloc _ _) u.ok)⟩
        · have hkn : k = ps.length := by omega
          subst hkn
          have HS := Lib.hid (show okL N xs ps from ⟨HL.out, h12, okTo_iff.1 hok⟩)
          clear hok
          go_wp2
          go_ret
          exact ⟨ret_bool (tf_yes HS.out), hbel⟩
    · go_wp2
      go_ret
      exact ⟨ret_bool (tf_no (fun h => h12 h.2.1)), hB1⟩
  · refine (as_bool (tf_no hL).symm (implLatOk_any N A ca xs _ (HA.out _ (below_alloc _ _)) hu hn)).mono ?_
    have HL := Lib.hid hL
    clear hL
    rintro e w1 ⟨rfl, hb1⟩
    go_wp2
    go_ret
    exact ⟨ret_bool (tf_no (fun h => HL.out h.1)), (box_own hb1).2⟩
end Go.Proofs.Ytipcjofmplpffaa
