/-
  PolicySet and PolicyDrop, the model's: what they return.
-/
import Derived.Test.YtipcjofmplpffaaPolicyEdI
import Derived.Deep.AppendLies
import Derived.Deep.RegionLaw
namespace Go.Proofs.Ytipcjofmplpffaa
open Go.RowKit

set_option maxRecDepth 100000 in
set_option maxHeartbeats 2000000 in
theorem specPolicyDrop_any (N : Int) (A : Option Addr) (ca : Nat) (xs : List Nat) (B : Option Addr) (cb : Nat) (ps : List Pn) (a b c d : Int) (w : World) (hA : Rd w A (us xs)) (hu : U64 xs) (hn : xs.length ≤ 1048576) (hB : Rd w B (iz (qz ps))) (hm : ps.length ≤ 1048588) :
    Calls Try.prog 38 #[.agg #[.int .i64 N, .slice A xs.length ca], .slice B ps.length cb, pv a b c d] w (PolRes w (dropV N xs ps (a, b, c, d)) (tf (dropOk N xs ps (a, b, c, d)))) := by
  have HA := Lib.hid (fun W (h : Below w.heap.size w W) => hA.below h)
  have HB := Lib.hid (fun W (h : Below w.heap.size w W) => hB.below h)
  clear hA hB
  go_enter Try.func38, Try.ntmps38
  go_wp2_with fail
  refine (l04Without_any B cb ps a b c d _ (HB.out _ (below_trans (below_alloc _ _) (below_alloc _ _))) hm).mono ?_
  rintro e w1 ⟨v, rfl, hnn, hrow, hb1⟩
  obtain ⟨ho, hp, hb⟩ := box_two hb1
  replace hrow := owns_base hrow (base' := w.heap.size) (by simp; omega)
  clear hb1 hp
  obtain ⟨A1, c1, rfl, hrd⟩ := owns_rd hrow
  obtain ⟨k0, k1⟩ := ho.two
  go_wp2_with fail
  clear k0 k1 ho hrd
  by_cases hL : okL N xs ps
  · refine (as_bool (tf_yes hL).symm (specPolicyOk_any N A ca xs B cb ps _ (HA.out _ hb) hu hn (HB.out _ hb) hm)).mono ?_
    rintro e w2 ⟨rfl, hb2⟩
    replace hrow := owns_grow hrow hb2
    replace hb := below_trans hb hb2
    clear hb2
    by_cases hl : (without ps (a, b, c, d)).length = ps.length
    · have HS := Lib.hid (show ¬ dropOk N xs ps (a, b, c, d) from fun h => h.2 hl)
      have t : (((without ps (a, b, c, d)).length : Int) == (ps.length : Int)) = true := by rw [beq_iff_eq]; omega
      clear hL hl
      generalize (without ps (a, b, c, d)).length = m at *
      go_wp2
      go_ret2
      exact res_no (dropV_no HS.out) (tf_no HS.out).symm hb
    · have HS := Lib.hid (show dropOk N xs ps (a, b, c, d) from ⟨hL, hl⟩)
      have t : (((without ps (a, b, c, d)).length : Int) == (ps.length : Int)) = false := by rw [beq_eq_false_iff_ne]; omega
      clear hL hl
      have HR := Lib.hid hrow
      clear hrow
      generalize hmm : (without ps (a, b, c, d)).length = m at *
      go_wp2
      go_ret2
      refine ⟨_, by rw [← tf_yes HS.out]; rfl, ?_, hb⟩
      rw [dropV_yes HS.out, hmm]
      exact HR.out
  · refine (as_bool (tf_no hL).symm (specPolicyOk_any N A ca xs B cb ps _ (HA.out _ hb) hu hn (HB.out _ hb) hm)).mono ?_
    have HS := Lib.hid (show ¬ dropOk N xs ps (a, b, c, d) from fun h => hL h.1)
    clear hL
    rintro e w2 ⟨rfl, hb2⟩
    go_wp2
    go_ret2
    exact res_no (dropV_no HS.out) (tf_no HS.out).symm (below_trans hb hb2)
end Go.Proofs.Ytipcjofmplpffaa
