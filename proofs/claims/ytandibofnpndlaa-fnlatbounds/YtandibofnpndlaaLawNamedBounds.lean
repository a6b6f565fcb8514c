/-
  laws.FnLatBounds returns true.
-/
import Derived.Test.YtandibofnpndlaaDrawB
import Derived.Test.YtandibofnpndlaaLawPick
import Derived.Test.YtandibofnpndlaaNamedMathB
import Derived.Test.YtandibofnpndlaaLawNamedDown
import Derived.Deep.DeepCutAuto
import Derived.Deep.CutBlock
namespace Go.Proofs.Ytandibofnpndlaa
open Go.RowKit

section
variable (N : Int) (R : Option Addr) (m cR : Nat) (xs : List Nat) (a b v : Int) (w : World) (hR : Rd w R (us xs)) (hu : U64 xs) (hm : xs.length = m) (hn : m ≤ 9)
  include hR hu hm hn
theorem implJoin_at (hv : boundV N xs true a b = v) : Calls Try.prog 23 #[.agg #[.int .i64 N, .slice R m cR], .int .i64 a, .int .i64 b] w fun e w' => e = .returned (.int .i64 v) ∧ Below w.heap.size w w' := by
  subst hm; exact as_int hv (implLatJoin_any N R cR xs a b w hR hu (by omega))
theorem implMeet_at (hv : boundV N xs false a b = v) : Calls Try.prog 24 #[.agg #[.int .i64 N, .slice R m cR], .int .i64 a, .int .i64 b] w fun e w' => e = .returned (.int .i64 v) ∧ Below w.heap.size w w' := by
  subst hm; exact as_int hv (implLatMeet_any N R cR xs a b w hR hu (by omega))
theorem specJoin_at (hv : boundV N xs true a b = v) : Calls Try.prog 25 #[.agg #[.int .i64 N, .slice R m cR], .int .i64 a, .int .i64 b] w fun e w' => e = .returned (.int .i64 v) ∧ Below w.heap.size w w' := by
  subst hm; exact as_int hv (specLatJoin_any N R cR xs a b w hR hu (by omega))
theorem specMeet_at (hv : boundV N xs false a b = v) : Calls Try.prog 26 #[.agg #[.int .i64 N, .slice R m cR], .int .i64 a, .int .i64 b] w fun e w' => e = .returned (.int .i64 v) ∧ Below w.heap.size w w' := by
  subst hm; exact as_int hv (specLatMeet_any N R cR xs a b w hR hu (by omega))
end
theorem implEnds_at (N : Int) (R : Option Addr) (m cR : Nat) (xs : List Nat) (lo hi : Int) (w : World) (hR : Rd w R (us xs)) (hu : U64 xs) (hm : xs.length = m) (hn : m ≤ 9) (h1 : endV N xs false = lo) (h2 : endV N xs true = hi) :
    Calls Try.prog 28 #[.agg #[.int .i64 N, .slice R m cR]] w fun e w' => e = .returned (.tuple #[.int .i64 lo, .int .i64 hi]) ∧ Below w.heap.size w w' := by
  subst hm; subst h1; subst h2; exact implLatEnds_any N R cR xs w hR hu (by omega)

set_option maxRecDepth 100000 in
set_option maxHeartbeats 8000000 in
theorem fnLatBounds_walk (A : Option Addr) (c n : Nat) (w : World) (hA : Byt w A n w.heap.size) (hn : n ≤ 9223372036854775807) :
    Calls Try.prog 4 #[.slice A n c] w fun e w' => e = .returned (.bool true) ∧ Below w.heap.size w w' := by
  by_cases hb : 1048576 < n
  · go_enter Try.func4, Try.ntmps4
    go_wp2_with fail
    refine (big_any A n c true _ (by simpa using hb) hn).mono ?_
    rintro e w' ⟨rfl, rfl⟩
    go_wp2
    go_ret
    exact ⟨rfl, Below.refl _ _⟩
  · go_enter Try.func4, Try.ntmps4
    go_wp2_with fail
    refine (big_any A n c false _ (by simpa using hb) hn).mono ?_
    rintro e w' ⟨rfl, rfl⟩
    go_wp2_with fail
    refine (drawJoin_any A n c _ hA (by omega)).mono ?_
    rintro e w1 ⟨N, rr, xs, a, b, rfl, hu, hx9, hrow, hb1⟩
    obtain ⟨R, cR, rfl, hR⟩ := owns_rd hrow
    have HR := Lib.hid (fun W (h : Below w1.heap.size w1 W) => hR.below h)
    have HA := Lib.hid (fun W (h : Below w.heap.size w W) => hA.below h)
    clear hR hrow hA
    have hq : ∃ jv mv, boundV N xs true a b = jv ∧ boundV N xs false a b = mv := ⟨_, _, rfl, rfl⟩
    obtain ⟨jv, mv, hj, hm'⟩ := hq
    have HJ := Lib.hid hj
    have HMt := Lib.hid hm'
    generalize hm : xs.length = m at hx9 ⊢
    have HM := Lib.hid hm
    clear hm hj hm'
    go_wp2_with fail
    refine (implJoin_at N R m cR xs a b jv _ (HR.out _ (below_alloc _ _)) hu HM.out hx9 HJ.out).mono ?_
    rintro e w2 ⟨rfl, hb2⟩
    obtain ⟨hO, hb2'⟩ := box_own (cs := [.int .i64 N, .slice R m cR]) hb2
    have hbw := below_trans hb1 hb2'
    have HR2 := Lib.hid (fun W (h : Below w2.heap.size w2 W) => HR.out W (below_trans hb2' h))
    have HO := Lib.hid (fun W (h : Below w2.heap.size w2 W) => hO.grow h)
    obtain ⟨c0, c1⟩ := hO.two
    clear hb2 hb2' hO HR hb1
    generalize w1.heap.size = lx at *
    go_wp2_with fail
    refine (implMeet_at N R m cR xs a b mv _ (HR2.out _ (Below.refl _ _)) hu HM.out hx9 HMt.out).mono ?_
    rintro e w3 ⟨rfl, hb3⟩
    clear c0 c1
    obtain ⟨c0, c1⟩ := (HO.out _ hb3).two
    have hne1 : (jv != jv) = false := by simp
    have hne2 : (mv != mv) = false := by simp
    go_wp2_with fail
    refine (specJoin_at N R m cR xs a b jv _ (HR2.out _ hb3) hu HM.out hx9 HJ.out).mono ?_
    rintro e w4 ⟨rfl, hq⟩
    have hb4 := below_trans hb3 hq
    clear hq c0 c1
    obtain ⟨c0, c1⟩ := (HO.out _ hb4).two
    go_wp2_with fail
    refine (specMeet_at N R m cR xs a b mv _ (HR2.out _ hb4) hu HM.out hx9 HMt.out).mono ?_
    rintro e w5 ⟨rfl, hq⟩
    have hb5 := below_trans hb4 hq
    clear hq c0 c1
    obtain ⟨c0, c1⟩ := (HO.out _ hb5).two
    have heq1 : (jv == jv) = true := by simp
    have heq2 : (mv == mv) = true := by simp
    by_cases hval : LatP N xs ∧ Lab xs a ∧ Lab xs b
    · obtain ⟨hL, hla, hlb⟩ := hval
      obtain ⟨a, rfl⟩ := Int.eq_ofNat_of_zero_le hla.1
      obtain ⟨b, rfl⟩ := Int.eq_ofNat_of_zero_le hlb.1
      have ha : a < xs.length := by have := hla.2; omega
      have hbl : b < xs.length := by have := hlb.2; omega
      obtain ⟨j, hj, ej, hJB⟩ := hL.bound_ok true ha hbl
      obtain ⟨mt, hmt, em, hMB⟩ := hL.bound_ok false ha hbl
      obtain rfl : jv = (j : Int) := by rw [← HJ.out, ← boundV_yes hL ha hbl, ej]
      obtain rfl : mv = (mt : Int) := by rw [← HMt.out, ← boundV_yes hL ha hbl, em]
      obtain ⟨B1, B2, B3, B4, B5, B6⟩ := bounds_of hL ha hbl hj hmt hJB hMB
      obtain ⟨lo, hlo, elo', hloA⟩ := hL.end_all false (by omega)
      obtain ⟨hi, hhi, ehi', hhiA⟩ := hL.end_all true (by omega)
      obtain ⟨eN, _, _⟩ := hL.len
      have eN' : N = (m : Int) := by rw [← eN, HM.out]
      subst eN'
      have hm1 : 1 ≤ m := by have := HM.out; omega
      have hcomm : boundV (m : Int) xs true b a = (j : Int) := by rw [← boundV_yes hL hbl ha, bound_comm, ej]
      have HC := Lib.hid hcomm
      have HLo := Lib.hid (show endV (m : Int) xs false = (lo : Int) by rw [endV_yes hL, elo'])
      have HHi := Lib.hid (show endV (m : Int) xs true = (hi : Int) by rw [endV_yes hL, ehi'])
      have HV := Lib.hid (show LatP (m : Int) xs ∧ a < xs.length ∧ b < xs.length ∧ j < xs.length ∧ mt < xs.length ∧ lo < xs.length ∧ hi < xs.length from ⟨hL, ha, hbl, hj, hmt, hlo, hhi⟩)
      have HB := Lib.hid (show _ ∧ _ ∧ _ ∧ _ ∧ _ ∧ _ from ⟨B1, B2, B3, B4, B5, B6⟩)
      have HEA := Lib.hid (show _ ∧ _ from ⟨hloA, hhiA⟩)
      clear hL hla hlb ha hbl hj hmt hJB hMB ej em B1 B2 B3 B4 B5 B6 hlo hhi elo' ehi' hloA hhiA eN hcomm
      have hj0 : ¬ ((j : Int) < 0) := by omega
      go_wp2_with fail
      refine (lawPick_any A n c m _ (fun k hk => by obtain ⟨ad, q, e, hl, r⟩ := HA.out _ (below_trans hbw hb5) k hk; have := (below_trans hbw hb5).size; exact ⟨ad, q, e, by omega, r⟩) (by omega) hm1 (by omega)).mono ?_
      rintro e w6 ⟨cc, rfl, hcc, hq⟩
      have hb6 := below_trans hb5 hq
      clear hq c0 c1
      obtain ⟨c0, c1⟩ := (HO.out _ hb6).two
      have hcl : cc < xs.length := by rw [HM.out]; exact hcc
      have HCl := Lib.hid hcl
      clear hcl
      go_wp2_with fail
      refine (implEnds_at m R m cR xs lo hi _ (HR2.out _ hb6) hu HM.out hx9 HLo.out HHi.out).mono ?_
      rintro e w7 ⟨rfl, hq⟩
      have hb7 := below_trans hb6 hq
      clear hq c0 c1
      obtain ⟨c0, c1⟩ := (HO.out _ hb7).two
      have L5 := Lib.hid ((leV_le HV.out.1 HV.out.2.1 HV.out.2.2.2.1).trans HB.out.1)
      have L6 := Lib.hid ((leV_le HV.out.1 HV.out.2.2.1 HV.out.2.2.2.1).trans HB.out.2.1)
      have L10 := Lib.hid ((leV_le HV.out.1 HV.out.2.2.2.2.2.1 HCl.out).trans (HEA.out.1 cc HCl.out))
      have L11 := Lib.hid ((leV_le HV.out.1 HCl.out HV.out.2.2.2.2.2.2).trans (HEA.out.2 cc HCl.out))
      have L1 := Lib.hid (leV_le HV.out.1 HV.out.2.1 HCl.out)
      have L2 := Lib.hid (leV_le HV.out.1 HV.out.2.2.1 HCl.out)
      have L3 := Lib.hid (leV_le HV.out.1 HCl.out HV.out.2.1)
      have L4 := Lib.hid (leV_le HV.out.1 HCl.out HV.out.2.2.1)
      have L7 := Lib.hid ((leV_le HV.out.1 HV.out.2.2.2.1 HCl.out).trans (HB.out.2.2.1 cc HCl.out))
      have L8 := Lib.hid ((leV_le HV.out.1 HCl.out HV.out.2.2.2.2.1).trans (HB.out.2.2.2.1 cc HCl.out))
      obtain ⟨E, e0, e1, e2⟩ : ∃ E : Bool, leV (m : Int) xs a b = E ∧ ((j : Int) == (b : Int)) = E ∧ ((mt : Int) == (a : Int)) = E := by
        refine ⟨leV (m : Int) xs a b, rfl, ?_, ?_⟩
        · rw [leV_le HV.out.1 HV.out.2.1 HV.out.2.2.1, Bool.eq_iff_iff, HB.out.2.2.2.2.1]; simp; omega
        · rw [leV_le HV.out.1 HV.out.2.1 HV.out.2.2.1, Bool.eq_iff_iff, HB.out.2.2.2.2.1, ← HB.out.2.2.2.2.2]; simp; omega
      have L9 := Lib.hid e0
      clear hb3 hb4 hb5 hb6 e0 HV HB HEA HCl HLo HHi hj0 hm1 hcc HJ HMt
      generalize le xs a cc = t1 at *
      generalize le xs b cc = t2 at *
      generalize le xs cc a = t3 at *
      generalize le xs cc b = t4 at *
      generalize (a : Int) = ai at *
      generalize (b : Int) = bi at *
      generalize (j : Int) = ji at *
      generalize (mt : Int) = mi at *
      generalize (cc : Int) = ci at *
      generalize (lo : Int) = li at *
      generalize (hi : Int) = hii at *
      generalize hNi : (m : Int) = Ni at *
      clear hNi
      go_upto_region 10 with (fail)
      go_cut [11] (fun s11 wx => s11 = .bool (t1 && t2) ∧ Below w2.heap.size w2 wx)
      case first =>
        go_wp2_with fail
        refine (implLe_at Ni R m cR xs _ _ _ _ (HR2.out _ hb7) hu HM.out hx9 L1.out).mono ?_
        rintro e w8 ⟨rfl, hq⟩
        replace hb7 := below_trans hb7 hq
        clear hq c0 c1
        obtain ⟨c0, c1⟩ := (HO.out _ hb7).two
        cases t1 with
        | false =>
          go_wp2
          go_meet
          case rel => exact ⟨rfl, hb7⟩
        | true =>
          go_wp2_with fail
          refine (implLe_at Ni R m cR xs _ _ _ _ (HR2.out _ hb7) hu HM.out hx9 L2.out).mono ?_
          rintro e w9 ⟨rfl, hq⟩
          replace hb7 := below_trans hb7 hq
          clear hq c0 c1
          obtain ⟨c0, c1⟩ := (HO.out _ hb7).two
          go_wp2
          go_meet
          case rel => exact ⟨by simp, hb7⟩
      case rest =>
      obtain ⟨rfl, hbc⟩ := hcut
      clear c0 c1 hb7
      have hb7 := hbc
      clear hbc
      obtain ⟨c0, c1⟩ := (HO.out _ hb7).two
      go_upto_region 11 with (fail)
      go_cut [12] (fun s12 wx => s12 = .bool (t3 && t4) ∧ Below w2.heap.size w2 wx)
      case first =>
        go_wp2_with fail
        refine (implLe_at Ni R m cR xs _ _ _ _ (HR2.out _ hb7) hu HM.out hx9 L3.out).mono ?_
        rintro e w8 ⟨rfl, hq⟩
        replace hb7 := below_trans hb7 hq
        clear hq c0 c1
        obtain ⟨c0, c1⟩ := (HO.out _ hb7).two
        cases t3 with
        | false =>
          go_wp2
          go_meet
          case rel => exact ⟨rfl, hb7⟩
        | true =>
          go_wp2_with fail
          refine (implLe_at Ni R m cR xs _ _ _ _ (HR2.out _ hb7) hu HM.out hx9 L4.out).mono ?_
          rintro e w9 ⟨rfl, hq⟩
          replace hb7 := below_trans hb7 hq
          clear hq c0 c1
          obtain ⟨c0, c1⟩ := (HO.out _ hb7).two
          go_wp2
          go_meet
          case rel => exact ⟨by simp, hb7⟩
      case rest =>
      obtain ⟨rfl, hbc⟩ := hcut
      clear c0 c1 hb7
      have hb7 := hbc
      clear hbc
      obtain ⟨c0, c1⟩ := (HO.out _ hb7).two
      generalize (t1 && t2) = T1 at *
      generalize (t3 && t4) = T2 at *
      have b1 : (T1 == T1) = true := by simp
      have b2 : (T2 == T2) = true := by simp
      have b3 : (E == E) = true := by simp
      have b4 : (ji == ji) = true := by simp
      go_wp2_with fail
      refine (implLe_at Ni R m cR xs _ _ _ _ (HR2.out _ hb7) hu HM.out hx9 L5.out).mono ?_
      rintro e w8 ⟨rfl, hq⟩
      replace hb7 := below_trans hb7 hq
      clear hq c0 c1
      obtain ⟨c0, c1⟩ := (HO.out _ hb7).two
      go_wp2_with fail
      refine (implLe_at Ni R m cR xs _ _ _ _ (HR2.out _ hb7) hu HM.out hx9 L6.out).mono ?_
      rintro e w8 ⟨rfl, hq⟩
      replace hb7 := below_trans hb7 hq
      clear hq c0 c1
      obtain ⟨c0, c1⟩ := (HO.out _ hb7).two
      go_wp2_with fail
      refine (implLe_at Ni R m cR xs _ _ _ _ (HR2.out _ hb7) hu HM.out hx9 L7.out).mono ?_
      rintro e w8 ⟨rfl, hq⟩
      replace hb7 := below_trans hb7 hq
      clear hq c0 c1
      obtain ⟨c0, c1⟩ := (HO.out _ hb7).two
      go_wp2_with fail
      refine (implLe_at Ni R m cR xs _ _ _ _ (HR2.out _ hb7) hu HM.out hx9 L8.out).mono ?_
      rintro e w8 ⟨rfl, hq⟩
      replace hb7 := below_trans hb7 hq
      clear hq c0 c1
      obtain ⟨c0, c1⟩ := (HO.out _ hb7).two
      go_wp2_with fail
      refine (implLe_at Ni R m cR xs _ _ _ _ (HR2.out _ hb7) hu HM.out hx9 L9.out).mono ?_
      rintro e w8 ⟨rfl, hq⟩
      replace hb7 := below_trans hb7 hq
      clear hq c0 c1
      obtain ⟨c0, c1⟩ := (HO.out _ hb7).two
      go_wp2_with fail
      refine (implLe_at Ni R m cR xs _ _ _ _ (HR2.out _ hb7) hu HM.out hx9 L10.out).mono ?_
      rintro e w8 ⟨rfl, hq⟩
      replace hb7 := below_trans hb7 hq
      clear hq c0 c1
      obtain ⟨c0, c1⟩ := (HO.out _ hb7).two
      go_wp2_with fail
      refine (implLe_at Ni R m cR xs _ _ _ _ (HR2.out _ hb7) hu HM.out hx9 L11.out).mono ?_
      rintro e w8 ⟨rfl, hq⟩
      replace hb7 := below_trans hb7 hq
      clear hq c0 c1
      obtain ⟨c0, c1⟩ := (HO.out _ hb7).two
      go_wp2_with fail
      refine (implJoin_at Ni R m cR xs _ _ _ _ (HR2.out _ hb7) hu HM.out hx9 HC.out).mono ?_
      rintro e w8 ⟨rfl, hq⟩
      replace hb7 := below_trans hb7 hq
      clear hq c0 c1
      go_wp2
      go_ret
      exact ⟨ret_bool (by simp), below_trans hbw hb7⟩
    · obtain rfl : jv = -1 := by rw [← HJ.out]; exact (boundV_no hval).symm
      have Hv := Lib.hid hval
      clear hval
      go_wp2_with fail
      refine (specJoin_at N R m cR xs a b (-1) _ (HR2.out _ hb5) hu HM.out hx9 HJ.out).mono ?_
      rintro e w6 ⟨rfl, hq⟩
      have hb6 := below_trans hb5 hq
      clear hq c0 c1
      obtain ⟨c0, c1⟩ := (HO.out _ hb6).two
      go_wp2_with fail
      refine (specMeet_at N R m cR xs a b mv _ (HR2.out _ hb6) hu HM.out hx9 HMt.out).mono ?_
      rintro e w7 ⟨rfl, hq⟩
      have hb7 := below_trans hb6 hq
      clear hq c0 c1
      obtain ⟨c0, c1⟩ := (HO.out _ hb7).two
      go_wp2
      go_ret
      exact ⟨ret_bool (by simp), below_trans hbw hb7⟩

end Go.Proofs.Ytandibofnpndlaa
