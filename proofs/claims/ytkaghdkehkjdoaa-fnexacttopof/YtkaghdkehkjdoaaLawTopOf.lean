/-
  The law on TopOf: at every two lists of integers the program answers as the model, writes into no argument, and its answer owns its memory. By genagg.py.
-/
import Derived.Test.YtkaghdkehkjdoaaTopS
import Derived.Test.YtkaghdkehkjdoaaIntsW
namespace Go.Proofs.Ytkaghdkehkjdoaa
open Go.RowKit

set_option maxRecDepth 100000 in
set_option maxHeartbeats 8000000 in
theorem fnExactTopOf_walk (A : Option Addr) (ca : Nat) (xs : List Int) (B : Option Addr) (cb : Nat) (ys : List Int) (w : World) (hA : Rd w A (iz xs)) (hn : xs.length ≤ 9223372036854775807) (hB : Rd w B (iz ys)) (hk : ys.length ≤ 9223372036854775807) :
    Calls Try.prog 10 #[.slice A xs.length ca, .slice B ys.length cb] w fun e w' => e = .returned (.bool true) ∧ Below w.heap.size w w' := by
  have HA := Lib.hid (fun W (h : Below w.heap.size w W) => hA.below h)
  have HB := Lib.hid (fun W (h : Below w.heap.size w W) => hB.below h)
  clear hA hB
  by_cases hl2 : xs.length ≤ 1048576
  · by_cases hp : ys.length ≤ 1048576
    · have hm0 := topOf_length (xs ++ ys)
      obtain ⟨m, HM0⟩ : ∃ m, Hid ((topOf (xs ++ ys)).length = m) := ⟨_, Lib.hid rfl⟩
      have hm : m ≤ 1048576 := by have := HM0.out; omega
      have HS := Lib.hid (fun g g' W (h : Rd W (some ⟨g, 0, none⟩) (iz xs)) (h' : Rd W (some ⟨g', 0, none⟩) (iz ys)) => (specTopOf_any (some ⟨g, 0, none⟩) xs.length xs.length xs (some ⟨g', 0, none⟩) ys.length ys.length ys W h rfl hl2 (sfit_nn g _) h' rfl hp (sfit_nn g' _)).mono fun _ _ h => ints_at h HM0.out)
      have HI := Lib.hid (fun g g' W (h : Rd W (some ⟨g, 0, none⟩) (iz xs)) (h' : Rd W (some ⟨g', 0, none⟩) (iz ys)) => (implTopOf_any (some ⟨g, 0, none⟩) xs.length xs.length xs (some ⟨g', 0, none⟩) ys.length ys.length ys W h rfl hl2 h' rfl hp).mono fun _ _ h => ints_at h HM0.out)
      clear hm0
      generalize topOf (xs ++ ys) = rs at *
      have HM := HM0
      clear HM0
      obtain ⟨q0, HQ0⟩ : ∃ q0 : Int, Hid (1 + (xs.length : Int) = q0) := ⟨_, Lib.hid rfl⟩
      obtain ⟨q2, HQ2⟩ : ∃ q2 : Int, Hid (q0 + (ys.length : Int) = q2) := ⟨_, Lib.hid rfl⟩
      have hp0 : 0 ≤ q0 := by have := HQ0.out; omega
      have hp3 : ¬ q2 < 0 := by have := HQ2.out; omega
      obtain ⟨q1, HQ⟩ : ∃ q1 : Int, Hid (1 + (m : Int) = q1) := ⟨_, Lib.hid rfl⟩
      have hne2 : (q1 != q1) = false := by simp
      have hp2 : ¬ q1 < 0 := by have := HQ.out; omega
      have hb := Below.refl w.heap.size w
      go_enter Try.func10, Try.ntmps10
      go_wp2_with fail
      refine (toIntS_w A xs.length ca xs _ (HA.out _ hb) rfl hl2).mono ?_
      rintro e w2 ⟨g2, rfl, p1, hb2⟩
      have z2 := hb2.size
      replace hb := below_trans hb hb2
      clear hb2
      go_wp2_with fail
      refine (toIntS_w B ys.length cb ys _ (HB.out _ hb) rfl hp).mono ?_
      rintro e w3 ⟨g3, rfl, p2, hb3⟩
      have z3 := hb3.size
      replace p1 := p1.grow hb3
      replace hb := below_trans hb hb3
      clear hb3
      go_wp2_with fail
      refine (HS.out _ _ _ p1.reads p2.reads).mono ?_
      rintro e w4 ⟨A0, c0, rfl, r0, hb4⟩
      have z4 := hb4.size
      replace p1 := p1.grow hb4
      replace p2 := p2.grow hb4
      replace hb := below_trans hb hb4
      clear hb4
      clear p1
      clear p2
      go_wp2_with fail
      refine (toIntS_w A xs.length ca xs _ (HA.out _ hb) rfl hl2).mono ?_
      rintro e w5 ⟨g5, rfl, rx, hb5⟩
      have z5 := hb5.size
      replace r0 := r0.grow hb5
      replace hb := below_trans hb hb5
      clear hb5
      go_wp2_with fail
      refine (toIntS_w B ys.length cb ys _ (HB.out _ hb) rfl hp).mono ?_
      rintro e w6 ⟨g6, rfl, ry, hb6⟩
      have z6 := hb6.size
      replace r0 := r0.grow hb6
      replace rx := rx.grow hb6
      replace hb := below_trans hb hb6
      clear hb6
      go_wp2_with fail
      refine (HI.out _ _ _ rx.reads ry.reads).mono ?_
      rintro e w7 ⟨A1, c1, rfl, r1, hb7⟩
      have z7 := hb7.size
      replace r0 := r0.grow hb7
      replace rx := rx.grow hb7
      replace ry := ry.grow hb7
      replace hb := below_trans hb hb7
      clear hb7
      go_wp2_with fail
      refine (eqIntS_same A1 A0 m c1 c0 rs _ r1.reads r0.reads HM.out hm).mono ?_
      rintro e w8 ⟨rfl, hb8⟩
      have z8 := hb8.size
      replace r0 := r0.grow hb8
      replace rx := rx.grow hb8
      replace ry := ry.grow hb8
      replace r1 := r1.grow hb8
      replace hb := below_trans hb hb8
      clear hb8
      go_wp2_with fail
      refine (toIntS_w A xs.length ca xs _ (HA.out _ hb) rfl hl2).mono ?_
      rintro e w9 ⟨g8, rfl, r6, hb9⟩
      have z9 := hb9.size
      replace r0 := r0.grow hb9
      replace rx := rx.grow hb9
      replace ry := ry.grow hb9
      replace r1 := r1.grow hb9
      replace hb := below_trans hb hb9
      clear hb9
      go_wp2_with fail
      refine (eqIntS_same _ _ xs.length _ _ xs _ rx.reads r6.reads rfl hl2).mono ?_
      rintro e w10 ⟨rfl, hb10⟩
      have z10 := hb10.size
      replace r0 := r0.grow hb10
      replace rx := rx.grow hb10
      replace ry := ry.grow hb10
      replace r1 := r1.grow hb10
      replace r6 := r6.grow hb10
      replace hb := below_trans hb hb10
      clear hb10
      clear r6
      go_wp2_with fail
      refine (toIntS_w B ys.length cb ys _ (HB.out _ hb) rfl hp).mono ?_
      rintro e w11 ⟨g9, rfl, r7, hb11⟩
      have z11 := hb11.size
      replace r0 := r0.grow hb11
      replace rx := rx.grow hb11
      replace ry := ry.grow hb11
      replace r1 := r1.grow hb11
      replace hb := below_trans hb hb11
      clear hb11
      go_wp2_with fail
      refine (eqIntS_same _ _ ys.length _ _ ys _ ry.reads r7.reads rfl hp).mono ?_
      rintro e w12 ⟨rfl, hb12⟩
      have z12 := hb12.size
      replace r0 := r0.grow hb12
      replace rx := rx.grow hb12
      replace ry := ry.grow hb12
      replace r1 := r1.grow hb12
      replace r7 := r7.grow hb12
      replace hb := below_trans hb hb12
      clear hb12
      clear r7
      go_wp2_with fail
      refine (as_int HQ0.out (markIntS_at _ _ _ xs.length xs 1 _ rx (by omega) (by omega) rfl hl2)).mono ?_
      rintro e w13 ⟨rfl, rxm, hO⟩
      have z13 := hO.size
      replace r0 := r0.move (hO.same (.inl (by omega)) (by omega))
      replace ry := ry.move (hO.same (.inr (by omega)) (by omega))
      replace r1 := r1.move (hO.same (.inr (by omega)) (by omega))
      replace hb := below_only hb hO (by omega) (by omega)
      clear hO rx
      clear rxm
      go_wp2_with fail
      refine (as_int HQ2.out (markIntS_at _ _ _ ys.length ys q0 _ ry hp0 (by have := HQ0.out; omega) rfl hp)).mono ?_
      rintro e w14 ⟨rfl, rym, hO⟩
      have z14 := hO.size
      replace r0 := r0.move (hO.same (.inl (by omega)) (by omega))
      replace r1 := r1.move (hO.same (.inr (by omega)) (by omega))
      replace hb := below_only hb hO (by omega) (by omega)
      clear hO ry
      clear rym
      go_wp2_with fail
      refine (eqIntS_same A1 A0 m c1 c0 rs _ r1.reads r0.reads HM.out hm).mono ?_
      rintro e w15 ⟨rfl, hb15⟩
      have z15 := hb15.size
      replace r0 := r0.grow hb15
      replace r1 := r1.grow hb15
      replace hb := below_trans hb hb15
      clear hb15
      go_wp2_with fail
      refine (as_int HQ.out (markIntS_at _ _ _ m rs 1 _ r1 (by omega) (by omega) HM.out hm)).mono ?_
      rintro e w16 ⟨rfl, r1m, hO⟩
      have z16 := hO.size
      replace r0 := r0.move (hO.same (.inl (by omega)) (by omega))
      replace hb := below_only hb hO (by omega) (by omega)
      clear hO r1
      go_wp2_with fail
      refine (as_int HQ.out (heldIntS_any A1 c1 m 1 _ r1m.reads (by omega) (by omega) hm)).mono ?_
      rintro e _ ⟨rfl, rfl⟩
      go_wp2_with fail
      refine (toIntS_w A xs.length ca xs _ (HA.out _ hb) rfl hl2).mono ?_
      rintro e w17 ⟨g12, rfl, p1, hb17⟩
      have z17 := hb17.size
      replace r0 := r0.grow hb17
      replace r1m := r1m.grow hb17
      replace hb := below_trans hb hb17
      clear hb17
      go_wp2_with fail
      refine (toIntS_w B ys.length cb ys _ (HB.out _ hb) rfl hp).mono ?_
      rintro e w18 ⟨g13, rfl, p2, hb18⟩
      have z18 := hb18.size
      replace r0 := r0.grow hb18
      replace r1m := r1m.grow hb18
      replace p1 := p1.grow hb18
      replace hb := below_trans hb hb18
      clear hb18
      go_wp2_with fail
      refine (HI.out _ _ _ p1.reads p2.reads).mono ?_
      rintro e w19 ⟨A2, c2, rfl, r2, hb19⟩
      have z19 := hb19.size
      replace r0 := r0.grow hb19
      replace r1m := r1m.grow hb19
      replace p1 := p1.grow hb19
      replace p2 := p2.grow hb19
      replace hb := below_trans hb hb19
      clear hb19
      clear p1
      clear p2
      go_wp2_with fail
      refine (eqIntS_same A2 A0 m c2 c0 rs _ r2.reads r0.reads HM.out hm).mono ?_
      rintro e w20 ⟨rfl, hb20⟩
      have z20 := hb20.size
      replace r0 := r0.grow hb20
      replace r1m := r1m.grow hb20
      replace r2 := r2.grow hb20
      replace hb := below_trans hb hb20
      clear hb20
      go_wp2_with fail
      refine (as_int HQ.out (heldIntS_any A1 c1 m 1 _ r1m.reads (by omega) (by omega) hm)).mono ?_
      rintro e _ ⟨rfl, rfl⟩
      clear r0 r1m r2
      go_wp2
      go_ret
      exact ⟨rfl, hb⟩
    · have hp' : 1048576 < (ys.length : Int) := by omega
      go_enter Try.func10, Try.ntmps10
      go_wp2
      go_ret
      exact ⟨rfl, Below.refl _ _⟩
  · have hl' : 1048576 < (xs.length : Int) := by omega
    go_enter Try.func10, Try.ntmps10
    go_wp2
    go_ret
    exact ⟨rfl, Below.refl _ _⟩
end Go.Proofs.Ytkaghdkehkjdoaa
