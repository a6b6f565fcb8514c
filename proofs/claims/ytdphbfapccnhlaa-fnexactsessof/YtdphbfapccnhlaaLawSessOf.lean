/-
  The law on SessOf: at every definition and list of times the program answers as the model, writes into no argument, and its answer owns its memory. By genwin.py.
-/
import Derived.Test.YtdphbfapccnhlaaSOfI
import Derived.Test.YtdphbfapccnhlaaLawSessAdd
import Derived.Test.YtdphbfapccnhlaaIntsKit
namespace Go.Proofs.Ytdphbfapccnhlaa
open Go.RowKit

set_option maxRecDepth 100000 in
set_option maxHeartbeats 8000000 in
theorem fnExactSessOf_walk (k s t : Int) (A : Option Addr) (ca : Nat) (ts : List Int) (w : World) (hA : Rd w A (iz ts)) (hn : ts.length ≤ 9223372036854775807) :
    Calls Try.prog 11 #[.agg #[.int .i64 k, .int .i64 s, .int .i64 t], .slice A ts.length ca] w fun e w' => e = .returned (.bool true) ∧ Below w.heap.size w w' := by
  have HA := Lib.hid (fun W (h : Below w.heap.size w W) => hA.below h)
  clear hA
  by_cases hl : (ts.length : Int) ≤ 1048576
  · have hl2 : ts.length ≤ 1048576 := by omega
    have hm0 := sessOf_len k s t ts
    obtain ⟨m, HM0⟩ : ∃ m, Hid ((sessOf k s t ts).length = m) := ⟨_, Lib.hid rfl⟩
    have hm : m ≤ 1048576 := by have := HM0.out; omega
    have HS := Lib.hid (fun g W (h : Rd W (some ⟨g, 0, none⟩) (iz ts)) => (specSessOf_any k s t (some ⟨g, 0, none⟩) ts.length ts.length ts W h rfl hl2).mono fun _ _ h => wb_at h HM0.out)
    have HI := Lib.hid (fun g W (h : Rd W (some ⟨g, 0, none⟩) (iz ts)) => (implSessOf_any k s t (some ⟨g, 0, none⟩) ts.length ts.length ts W h rfl hl2).mono fun _ _ h => wb_at h HM0.out)
    clear hm0
    generalize sessOf k s t ts = rs at *
    generalize tf (ofOk k s t ts) = T at *
    have HM := HM0
    clear HM0
    obtain ⟨q0, HQ0⟩ : ∃ q0 : Int, Hid (1 + ((ts.length : Nat) : Int) = q0) := ⟨_, Lib.hid rfl⟩
    have hp0 : ¬ q0 < 0 := by have := HQ0.out; omega
    obtain ⟨q1, HQ⟩ : ∃ q1 : Int, Hid (1 + ((m * 2 : Nat) : Int) = q1) := ⟨_, Lib.hid rfl⟩
    have hne0 : (T != T) = false := by simp
    have hne2 : (q1 != q1) = false := by simp
    have hp2 : ¬ q1 < 0 := by have := HQ.out; omega
    go_enter Try.func11, Try.ntmps11
    have hb := below_alloc w (.cells #[.int .i64 k, .int .i64 s, .int .i64 t] 45)
    have ho := Own.new w 45 [.int .i64 k, .int .i64 s, .int .i64 t]
    have z0 : w.heap.size < (w.alloc (.cells #[.int .i64 k, .int .i64 s, .int .i64 t] 45)).heap.size := by simp
    obtain ⟨hoc0, hoc1, hoc2⟩ := ho.three
    go_wp2_with fail
    clear hoc0 hoc1 hoc2
    refine (toWinDef_any k s t _).mono ?_
    rintro e w2 ⟨rfl, hb2⟩
    have z2 := hb2.size
    replace ho := ho.grow hb2
    replace hb := below_trans hb hb2
    clear hb2
    go_wp2_with fail
    refine (toIntS_at A ca ts _ (HA.out _ hb) hl2).mono ?_
    rintro e w3 ⟨g3, rfl, p1, hb3⟩
    have z3 := hb3.size
    replace ho := ho.grow hb3
    replace hb := below_trans hb hb3
    clear hb3
    go_wp2_with fail
    refine (HS.out _ _ p1.reads).mono ?_
    rintro e w4 ⟨A0, c0, rfl, r0, hb4⟩
    have z4 := hb4.size
    replace ho := ho.grow hb4
    replace p1 := p1.grow hb4
    replace hb := below_trans hb hb4
    clear hb4
    clear p1
    go_wp2_with fail
    refine (toIntS_at A ca ts _ (HA.out _ hb) hl2).mono ?_
    rintro e w5 ⟨g5, rfl, rx, hb5⟩
    have z5 := hb5.size
    replace ho := ho.grow hb5
    replace r0 := r0.grow hb5
    replace hb := below_trans hb hb5
    clear hb5
    obtain ⟨hoc0, hoc1, hoc2⟩ := ho.three
    go_wp2_with fail
    clear hoc0 hoc1 hoc2
    refine (toWinDef_any k s t _).mono ?_
    rintro e w6 ⟨rfl, hb6⟩
    have z6 := hb6.size
    replace ho := ho.grow hb6
    replace r0 := r0.grow hb6
    replace rx := rx.grow hb6
    replace hb := below_trans hb hb6
    clear hb6
    go_wp2_with fail
    refine (HI.out _ _ rx.reads).mono ?_
    rintro e w7 ⟨A1, c1, rfl, r1, hb7⟩
    have z7 := hb7.size
    replace ho := ho.grow hb7
    replace r0 := r0.grow hb7
    replace rx := rx.grow hb7
    replace hb := below_trans hb hb7
    clear hb7
    go_wp2_with fail
    refine (eqWinS_w A1 A0 m c1 c0 rs _ r1.reads r0.reads HM.out hm).mono ?_
    rintro e w8 ⟨rfl, hb8⟩
    have z8 := hb8.size
    replace ho := ho.grow hb8
    replace r0 := r0.grow hb8
    replace rx := rx.grow hb8
    replace r1 := r1.grow hb8
    replace hb := below_trans hb hb8
    clear hb8
    go_wp2_with fail
    refine (toIntS_at A ca ts _ (HA.out _ hb) hl2).mono ?_
    rintro e w9 ⟨g8, rfl, r6, hb9⟩
    have z9 := hb9.size
    replace ho := ho.grow hb9
    replace r0 := r0.grow hb9
    replace rx := rx.grow hb9
    replace r1 := r1.grow hb9
    replace hb := below_trans hb hb9
    clear hb9
    go_wp2_with fail
    refine (eqIntS_same _ _ ts.length _ _ ts _ rx.reads r6.reads rfl hl2).mono ?_
    rintro e w10 ⟨rfl, hb10⟩
    have z10 := hb10.size
    replace ho := ho.grow hb10
    replace r0 := r0.grow hb10
    replace rx := rx.grow hb10
    replace r1 := r1.grow hb10
    replace r6 := r6.grow hb10
    replace hb := below_trans hb hb10
    clear hb10
    clear r6
    go_wp2_with fail
    refine (as_int HQ0.out (markIntS_at _ _ _ _ ts 1 _ rx (by omega) (by omega) rfl hl2)).mono ?_
    rintro e w11 ⟨rfl, rxm, hO⟩
    have z11 := hO.size
    replace ho := ho.only hO (.inl (by omega))
    replace r0 := r0.move (hO.same (.inl (by omega)) (by omega))
    replace r1 := r1.move (hO.same (.inr (by omega)) (by omega))
    replace hb := below_only hb hO (by omega) (by omega)
    clear hO rx
    clear rxm
    go_wp2_with fail
    refine (eqWinS_w A1 A0 m c1 c0 rs _ r1.reads r0.reads HM.out hm).mono ?_
    rintro e w12 ⟨rfl, hb12⟩
    have z12 := hb12.size
    replace ho := ho.grow hb12
    replace r0 := r0.grow hb12
    replace r1 := r1.grow hb12
    replace hb := below_trans hb hb12
    clear hb12
    go_wp2_with fail
    refine (as_int HQ.out (markWinS_w _ _ _ _ rs 1 _ r1 (by omega) (by omega) HM.out hm)).mono ?_
    rintro e w13 ⟨rfl, r1m, hO⟩
    have z13 := hO.size
    replace ho := ho.only hO (.inl (by omega))
    replace r0 := r0.move (hO.same (.inl (by omega)) (by omega))
    replace hb := below_only hb hO (by omega) (by omega)
    clear hO r1
    go_wp2_with fail
    refine (as_int HQ.out (heldWinS_any A1 c1 m 1 _ r1m.reads (by omega) (by omega) hm)).mono ?_
    rintro e _ ⟨rfl, rfl⟩
    obtain ⟨hoc0, hoc1, hoc2⟩ := ho.three
    go_wp2_with fail
    clear hoc0 hoc1 hoc2
    refine (toWinDef_any k s t _).mono ?_
    rintro e w14 ⟨rfl, hb14⟩
    have z14 := hb14.size
    replace ho := ho.grow hb14
    replace r0 := r0.grow hb14
    replace r1m := r1m.grow hb14
    replace hb := below_trans hb hb14
    clear hb14
    go_wp2_with fail
    refine (toIntS_at A ca ts _ (HA.out _ hb) hl2).mono ?_
    rintro e w15 ⟨g12, rfl, p1, hb15⟩
    have z15 := hb15.size
    replace ho := ho.grow hb15
    replace r0 := r0.grow hb15
    replace r1m := r1m.grow hb15
    replace hb := below_trans hb hb15
    clear hb15
    go_wp2_with fail
    refine (HI.out _ _ p1.reads).mono ?_
    rintro e w16 ⟨A2, c2, rfl, r2, hb16⟩
    have z16 := hb16.size
    replace ho := ho.grow hb16
    replace r0 := r0.grow hb16
    replace r1m := r1m.grow hb16
    replace p1 := p1.grow hb16
    replace hb := below_trans hb hb16
    clear hb16
    clear p1
    go_wp2_with fail
    refine (eqWinS_w A2 A0 m c2 c0 rs _ r2.reads r0.reads HM.out hm).mono ?_
    rintro e w17 ⟨rfl, hb17⟩
    have z17 := hb17.size
    replace ho := ho.grow hb17
    replace r0 := r0.grow hb17
    replace r1m := r1m.grow hb17
    replace r2 := r2.grow hb17
    replace hb := below_trans hb hb17
    clear hb17
    go_wp2_with fail
    refine (as_int HQ.out (heldWinS_any A1 c1 m 1 _ r1m.reads (by omega) (by omega) hm)).mono ?_
    rintro e _ ⟨rfl, rfl⟩
    clear ho r0 r1m r2
    go_wp2
    go_ret
    exact ⟨rfl, hb⟩
  · go_enter Try.func11, Try.ntmps11
    go_wp2
    go_ret
    exact ⟨rfl, below_alloc _ _⟩
end Go.Proofs.Ytdphbfapccnhlaa
