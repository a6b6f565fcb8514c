/-
  The law on SessAdd: at every list of windows and window the program answers as the model, writes into no argument, and its answer owns its memory. By genwin.py.
-/
import Derived.Test.YtdphbfapccnhlaaSAddS
import Derived.Test.YtdphbfapccnhlaaLawWinA
import Derived.Deep.RegionHeld3
import Derived.Deep.DeepCutAuto
import Derived.Deep.CutBlock
namespace Go.Proofs.Ytdphbfapccnhlaa
open Go.RowKit

/-- a result of so many windows -/
def WbAt (m : Nat) (rs : List Wn) (T : Bool) (w : World) (e : Ending) (w' : World) : Prop :=
  ∃ A c, e = .returned (.tuple #[.slice A m c, .bool T]) ∧ RowAt w.heap.size w'.heap.size w' 32 2 (.slice A m c) m (ez rs) ∧ Below w.heap.size w w'
theorem wb_at {rs : List Wn} {T : Bool} {w w' : World} {e : Ending} {m : Nat} (h : WbRes rs T w e w') (hm : rs.length = m) : WbAt m rs T w e w' := by subst hm; exact h
theorem sfit_nn (g n : Nat) : SFit (some ⟨g, 0, none⟩) n n := ⟨Nat.le_refl _, fun h => by cases h⟩
theorem sessAdd_len (ws : List Wn) (x : Wn) : (sessAdd ws x).length ≤ 300 := by
  by_cases h : addOk ws x
  · rw [sessAdd_yes h]; exact h.2.2
  · rw [sessAdd_no h]; simp

set_option maxRecDepth 100000 in
set_option maxHeartbeats 8000000 in
theorem fnExactSessAdd_walk (A : Option Addr) (ca : Nat) (ws : List Wn) (a b : Int) (w : World) (hA : Rd w A (ez ws)) (hn : ws.length ≤ 9223372036854775807) :
    Calls Try.prog 9 #[.slice A ws.length ca, .agg #[.int .i64 a, .int .i64 b]] w fun e w' => e = .returned (.bool true) ∧ Below w.heap.size w w' := by
  have HA := Lib.hid (fun W (h : Below w.heap.size w W) => hA.below h)
  clear hA
  by_cases hl : (ws.length : Int) ≤ 1048576
  · have E1 := Lib.hid (show lessF 1048576 ws.length = 1048576 - (ws.length : Int) by simp [lessF]; omega)
    have hl2 : ws.length ≤ 1048576 := by omega
    have hm0 := sessAdd_len ws (a, b)
    obtain ⟨m, HM0⟩ : ∃ m, Hid ((sessAdd ws (a, b)).length = m) := ⟨_, Lib.hid rfl⟩
    have hm : m ≤ 1048576 := by have := HM0.out; omega
    have HS := Lib.hid (fun g W (h : Rd W (some ⟨g, 0, none⟩) (ez ws)) => (specSessAdd_any (some ⟨g, 0, none⟩) ws.length ws.length ws a b W h rfl hl2).mono fun _ _ h => wb_at h HM0.out)
    have HI := Lib.hid (fun g W (h : Rd W (some ⟨g, 0, none⟩) (ez ws)) => (implSessAdd_any (some ⟨g, 0, none⟩) ws.length ws.length ws a b W h rfl hl2 (sfit_nn g _)).mono fun _ _ h => wb_at h HM0.out)
    clear hm0
    generalize sessAdd ws (a, b) = rs at *
    generalize tf (addOk ws (a, b)) = T at *
    have HM := HM0
    clear HM0
    obtain ⟨q1, HQ⟩ : ∃ q1 : Int, Hid (1 + ((m * 2 : Nat) : Int) = q1) := ⟨_, Lib.hid rfl⟩
    obtain ⟨q0, HQ0⟩ : ∃ q0 : Int, Hid (1 + ((ws.length * 2 : Nat) : Int) = q0) := ⟨_, Lib.hid rfl⟩
    have hne0 : (T != T) = false := by simp
    have hne2 : (q1 != q1) = false := by simp
    have hp2 : ¬ q1 < 0 := by have := HQ.out; omega
    have hp0 : ¬ q0 < 0 := by have := HQ0.out; omega
    go_enter Try.func9, Try.ntmps9
    go_wp2_with fail
    refine (as_int E1.out (szWinS_any A ws.length ca 1048576 _ (by omega) (by omega) hn)).mono ?_
    rintro e _ ⟨rfl, rfl⟩
    have ho := Own.new w 54 [.int .i64 a, .int .i64 b]
    have hb := below_alloc w (.cells #[.int .i64 a, .int .i64 b] 54)
    have z0 : w.heap.size < (w.alloc (.cells #[.int .i64 a, .int .i64 b] 54)).heap.size := by simp
    go_upto_region 5 with (fail)
    generalize hw1 : w.alloc (.cells #[.int .i64 a, .int .i64 b] 54) = w1 at *
    clear hw1
    go_cut [6, 7] (fun q0 q1 wx => ∃ A0 c0, q0 = .slice A0 m c0 ∧ q1 = .bool T ∧ RowAt w1.heap.size wx.heap.size wx 32 2 (.slice A0 m c0) m (ez rs) ∧ Below w1.heap.size w1 wx)
    case first =>
      obtain ⟨k0, k1⟩ := ho.two
      have K0 : ∀ W, Below w1.heap.size w1 W → W.cell? ⟨w.heap.size, 0, none⟩ = some (.int .i64 a) := fun W h => (ho.grow h).two.1
      have K1 : ∀ W, Below w1.heap.size w1 W → W.cell? ⟨w.heap.size, 1, none⟩ = some (.int .i64 b) := fun W h => (ho.grow h).two.2
      have HAx := Lib.hid (fun W (h : Below w1.heap.size w1 W) => HA.out W (below_trans hb h))
      clear ho k0 k1
      go_region_held3 (fun W => Below w1.heap.size w1 W) (first | exact (Below.refl _ _).drew | exact below_trans (by assumption) (by assumption))
        (first
          | (go_at_call 36; refine (toWinS_w A ws.length ca ws _ (HAx.out _ (by assumption)) rfl hl2).mono ?_; rintro e wa ⟨ga, rfl, ra, hba⟩)
          | (go_at_call 37; refine (toWin_any a b _).mono ?_; rintro e wd ⟨rfl, hbd⟩)
          | (go_at_call 26; refine (HS.out _ _ (by first | exact ra.reads | exact ra.reads.below (by assumption) | exact ra.reads.below (below_trans (by assumption) (by assumption)))).mono ?_; rintro e we ⟨A0, c0, rfl, r0, hbe⟩))
      all_goals
        have hB : Below w1.heap.size w1 we := by assumption
        go_wp2_with fail
        go_meet
        case rel => exact ⟨A0, c0, rfl, rfl, ⟨owns_base r0.1 (by first | exact Nat.le_trans (show w1.heap.size ≤ wa.heap.size from hba.size) hbd.size | exact Nat.le_trans (show w1.heap.size ≤ wd.heap.size from hbd.size) hba.size), r0.2⟩, hB⟩
    case rest =>
      obtain ⟨A0, c0, rfl, rfl, r0, hbc⟩ := hcut
      have zc := hbc.size
      replace ho := ho.grow hbc
      replace hb := below_trans hb hbc
      clear hbc
      go_wp2_with fail
      refine (toWinS_w A ws.length ca ws _ (HA.out _ hb) rfl hl2).mono ?_
      rintro e w2 ⟨g2, rfl, rx, hb2⟩
      have z2 := hb2.size
      replace ho := ho.grow hb2
      replace r0 := r0.grow hb2
      replace hb := below_trans hb hb2
      clear hb2
      obtain ⟨hoc0, hoc1⟩ := ho.two
      go_wp2_with fail
      clear hoc0 hoc1
      refine (toWin_any a b _).mono ?_
      rintro e w3 ⟨rfl, hb3⟩
      have z3 := hb3.size
      replace ho := ho.grow hb3
      replace r0 := r0.grow hb3
      replace rx := rx.grow hb3
      replace hb := below_trans hb hb3
      clear hb3
      go_wp2_with fail
      refine (HI.out _ _ rx.reads).mono ?_
      rintro e w4 ⟨A1, c1, rfl, r1, hb4⟩
      have z4 := hb4.size
      replace ho := ho.grow hb4
      replace r0 := r0.grow hb4
      replace rx := rx.grow hb4
      replace hb := below_trans hb hb4
      clear hb4
      go_wp2_with fail
      refine (eqWinS_w A1 A0 m c1 c0 rs _ r1.reads r0.reads HM.out hm).mono ?_
      rintro e w5 ⟨rfl, hb5⟩
      have z5 := hb5.size
      replace ho := ho.grow hb5
      replace r0 := r0.grow hb5
      replace rx := rx.grow hb5
      replace r1 := r1.grow hb5
      replace hb := below_trans hb hb5
      clear hb5
      go_wp2_with fail
      refine (toWinS_w A ws.length ca ws _ (HA.out _ hb) rfl hl2).mono ?_
      rintro e w6 ⟨g6, rfl, r6, hb6⟩
      have z6 := hb6.size
      replace ho := ho.grow hb6
      replace r0 := r0.grow hb6
      replace rx := rx.grow hb6
      replace r1 := r1.grow hb6
      replace hb := below_trans hb hb6
      clear hb6
      go_wp2_with fail
      refine (eqWinS_w _ _ ws.length _ _ ws _ rx.reads r6.reads rfl hl2).mono ?_
      rintro e w7 ⟨rfl, hb7⟩
      have z7 := hb7.size
      replace ho := ho.grow hb7
      replace r0 := r0.grow hb7
      replace rx := rx.grow hb7
      replace r1 := r1.grow hb7
      replace r6 := r6.grow hb7
      replace hb := below_trans hb hb7
      clear hb7
      clear r6
      go_wp2_with fail
      refine (as_int HQ0.out (markWinS_w _ _ _ _ ws 1 _ rx (by omega) (by omega) rfl hl2)).mono ?_
      rintro e w8 ⟨rfl, rxm, hO⟩
      have z8 := hO.size
      replace ho := ho.only hO (.inl (by omega))
      replace r0 := r0.move (hO.same (.inl (by omega)) (by omega))
      replace r1 := r1.move (hO.same (.inr (by omega)) (by omega))
      replace hb := below_only hb hO (by omega) (by omega)
      clear hO rx
      clear rxm
      go_wp2_with fail
      refine (eqWinS_w A1 A0 m c1 c0 rs _ r1.reads r0.reads HM.out hm).mono ?_
      rintro e w9 ⟨rfl, hb9⟩
      have z9 := hb9.size
      replace ho := ho.grow hb9
      replace r0 := r0.grow hb9
      replace r1 := r1.grow hb9
      replace hb := below_trans hb hb9
      clear hb9
      go_wp2_with fail
      refine (as_int HQ.out (markWinS_w _ _ _ _ rs 1 _ r1 (by omega) (by omega) HM.out hm)).mono ?_
      rintro e w10 ⟨rfl, r1m, hO⟩
      have z10 := hO.size
      replace ho := ho.only hO (.inl (by omega))
      replace r0 := r0.move (hO.same (.inl (by omega)) (by omega))
      replace hb := below_only hb hO (by omega) (by omega)
      clear hO r1
      go_wp2_with fail
      refine (as_int HQ.out (heldWinS_any A1 c1 m 1 _ r1m.reads (by omega) (by omega) hm)).mono ?_
      rintro e _ ⟨rfl, rfl⟩
      go_upto_region 24 with (fail)
      go_cut [14, 15] (fun q0 q1 wx => ∃ A0 c0, q0 = .slice A0 m c0 ∧ q1 = .bool T ∧ RowAt w10.heap.size wx.heap.size wx 32 2 (.slice A0 m c0) m (ez rs) ∧ Below w10.heap.size w10 wx)
      case first =>
        obtain ⟨k0, k1⟩ := ho.two
        have K0 : ∀ W, Below w10.heap.size w10 W → W.cell? ⟨w.heap.size, 0, none⟩ = some (.int .i64 a) := fun W h => (ho.grow h).two.1
        have K1 : ∀ W, Below w10.heap.size w10 W → W.cell? ⟨w.heap.size, 1, none⟩ = some (.int .i64 b) := fun W h => (ho.grow h).two.2
        have HAx := Lib.hid (fun W (h : Below w10.heap.size w10 W) => HA.out W (below_trans hb h))
        clear ho k0 k1
        go_region_held3 (fun W => Below w10.heap.size w10 W) (first | exact (Below.refl _ _).drew | exact below_trans (by assumption) (by assumption))
          (first
            | (go_at_call 36; refine (toWinS_w A ws.length ca ws _ (HAx.out _ (by assumption)) rfl hl2).mono ?_; rintro e wa ⟨ga, rfl, ra, hba⟩)
            | (go_at_call 37; refine (toWin_any a b _).mono ?_; rintro e wd ⟨rfl, hbd⟩)
            | (go_at_call 27; refine (HI.out _ _ (by first | exact ra.reads | exact ra.reads.below (by assumption) | exact ra.reads.below (below_trans (by assumption) (by assumption)))).mono ?_; rintro e we ⟨A0, c0, rfl, r0, hbe⟩))
        all_goals
          have hB : Below w10.heap.size w10 we := by assumption
          go_wp2_with fail
          go_meet
          case rel => exact ⟨A0, c0, rfl, rfl, ⟨owns_base r0.1 (by first | exact Nat.le_trans (show w10.heap.size ≤ wa.heap.size from hba.size) hbd.size | exact Nat.le_trans (show w10.heap.size ≤ wd.heap.size from hbd.size) hba.size), r0.2⟩, hB⟩
      case rest =>
        obtain ⟨A2, c2, rfl, rfl, r2, hbc⟩ := hcut
        have zd := hbc.size
        replace ho := ho.grow hbc
        replace r0 := r0.grow hbc
        replace r1m := r1m.grow hbc
        replace hb := below_trans hb hbc
        clear hbc
        go_wp2_with fail
        refine (eqWinS_w A2 A0 m c2 c0 rs _ r2.reads r0.reads HM.out hm).mono ?_
        rintro e w11 ⟨rfl, hb11⟩
        have z11 := hb11.size
        replace ho := ho.grow hb11
        replace r0 := r0.grow hb11
        replace r1m := r1m.grow hb11
        replace r2 := r2.grow hb11
        replace hb := below_trans hb hb11
        clear hb11
        go_wp2_with fail
        refine (as_int HQ.out (heldWinS_any A1 c1 m 1 _ r1m.reads (by omega) (by omega) hm)).mono ?_
        rintro e _ ⟨rfl, rfl⟩
        clear ho r0 r1m r2
        go_wp2
        go_ret
        exact ⟨rfl, hb⟩
  · have e1 : lessF 1048576 ws.length = -1 := by simp [lessF]; omega
    go_enter Try.func9, Try.ntmps9
    go_wp2_with fail
    refine (as_int e1 (szWinS_any A ws.length ca 1048576 _ (by omega) (by omega) hn)).mono ?_
    rintro e _ ⟨rfl, rfl⟩
    go_wp2
    go_ret
    exact ⟨rfl, below_alloc _ _⟩
end Go.Proofs.Ytdphbfapccnhlaa
