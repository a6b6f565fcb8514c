/-
  The law on WinsOf: at every definition and time the program answers as the model, and its answer owns its memory. By genwin.py.
-/
import Derived.Test.YtdphbfapccnhlaaSWinsI
import Derived.Test.YtdphbfapccnhlaaLawWinA
namespace Go.Proofs.Ytdphbfapccnhlaa
open Go.RowKit

def WsAt (m : Nat) (rs : List Wn) (w : World) (e : Ending) (w' : World) : Prop :=
  ∃ A c, e = .returned (.slice A m c) ∧ RowAt w.heap.size w'.heap.size w' 32 2 (.slice A m c) m (ez rs) ∧ Below w.heap.size w w'
theorem ws_at {rs : List Wn} {w w' : World} {e : Ending} {m : Nat} (h : WsRes rs w e w') (hm : rs.length = m) : WsAt m rs w e w' := by subst hm; exact h
theorem winsOf_len (k s t tm : Int) : (winsOf k s t tm).length ≤ 1001 := by
  by_cases h : defOk k s t ∧ isT tm
  · by_cases h1 : k = 1
    · subst h1; rw [winsOf_tumble h.1 h.2]; simp
    · by_cases h3 : k = 3
      · subst h3; rw [winsOf_sess h.1 h.2]; simp
      · rw [winsOf_slide h.1 h.2 h1 h3]
        have h4 := slideTo_len s.toNat t.toNat tm.toNat (tm.toNat / t.toNat + 1)
        have h5 := Nat.div_le_self tm.toNat t.toNat
        have h6 := h.2.2
        unfold slides
        omega
  · rw [winsOf_no h]; simp

set_option maxRecDepth 100000 in
set_option maxHeartbeats 8000000 in
theorem fnExactWinsOf_walk (k s t tm : Int) (w : World) :
    Calls Try.prog 7 #[.agg #[.int .i64 k, .int .i64 s, .int .i64 t], .int .i64 tm] w fun e w' => e = .returned (.bool true) ∧ Below w.heap.size w w' := by
  have hm0 := winsOf_len k s t tm
  obtain ⟨m, HM0⟩ : ∃ m, Hid ((winsOf k s t tm).length = m) := ⟨_, Lib.hid rfl⟩
  have hm : m ≤ 1048576 := by have := HM0.out; omega
  have HS := Lib.hid (fun W => (specWinsOf_any k s t tm W).mono fun _ _ h => ws_at h HM0.out)
  have HI := Lib.hid (fun W => (implWinsOf_any k s t tm W).mono fun _ _ h => ws_at h HM0.out)
  clear hm0
  generalize winsOf k s t tm = rs at *
  have HM := HM0
  clear HM0
  obtain ⟨q1, HQ⟩ : ∃ q1 : Int, Hid (1 + ((m * 2 : Nat) : Int) = q1) := ⟨_, Lib.hid rfl⟩
  have hne2 : (q1 != q1) = false := by simp
  have hp2 : ¬ q1 < 0 := by have := HQ.out; omega
  go_enter Try.func7, Try.ntmps7
  have hb := below_alloc w (.cells #[.int .i64 k, .int .i64 s, .int .i64 t] 45)
  have ho := Own.new w 45 [.int .i64 k, .int .i64 s, .int .i64 t]
  have z0 : w.heap.size < (w.alloc (.cells #[.int .i64 k, .int .i64 s, .int .i64 t] 45)).heap.size := by simp
  obtain ⟨hoc0, hoc1, hoc2⟩ := ho.three
  go_wp2_with fail
  clear hoc0 hoc1 hoc2
  refine (toWinDef_any k s t _).mono ?_
  rintro e w2 ⟨rfl, hb2⟩
  have z2 := hb2.size
  replace ho := ho.grow hb2
  replace hb := below_trans hb hb2
  clear hb2
  go_wp2_with fail
  refine (HS.out _).mono ?_
  rintro e w3 ⟨A0, c0, rfl, r0, hb3⟩
  have z3 := hb3.size
  replace ho := ho.grow hb3
  replace hb := below_trans hb hb3
  clear hb3
  obtain ⟨hoc0, hoc1, hoc2⟩ := ho.three
  go_wp2_with fail
  clear hoc0 hoc1 hoc2
  refine (toWinDef_any k s t _).mono ?_
  rintro e w4 ⟨rfl, hb4⟩
  have z4 := hb4.size
  replace ho := ho.grow hb4
  replace r0 := r0.grow hb4
  replace hb := below_trans hb hb4
  clear hb4
  go_wp2_with fail
  refine (HI.out _).mono ?_
  rintro e w5 ⟨A1, c1, rfl, r1, hb5⟩
  have z5 := hb5.size
  replace ho := ho.grow hb5
  replace r0 := r0.grow hb5
  replace hb := below_trans hb hb5
  clear hb5
  go_wp2_with fail
  refine (eqWinS_w A1 A0 m c1 c0 rs _ r1.reads r0.reads HM.out hm).mono ?_
  rintro e w6 ⟨rfl, hb6⟩
  have z6 := hb6.size
  replace ho := ho.grow hb6
  replace r0 := r0.grow hb6
  replace r1 := r1.grow hb6
  replace hb := below_trans hb hb6
  clear hb6
  go_wp2_with fail
  refine (as_int HQ.out (markWinS_w _ _ _ _ rs 1 _ r1 (by omega) (by omega) HM.out hm)).mono ?_
  rintro e w7 ⟨rfl, r1m, hO⟩
  have z7 := hO.size
  replace ho := ho.only hO (.inl (by omega))
  replace r0 := r0.move (hO.same (.inl (by omega)) (by omega))
  replace hb := below_only hb hO (by omega) (by omega)
  clear hO r1
  go_wp2_with fail
  refine (as_int HQ.out (heldWinS_any A1 c1 m 1 _ r1m.reads (by omega) (by omega) hm)).mono ?_
  rintro e _ ⟨rfl, rfl⟩
  obtain ⟨hoc0, hoc1, hoc2⟩ := ho.three
  go_wp2_with fail
  clear hoc0 hoc1 hoc2
  refine (toWinDef_any k s t _).mono ?_
  rintro e w8 ⟨rfl, hb8⟩
  have z8 := hb8.size
  replace ho := ho.grow hb8
  replace r0 := r0.grow hb8
  replace r1m := r1m.grow hb8
  replace hb := below_trans hb hb8
  clear hb8
  go_wp2_with fail
  refine (HI.out _).mono ?_
  rintro e w9 ⟨A2, c2, rfl, r2, hb9⟩
  have z9 := hb9.size
  replace ho := ho.grow hb9
  replace r0 := r0.grow hb9
  replace r1m := r1m.grow hb9
  replace hb := below_trans hb hb9
  clear hb9
  go_wp2_with fail
  refine (eqWinS_w A2 A0 m c2 c0 rs _ r2.reads r0.reads HM.out hm).mono ?_
  rintro e w10 ⟨rfl, hb10⟩
  have z10 := hb10.size
  replace ho := ho.grow hb10
  replace r0 := r0.grow hb10
  replace r1m := r1m.grow hb10
  replace r2 := r2.grow hb10
  replace hb := below_trans hb hb10
  clear hb10
  go_wp2_with fail
  refine (as_int HQ.out (heldWinS_any A1 c1 m 1 _ r1m.reads (by omega) (by omega) hm)).mono ?_
  rintro e _ ⟨rfl, rfl⟩
  clear ho r0 r1m r2
  go_wp2
  go_ret
  exact ⟨rfl, hb⟩
end Go.Proofs.Ytdphbfapccnhlaa
