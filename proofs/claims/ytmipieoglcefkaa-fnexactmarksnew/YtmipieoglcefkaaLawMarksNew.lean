/-
  The law on MarksNew: at every int the program answers as the model, and its answer owns its memory.
-/
import Derived.Test.YtmipieoglcefkaaMarkNew
namespace Go.Proofs.Ytmipieoglcefkaa
open Go.RowKit

theorem newM_len (n : Int) : (newM n).length ≤ 4 := by
  unfold newM
  split
  · simp
  · simp; omega

set_option maxHeartbeats 2000000 in
theorem fnExactMarksNew_walk (n : Int) (w : World) :
    Calls Try.prog 4 #[.int .i64 n] w fun e w' => e = .returned (.bool true) ∧ Below w.heap.size w w' := by
  have hlen := newM_len n
  have HS := Lib.hid (fun W => specMarksNew_any n W)
  have HI := Lib.hid (fun W => implMarksNew_any n W)
  generalize newM n = rs at *
  obtain ⟨m, HM⟩ : ∃ m, Hid (rs.length = m) := ⟨_, Lib.hid rfl⟩
  have hm : m ≤ 4 := by rw [← HM.out]; exact hlen
  have HS2 := Lib.hid (show ∀ W, Calls Try.prog 21 #[.int .i64 n] W fun e w' => ∃ A c, e = .returned (msv 0 (.slice A m c)) ∧ RowAt W.heap.size w'.heap.size w' 36 2 (.slice A m c) m (mz rs) ∧ Below W.heap.size W w' from fun W => by have := HS.out W; unfold MkRes1 at this; rwa [HM.out] at this)
  have HI2 := Lib.hid (show ∀ W, Calls Try.prog 22 #[.int .i64 n] W fun e w' => ∃ A c, e = .returned (msv 0 (.slice A m c)) ∧ RowAt W.heap.size w'.heap.size w' 36 2 (.slice A m c) m (mz rs) ∧ Below W.heap.size W w' from fun W => by have := HI.out W; unfold MkRes1 at this; rwa [HM.out] at this)
  obtain ⟨q1, HQ⟩ : ∃ q1 : Int, Hid (1 + ((m * 2 : Nat) : Int) = q1) := ⟨_, Lib.hid rfl⟩
  have hne2 : (q1 != q1) = false := by simp
  have hpos2 : decide (q1 < 0) = false := by have := HQ.out; simp; omega
  clear HS HI hlen
  go_enter Try.func4, Try.ntmps4
  go_wp2_with fail
  refine (HS2.out _).mono ?_
  rintro e w1 ⟨A0, c0, rfl, r0, hb⟩
  have z1 := hb.size
  have b3 := Own.new w1 26 [.int .i64 0, .slice A0 m c0]
  replace r0 := r0.grow (below_alloc w1 (.cells #[.int .i64 0, .slice A0 m c0] 26))
  replace hb := below_trans hb (below_alloc w1 (.cells #[.int .i64 0, .slice A0 m c0] 26))
  go_wp2_with fail
  refine (HI2.out _).mono ?_
  rintro e w2 ⟨A1, c1, rfl, r1, hb2⟩
  rw [World.size_alloc] at r1
  have z2 := hb2.size
  rw [World.size_alloc] at z2
  have hb2' := below_trans hb2 (below_alloc w2 (.cells #[.int .i64 0, .slice A1 m c1] 26))
  have b4 := Own.new w2 26 [.int .i64 0, .slice A1 m c1]
  replace b3 := b3.grow hb2'
  replace r0 := r0.grow hb2'
  replace r1 := r1.grow (below_alloc w2 (.cells #[.int .i64 0, .slice A1 m c1] 26))
  replace hb := below_trans hb hb2'
  clear hb2 hb2'
  have zz := World.size_alloc w2 (.cells [.int .i64 0, .slice A1 m c1].toArray 26)
  obtain ⟨k0, k1⟩ := b3.two
  obtain ⟨k2, k3⟩ := b4.two
  go_wp2_with fail
  clear k0 k1 k2 k3
  refine (eqMarks_same 0 A1 A0 m c1 c0 rs _ r1.reads r0.reads HM.out (by omega)).mono ?_
  rintro e w3 ⟨rfl, hb3⟩
  have z3 := hb3.size
  rw [World.size_alloc] at z3
  replace b3 := b3.grow hb3
  replace b4 := b4.grow hb3
  replace r0 := r0.grow hb3
  replace r1 := r1.grow hb3
  replace hb := below_trans hb hb3
  clear hb3 zz
  obtain ⟨k2, k3⟩ := b4.two
  go_wp2_with fail
  clear k2 k3
  refine (as_int HQ.out (markMarks_at 0 A1 c1 _ _ m rs 1 _ r1 (by omega) (by omega) HM.out (by omega))).mono ?_
  rintro e w4 ⟨rfl, r1m, hO⟩
  have z4 := hO.size
  replace b3 := b3.only hO (.inl (by omega))
  replace b4 := b4.only hO (.inr (by omega))
  replace r0 := r0.move (hO.same (.inl (by omega)) (by omega))
  replace hb := below_only hb hO (by omega) (by omega)
  clear hO r1
  obtain ⟨k2, k3⟩ := b4.two
  go_wp2_with fail
  clear k2 k3
  refine (as_int HQ.out (heldMarks_any 0 A1 c1 m 1 _ r1m.reads (by omega) (by omega) (by omega))).mono ?_
  rintro e w5 ⟨rfl, hb5⟩
  have z5 := hb5.size
  replace b3 := b3.grow hb5
  replace b4 := b4.grow hb5
  replace r0 := r0.grow hb5
  replace r1m := r1m.grow hb5
  replace hb := below_trans hb hb5
  clear hb5
  go_wp2_with fail
  refine (HI2.out _).mono ?_
  rintro e w6 ⟨A2, c2, rfl, r2, hb6⟩
  have z6 := hb6.size
  have hb6' := below_trans hb6 (below_alloc w6 (.cells #[.int .i64 0, .slice A2 m c2] 26))
  have b7 := Own.new w6 26 [.int .i64 0, .slice A2 m c2]
  replace b3 := b3.grow hb6'
  replace b4 := b4.grow hb6'
  replace r0 := r0.grow hb6'
  replace r1m := r1m.grow hb6'
  replace r2 := r2.grow (below_alloc w6 (.cells #[.int .i64 0, .slice A2 m c2] 26))
  replace hb := below_trans hb hb6'
  clear hb6 hb6'
  obtain ⟨k0, k1⟩ := b3.two
  obtain ⟨k2, k3⟩ := b7.two
  go_wp2_with fail
  clear k0 k1 k2 k3
  refine (eqMarks_same 0 A2 A0 m c2 c0 rs _ r2.reads r0.reads HM.out (by omega)).mono ?_
  rintro e w7 ⟨rfl, hb7⟩
  replace b4 := b4.grow hb7
  replace r1m := r1m.grow hb7
  replace hb := below_trans hb hb7
  clear hb7 b3 b7 r0 r2
  obtain ⟨k2, k3⟩ := b4.two
  go_wp2_with fail
  clear k2 k3
  refine (as_int HQ.out (heldMarks_any 0 A1 c1 m 1 _ r1m.reads (by omega) (by omega) (by omega))).mono ?_
  rintro e w8 ⟨rfl, hb8⟩
  replace hb := below_trans hb hb8
  clear hb8 b4 r1m
  go_wp2
  go_ret
  exact ⟨rfl, hb⟩
end Go.Proofs.Ytmipieoglcefkaa
