/-
  The law on SessAt: at every list of windows and time the program answers as the model and writes into no argument. By genwin.py.
-/
import Derived.Test.YtdphbfapccnhlaaSessAt
import Derived.Test.YtdphbfapccnhlaaLawWinA
namespace Go.Proofs.Ytdphbfapccnhlaa
open Go.RowKit

set_option maxRecDepth 100000 in
set_option maxHeartbeats 4000000 in
theorem fnExactSessAt_walk (A : Option Addr) (ca : Nat) (ws : List Wn) (t : Int) (w : World) (hA : Rd w A (ez ws)) (hn : ws.length ≤ 9223372036854775807) :
    Calls Try.prog 12 #[.slice A ws.length ca, .int .i64 t] w fun e w' => e = .returned (.bool true) ∧ Below w.heap.size w w' := by
  have HA := Lib.hid (fun W (h : Below w.heap.size w W) => hA.below h)
  clear hA
  by_cases hl : (ws.length : Int) ≤ 1048576
  · have E1 := Lib.hid (show lessF 1048576 ws.length = 1048576 - (ws.length : Int) by simp [lessF]; omega)
    have hl2 : ws.length ≤ 1048576 := by omega
    obtain ⟨r, HR⟩ : ∃ r, Hid (sessAt ws t = r) := ⟨_, Lib.hid rfl⟩
    have hne : (r != r) = false := by simp
    have hb := Below.refl w.heap.size w
    go_enter Try.func12, Try.ntmps12
    go_wp2_with fail
    refine (as_int E1.out (szWinS_any A ws.length ca 1048576 _ (by omega) (by omega) hn)).mono ?_
    rintro e _ ⟨rfl, rfl⟩
    go_wp2_with fail
    refine (toWinS_w A ws.length ca ws _ (HA.out _ hb) rfl hl2).mono ?_
    rintro e w2 ⟨g2, rfl, r2, hb2⟩
    have z2 := hb2.size
    replace hb := below_trans hb hb2
    clear hb2
    go_wp2_with fail
    refine (as_int HR.out (specSessAt_any _ _ _ ws t _ r2.reads rfl (by omega))).mono ?_
    rintro e w3 ⟨rfl, hb3⟩
    have z3 := hb3.size
    replace hb := below_trans hb hb3
    clear hb3
    clear r2
    go_wp2_with fail
    refine (toWinS_w A ws.length ca ws _ (HA.out _ hb) rfl hl2).mono ?_
    rintro e w4 ⟨g4, rfl, r4, hb4⟩
    have z4 := hb4.size
    replace hb := below_trans hb hb4
    clear hb4
    go_wp2_with fail
    refine (as_int HR.out (implSessAt_any _ _ _ ws t _ r4.reads rfl (by omega))).mono ?_
    rintro e w5 ⟨rfl, hb5⟩
    have z5 := hb5.size
    replace r4 := r4.grow hb5
    replace hb := below_trans hb hb5
    clear hb5
    go_wp2_with fail
    refine (toWinS_w A ws.length ca ws _ (HA.out _ hb) rfl hl2).mono ?_
    rintro e w6 ⟨g6, rfl, r6, hb6⟩
    have z6 := hb6.size
    replace r4 := r4.grow hb6
    replace hb := below_trans hb hb6
    clear hb6
    go_wp2_with fail
    refine (eqWinS_w _ _ ws.length _ _ ws _ r4.reads r6.reads rfl hl2).mono ?_
    rintro e w7 ⟨rfl, hb7⟩
    have z7 := hb7.size
    replace r4 := r4.grow hb7
    replace r6 := r6.grow hb7
    replace hb := below_trans hb hb7
    clear hb7
    go_wp2
    go_ret
    exact ⟨rfl, hb⟩
  · have e1 : lessF 1048576 ws.length = -1 := by simp [lessF]; omega
    go_enter Try.func12, Try.ntmps12
    go_wp2_with fail
    refine (as_int e1 (szWinS_any A ws.length ca 1048576 _ (by omega) (by omega) hn)).mono ?_
    rintro e _ ⟨rfl, rfl⟩
    go_wp2
    go_ret
    exact ⟨rfl, Below.refl _ _⟩
end Go.Proofs.Ytdphbfapccnhlaa
