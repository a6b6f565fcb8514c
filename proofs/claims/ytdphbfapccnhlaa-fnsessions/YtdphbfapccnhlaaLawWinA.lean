/-
  The laws on WinOk and SessOk: the program answers as the model and writes into no argument.
-/
import Derived.Test.YtdphbfapccnhlaaWinKit
import Derived.Deep.RegionHeld3
namespace Go.Proofs.Ytdphbfapccnhlaa
open Go.RowKit

set_option maxHeartbeats 2000000 in
theorem fnExactWinOk_walk (k s t : Int) (w : World) :
    Calls Try.prog 6 #[.agg #[.int .i64 k, .int .i64 s, .int .i64 t]] w fun e w' => e = .returned (.bool true) ∧ Below w.heap.size w w' := by
  obtain ⟨r, HR⟩ : ∃ r, Hid (tf (defOk k s t) = r) := ⟨_, Lib.hid rfl⟩
  have hne : (r != r) = false := by simp
  go_enter Try.func6, Try.ntmps6
  go_wp2_with fail
  refine (toWinDef_any k s t _).mono ?_
  rintro e w1 ⟨rfl, hb1⟩
  obtain ⟨ho, hb⟩ := box_own hb1
  clear hb1
  go_wp2_with fail
  refine (as_bool HR.out (specWinOk_any k s t _)).mono ?_
  rintro e w2 ⟨rfl, hb2⟩
  replace ho := ho.grow hb2
  replace hb := below_trans hb hb2
  clear hb2
  have c0 := ho.cell 0
  have c1 := ho.cell 1
  have c2 := ho.cell 2
  simp only [List.getElem?_cons_zero, List.getElem?_cons_succ] at c0 c1 c2
  go_wp2_with fail
  refine (toWinDef_any k s t _).mono ?_
  rintro e w3 ⟨rfl, hb3⟩
  replace hb := below_trans hb hb3
  clear hb3 c0 c1 c2 ho
  go_wp2_with fail
  refine (as_bool HR.out (implWinOk_any k s t _)).mono ?_
  rintro e w4 ⟨rfl, hb4⟩
  go_wp2
  go_ret
  exact ⟨rfl, below_trans hb hb4⟩

set_option maxHeartbeats 2000000 in
theorem fnExactSessOk_walk (A : Option Addr) (ca : Nat) (ws : List Wn) (w : World) (hA : Rd w A (ez ws)) (hn : ws.length ≤ 9223372036854775807) :
    Calls Try.prog 8 #[.slice A ws.length ca] w fun e w' => e = .returned (.bool true) ∧ Below w.heap.size w w' := by
  have HA := Lib.hid (fun W (h : Below w.heap.size w W) => hA.below h)
  clear hA
  by_cases hl : (ws.length : Int) ≤ 1048576
  · have E1 := Lib.hid (show lessF 1048576 ws.length = 1048576 - (ws.length : Int) by simp [lessF]; omega)
    have hl2 : ws.length ≤ 1048576 := by omega
    obtain ⟨r, HR⟩ : ∃ r, Hid (tf (sessOk ws) = r) := ⟨_, Lib.hid rfl⟩
    have hne : (r != r) = false := by simp
    go_enter Try.func8, Try.ntmps8
    go_wp2_with fail
    refine (as_int E1.out (szWinS_any A ws.length ca 1048576 _ (by omega) (by omega) hn)).mono ?_
    rintro e _ ⟨rfl, rfl⟩
    go_wp2_with fail
    refine (toWinS_w A ws.length ca ws _ (HA.out _ (Below.refl _ _)) rfl hl2).mono ?_
    rintro e w2 ⟨g2, rfl, r2, hb⟩
    go_wp2_with fail
    refine (as_bool HR.out (specSessOk_any _ _ _ ws _ r2.reads rfl (by omega))).mono ?_
    rintro e w3 ⟨rfl, hb3⟩
    replace hb := below_trans hb hb3
    clear hb3 r2
    go_wp2_with fail
    refine (toWinS_w A ws.length ca ws _ (HA.out _ hb) rfl hl2).mono ?_
    rintro e w4 ⟨g4, rfl, r4, hb4⟩
    replace hb := below_trans hb hb4
    clear hb4
    go_wp2_with fail
    refine (as_bool HR.out (implSessOk_any _ _ _ ws _ r4.reads rfl (by omega))).mono ?_
    rintro e w5 ⟨rfl, hb5⟩
    replace hb := below_trans hb hb5
    replace r4 := r4.grow hb5
    clear hb5
    go_wp2_with fail
    refine (toWinS_w A ws.length ca ws _ (HA.out _ hb) rfl hl2).mono ?_
    rintro e w6 ⟨g6, rfl, r6, hb6⟩
    replace hb := below_trans hb hb6
    replace r4 := r4.grow hb6
    clear hb6
    go_wp2_with fail
    refine (eqWinS_w _ _ ws.length _ _ ws _ r4.reads r6.reads rfl hl2).mono ?_
    rintro e w7 ⟨rfl, hb7⟩
    go_wp2
    go_ret
    exact ⟨rfl, below_trans hb hb7⟩
  · have e1 : lessF 1048576 ws.length = -1 := by simp [lessF]; omega
    go_enter Try.func8, Try.ntmps8
    go_wp2_with fail
    refine (as_int e1 (szWinS_any A ws.length ca 1048576 _ (by omega) (by omega) hn)).mono ?_
    rintro e _ ⟨rfl, rfl⟩
    go_wp2
    go_ret
    exact ⟨rfl, Below.refl _ _⟩
end Go.Proofs.Ytdphbfapccnhlaa
