/-
  laws.pick.
-/
import Derived.Test.YtandibofnpndlaaCur
namespace Go.Proofs.Ytandibofnpndlaa
open Go.RowKit

set_option maxHeartbeats 1000000 in
theorem lawPick_any (A : Option Addr) (n c : Nat) (N : Nat) (w : World) (hA : Byt w A n w.heap.size) (hn : n ≤ 1048576) (hN : 1 ≤ N) (hN2 : N ≤ 16) :
    Calls Try.prog 27 #[.slice A n c, .int .i64 5, .int .i64 (N : Int)] w fun e w' => ∃ r : Nat, e = .returned (.int .i64 r) ∧ r < N ∧ Below w.heap.size w w' := by
  have HA := Lib.hid (fun W (h : Below w.heap.size w W) => hA.below h)
  clear hA
  by_cases h0 : n = 0 ∨ N < 2
  · go_enter Try.func27, Try.ntmps27
    by_cases hn0 : n = 0
    · subst hn0
      go_wp2
      go_ret
      exact ⟨0, rfl, by omega, Below.refl _ _⟩
    · have hn1 : ((n : Int) == 0) = false := by simp; omega
      have hN1 : (N : Int) < 2 := by omega
      go_wp2
      go_ret
      exact ⟨0, rfl, by omega, Below.refl _ _⟩
  · have hn1 : ((n : Int) == 0) = false := by simp; omega
    have hN1 : ¬ (N : Int) < 2 := by omega
    have hn2 : (0 : Int) < (n : Int) := by omega
    obtain ⟨ad, b0, rfl, _⟩ := HA.out w (Below.refl _ _) 0 (by omega)
    go_enter Try.func27, Try.ntmps27
    go_wp2
    go_loopw [7, 8] (fun v i wr => ∃ k x : Nat, v = .int .i64 x ∧ i = .int .i64 k ∧ Hid ((k = 0 ∧ x = 0) ∨ (k = 1 ∧ x ≤ 255) ∨ (k = 2 ∧ x ≤ 8160) ∨ (k = 3 ∧ x ≤ 253215)) ∧ Below w.heap.size w wr) (fun _ i _ => 3 - (intOf i).toNat)
    case atStart => exact ⟨0, 0, rfl, rfl, Lib.hid (by omega), Below.refl _ _⟩
    case round =>
      obtain ⟨k, x, rfl, rfl, hkx, hbr⟩ := hrel
      have hk3 : k ≤ 3 := by have := hkx.out; omega
      have hx3 : x ≤ 253215 := by have := hkx.out; omega
      by_cases hlt : k < 3
      · have him : (5 + k) % n < n := Nat.mod_lt _ (by omega)
        obtain ⟨ad', b, e', hl, hb, hc⟩ := HA.out wr hbr ((5 + k) % n) him
        obtain rfl : ad = ad' := by injection e'
        clear e'
        have hi0 : (0 : Int) ≤ (5 + (k : Int)) % (n : Int) := Int.emod_nonneg _ (by omega)
        have hi1 : (5 + (k : Int)) % (n : Int) < (n : Int) := Int.emod_lt_of_pos _ hn2
        go_wp2
        go_roundw
        case rel => exact ⟨k + 1, 31 * x + b, by go_num, by go_num, Lib.hid (by have := hkx.out; omega), hbr⟩
        case measure => simp [intOf]; omega
      · go_wp2
        go_ret
        have hm := Nat.mod_lt (x + 5) (show N > 0 by omega)
        exact ⟨(x + 5) % N, ret_int (by simp), hm, hbr⟩

end Go.Proofs.Ytandibofnpndlaa
