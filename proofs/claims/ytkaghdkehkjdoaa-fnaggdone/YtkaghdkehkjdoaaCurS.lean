/-
  The cursor's size: what it returns.
-/
import Derived.Test.YtkaghdkehkjdoaaCurR
namespace Go.Proofs.Ytkaghdkehkjdoaa
open Go.RowKit

set_option maxHeartbeats 1000000 in
theorem size_any (g : Nat) (A : Option Addr) (n c m : Nat) (N : Nat) (w : World) (h : Cur w g A n c m) (hn : n ≤ 1048576) (hm : m ≤ 1099511627776) (hN : N ≤ 1000) :
    Calls Try.prog 73 #[.pointer (some ⟨g, 0, none⟩), .int .i64 (N : Int)] w fun e w' => ∃ r : Nat, e = .returned (.int .i64 r) ∧ r ≤ N ∧ Cur w' g A n c (m + 1) ∧ w.grownBy w' (some g) := by
  have HC := Lib.hid h
  obtain ⟨i, s, ho, hi, hs⟩ := h.ex
  obtain ⟨c0, c1, c2⟩ := ho.three
  clear h ho
  have hd : 0 ≤ (n : Int) / 8 ∧ (n : Int) / 8 ≤ 1048576 := by omega
  by_cases hN1 : (N : Int) ≤ 1 + (n : Int) / 8
  · go_enter Try.func73, Try.ntmps73
    go_wp2_with (go_at_call 74; refine (pick_any g A n c m _ _ HC.out hn hm (by omega) (by omega)).mono ?_; rintro e w' ⟨r, rfl, hr, hC, hG⟩)
    go_ret
    exact ⟨r, rfl, by omega, hC, hG⟩
  · go_enter Try.func73, Try.ntmps73
    go_wp2_with (go_at_call 74; refine (pick_any g A n c m _ _ HC.out hn hm (by omega) (by omega)).mono ?_; rintro e w' ⟨r, rfl, hr, hC, hG⟩)
    go_ret
    exact ⟨r, rfl, by omega, hC, hG⟩
end Go.Proofs.Ytkaghdkehkjdoaa
