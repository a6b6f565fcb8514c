/-
  The cursor's once and label.
-/
import Derived.Test.YtdphbfapccnhlaaCurR
namespace Go.Proofs.Ytdphbfapccnhlaa
open Go.RowKit

set_option maxHeartbeats 1000000 in
theorem once_any (g : Nat) (A : Option Addr) (n c m : Nat) (N : Int) (w : World) (h : Cur w g A n c m) (hn : n ≤ 1048576) (hm : m ≤ 1099511627776) (hN : 1 ≤ N) (hN2 : N ≤ 4611686018427387904) :
    Calls Try.prog 51 #[.pointer (some ⟨g, 0, none⟩), .int .i64 N] w fun e w' => ∃ r : Bool, e = .returned (.bool r) ∧ Cur w' g A n c (m + 1) ∧ w.grownBy w' (some g) := by
  go_enter Try.func51, Try.ntmps51
  go_wp2_with (go_at_call 50; refine (pick_any g A n c m N _ h hn hm hN hN2).mono ?_; rintro e w' ⟨r, rfl, hr, hC, hG⟩)
  go_ret
  exact ⟨_, rfl, hC, hG⟩

end Go.Proofs.Ytdphbfapccnhlaa
