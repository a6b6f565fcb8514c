/-
  The cursor's raw.
-/
import Derived.Test.YtkaghdkehkjdoaaCur
namespace Go.Proofs.Ytkaghdkehkjdoaa
open Go.RowKit

theorem grown_trans {a b c : World} {r : Option Nat} (h : a.grownBy b r) (k : b.grownBy c r) : a.grownBy c r := grownBy_trans h k

theorem own_far {w w' : World} {g h : Nat} {t : TypeId} {cs : List Value} (ho : Own w h t cs) (hg : w.grownBy w' (some g)) (hne : h ≠ g) : Own w' h t cs :=
  (hg.block h ho.lt (by simpa using hne)).trans ho
/-- the numbers that raw takes one of -/
def rawLit : List Value := [.int .i64 9223372036854775807, .int .i64 (-9223372036854775808), .int .i64 4611686018427387904, .int .i64 9223372036854775806, .int .i64 4294967296, .int .i64 (-1000), .int .i64 1000, .int .i64 16]
theorem rawLit_at (r : Nat) (h : r < 8) : ∃ v, rawLit[r]? = some (.int .i64 v) ∧ -9223372036854775808 ≤ v ∧ v ≤ 9223372036854775807 := by
  match r, h with
  | 0, _ | 1, _ | 2, _ | 3, _ | 4, _ | 5, _ | 6, _ | 7, _ => exact ⟨_, rfl, by decide, by decide⟩

set_option maxHeartbeats 1000000 in
theorem raw_any (g : Nat) (A : Option Addr) (n c m : Nat) (w : World) (h : Cur w g A n c m) (hn : n ≤ 1048576) (hm : m ≤ 1099511627000) :
    Calls Try.prog 75 #[.pointer (some ⟨g, 0, none⟩)] w fun e w' => ∃ r : Int, e = .returned (.int .i64 r) ∧ -9223372036854775808 ≤ r ∧ r ≤ 9223372036854775807 ∧ Cur w' g A n c (m + 2) ∧ w.grownBy w' (some g) := by
  go_enter Try.func75, Try.ntmps75
  go_wp2_with fail
  go_at_call 74
  refine (pick_any g A n c m 8 _ h hn (by omega) (by omega) (by omega)).mono ?_
  rintro e w' ⟨r, rfl, hr, hC, hG⟩
  go_wp2_with fail
  · go_at_call 74
    refine (pick_any g A n c (m + 1) 256 _ hC hn (by omega) (by omega) (by omega)).mono ?_
    rintro e w2 ⟨r2, rfl, hr2, hC2, hG2⟩
    go_wp2
    go_ret
    exact ⟨_, rfl, by omega, by omega, hC2, grown_trans hG hG2⟩
  · go_at_call 74
    refine (pick_any g A n c (m + 1) 8 _ (hC.grow (below_alloc _ _)) hn (by omega) (by omega) (by omega)).mono ?_
    rintro e w2 ⟨r2, rfl, hr2, hC2, hG2⟩
    have hO := own_far (Own.new w' 3 rawLit) hG2 (by have := hC.lt; omega)
    obtain ⟨v, hv, hv1, hv2⟩ := rawLit_at r2 (by omega)
    have hcell : w2.cell? ⟨w'.heap.size, r2, none⟩ = some (.int .i64 v) := (hO.cell r2).trans hv
    have HO := Lib.hid hO
    have hG3 := grown_trans hG (grown_trans (World.grownBy_alloc _ _ _) hG2)
    clear hO hv
    go_wp2
    go_ret
    exact ⟨_, rfl, hv1, hv2, hC2, hG3⟩
  · go_at_call 74
    refine (pick_any g A n c (m + 1) 14 _ hC hn (by omega) (by omega) (by omega)).mono ?_
    rintro e w2 ⟨r2, rfl, hr2, hC2, hG2⟩
    go_wp2
    go_ret
    exact ⟨_, rfl, by omega, by omega, hC2, grown_trans hG hG2⟩

end Go.Proofs.Ytkaghdkehkjdoaa
