/-
  The model's LatLe, LatJoin and LatMeet.
-/
import Derived.Test.YtipcjofmplpffaaLatSpecC
namespace Go.Proofs.Ytipcjofmplpffaa
open Go.RowKit

set_option maxHeartbeats 1000000 in
theorem l01Label_any (N : Int) (A : Option Addr) (ca : Nat) (xs : List Nat) (a : Int) (w : World) (hA : Rd w A (us xs)) (hu : U64 xs) (hn : xs.length ≤ 1048576) :
    Calls Try.prog 68 #[.agg #[.int .i64 N, .slice A xs.length ca], .int .i64 a] w fun e w' => e = .returned (.bool (tf (LatP N xs ∧ Lab xs a))) ∧ Below w.heap.size w w' := by
  have HA := Lib.hid (fun W (h : Below w.heap.size w W) => hA.below h)
  clear hA
  go_enter Try.func68, Try.ntmps68
  go_wp2_with fail
  by_cases hL : LatP N xs
  · refine (as_bool (tf_yes hL).symm (specLatOk_any N A ca xs _ (HA.out _ (below_alloc _ _)) hu hn)).mono ?_
    obtain ⟨hN, _, _⟩ := hL.len
    have HL := Lib.hid hL
    have HN := Lib.hid hN
    clear hL hN
    rintro e w1 ⟨rfl, hb1⟩
    obtain ⟨ho1, hB1⟩ := box_own hb1
    clear hb1
    obtain ⟨c0, c1⟩ := ho1.two
    by_cases h1 : 0 ≤ a
    · by_cases h2 : a < N
      · have hd : decide (a < N) = true := by simpa using h2
        go_wp2
        go_ret
        refine ⟨ret_bool (tf_yes ⟨HL.out, h1, by rw [HN.out]; exact h2⟩), hB1⟩
      · have hd : decide (a < N) = false := by simpa using h2
        go_wp2
        go_ret
        refine ⟨ret_bool (tf_no (fun h => by have := h.2.2; rw [HN.out] at this; omega)), hB1⟩
    · have hd : decide (0 ≤ a) = false := by simpa using h1
      go_wp2
      go_ret
      exact ⟨ret_bool (tf_no (fun h => by have := h.2.1; omega)), hB1⟩
  · refine (as_bool (tf_no hL).symm (specLatOk_any N A ca xs _ (HA.out _ (below_alloc _ _)) hu hn)).mono ?_
    have HL := Lib.hid hL
    clear hL
    rintro e w1 ⟨rfl, hb1⟩
    go_wp2
    go_ret
    exact ⟨ret_bool (tf_no (fun h => HL.out h.1)), (box_own hb1).2⟩

theorem lab_both {N : Int} {xs : List Nat} {a b : Int} : LatP N xs ∧ Lab xs a ∧ Lab xs b ↔ (LatP N xs ∧ Lab xs a) ∧ (LatP N xs ∧ Lab xs b) :=
  ⟨fun h => ⟨⟨h.1, h.2.1⟩, ⟨h.1, h.2.2⟩⟩, fun h => ⟨h.1.1, h.1.2, h.2.2⟩⟩

end Go.Proofs.Ytipcjofmplpffaa
