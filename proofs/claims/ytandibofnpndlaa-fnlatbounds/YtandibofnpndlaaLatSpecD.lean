/-
  The model's LatLe, LatJoin and LatMeet.
-/
import Derived.Test.YtandibofnpndlaaLatSpecC
namespace Go.Proofs.Ytandibofnpndlaa
open Go.RowKit

set_option maxHeartbeats 1000000 in
theorem l01Label_any (N : Int) (A : Option Addr) (ca : Nat) (xs : List Nat) (a : Int) (w : World) (hA : Rd w A (us xs)) (hu : U64 xs) (hn : xs.length ≤ 1048576) :
    Calls Try.prog 68 #[.agg #[.int .i64 N, .slice A xs.length ca], .int .i64 a] w fun e w' => e = .returned (.bool (tf (LatP N xs ∧ Lab xs a))) ∧ Below w.heap.size w w' := by
  have HA := Lib.hid (fun W (h : Below w.heap.size w W) => hA.below h)
  clear hA
  go_enter Try.func68, Try.ntmps68
  go_wp2_with fail
  by_cases hL : LatP N xs
  · refine (as_bool (tf_yes hL).symm (specLatOk_any N A ca xs _ (HA.out _ (below_alloc _ _)) hu hn)).mono ?_
    obtain ⟨hN, _, _⟩ := hL.len
    have HL := Lib.hid hL
    have HN := Lib.hid hN
    clear hL hN
    rintro e w1 ⟨rfl, hb1⟩
    obtain ⟨ho1, hB1⟩ := box_own hb1
    clear hb1
    obtain ⟨c0, c1⟩ := ho1.two
    by_cases h1 : 0 ≤ a
    · by_cases h2 : a < N
      · have hd : decide (a < N) = true := by simpa using h2
        go_wp2
        go_ret
        refine ⟨ret_bool (tf_yes ⟨HL.out, h1, by rw [HN.out]; exact h2⟩), hB1⟩
      · have hd : decide (a < N) = false := by simpa using h2
        go_wp2
        go_ret
        refine ⟨ret_bool (tf_no (fun h => by have := h.2.2; rw [HN.out] at this; omega)), hB1⟩
    · have hd : decide (0 ≤ a) = false := by simpa using h1
      go_wp2
      go_ret
      exact ⟨ret_bool (tf_no (fun h => by have := h.2.1; omega)), hB1⟩
  · refine (as_bool (tf_no hL).symm (specLatOk_any N A ca xs _ (HA.out _ (below_alloc _ _)) hu hn)).mono ?_
    have HL := Lib.hid hL
    clear hL
    rintro e w1 ⟨rfl, hb1⟩
    go_wp2
    go_ret
    exact ⟨ret_bool (tf_no (fun h => HL.out h.1)), (box_own hb1).2⟩

theorem lab_both {N : Int} {xs : List Nat} {a b : Int} : LatP N xs ∧ Lab xs a ∧ Lab xs b ↔ (LatP N xs ∧ Lab xs a) ∧ (LatP N xs ∧ Lab xs b) :=
  ⟨fun h => ⟨⟨h.1, h.2.1⟩, ⟨h.1, h.2.2⟩⟩, fun h => ⟨h.1.1, h.1.2, h.2.2⟩⟩

set_option maxHeartbeats 1000000 in
theorem specLatJoin_any (N : Int) (A : Option Addr) (ca : Nat) (xs : List Nat) (a b : Int) (w : World) (hA : Rd w A (us xs)) (hu : U64 xs) (hn : xs.length ≤ 1048576) :
    Calls Try.prog 25 #[.agg #[.int .i64 N, .slice A xs.length ca], .int .i64 a, .int .i64 b] w fun e w' => e = .returned (.int .i64 (boundV N xs true a b)) ∧ Below w.heap.size w w' := by
  have HA := Lib.hid (fun W (h : Below w.heap.size w W) => hA.below h)
  clear hA
  go_enter Try.func25, Try.ntmps25
  go_wp2_with fail
  by_cases ha : LatP N xs ∧ Lab xs a
  · refine (as_bool (tf_yes ha).symm (l01Label_any N A ca xs a _ (HA.out _ (below_alloc _ _)) hu hn)).mono ?_
    have Ha := Lib.hid ha
    clear ha
    rintro e w1 ⟨rfl, hb1⟩
    obtain ⟨ho1, hB1⟩ := box_own hb1
    clear hb1
    obtain ⟨c0, c1⟩ := ho1.two
    go_wp2_with fail
    clear c0 c1
    by_cases hb : LatP N xs ∧ Lab xs b
    · refine (as_bool (tf_yes hb).symm (l01Label_any N A ca xs b _ (HA.out _ hB1) hu hn)).mono ?_
      have Hb := Lib.hid hb
      clear hb
      rintro e w2 ⟨rfl, hb2⟩
      have ho2 := ho1.grow hb2
      have hB2 := below_trans hB1 hb2
      clear hb2 ho1 hB1
      obtain ⟨hN, h1, h16⟩ := Ha.out.1.len
      subst hN
      obtain ⟨a, rfl⟩ := Int.eq_ofNat_of_zero_le Ha.out.2.1
      obtain ⟨b, rfl⟩ := Int.eq_ofNat_of_zero_le Hb.out.2.1
      have hal : a < xs.length := by have := Ha.out.2.2; omega
      have hbl : b < xs.length := by have := Hb.out.2.2; omega
      obtain ⟨c0, c1⟩ := ho2.two
      go_wp2_with fail
      clear c0 c1
      refine (l01Bound_any A ca xs a b true _ (HA.out _ hB2) hu h16 hal hbl).mono ?_
      rintro e w3 ⟨rfl, hb3⟩
      go_wp2
      go_ret
      exact ⟨ret_int (boundV_yes Ha.out.1 hal hbl), below_trans hB2 hb3⟩
    · refine (as_bool (tf_no hb).symm (l01Label_any N A ca xs b _ (HA.out _ hB1) hu hn)).mono ?_
      have Hb := Lib.hid hb
      clear hb
      rintro e w2 ⟨rfl, hb2⟩
      go_wp2
      go_ret
      exact ⟨ret_int (boundV_no (fun h => Hb.out (lab_both.1 h).2)), below_trans hB1 hb2⟩
  · refine (as_bool (tf_no ha).symm (l01Label_any N A ca xs a _ (HA.out _ (below_alloc _ _)) hu hn)).mono ?_
    have Ha := Lib.hid ha
    clear ha
    rintro e w1 ⟨rfl, hb1⟩
    go_wp2
    go_ret
    exact ⟨ret_int (boundV_no (fun h => Ha.out (lab_both.1 h).1)), (box_own hb1).2⟩

set_option maxHeartbeats 1000000 in
theorem specLatMeet_any (N : Int) (A : Option Addr) (ca : Nat) (xs : List Nat) (a b : Int) (w : World) (hA : Rd w A (us xs)) (hu : U64 xs) (hn : xs.length ≤ 1048576) :
    Calls Try.prog 26 #[.agg #[.int .i64 N, .slice A xs.length ca], .int .i64 a, .int .i64 b] w fun e w' => e = .returned (.int .i64 (boundV N xs false a b)) ∧ Below w.heap.size w w' := by
  have HA := Lib.hid (fun W (h : Below w.heap.size w W) => hA.below h)
  clear hA
  go_enter Try.func26, Try.ntmps26
  go_wp2_with fail
  by_cases ha : LatP N xs ∧ Lab xs a
  · refine (as_bool (tf_yes ha).symm (l01Label_any N A ca xs a _ (HA.out _ (below_alloc _ _)) hu hn)).mono ?_
    have Ha := Lib.hid ha
    clear ha
    rintro e w1 ⟨rfl, hb1⟩
    obtain ⟨ho1, hB1⟩ := box_own hb1
    clear hb1
    obtain ⟨c0, c1⟩ := ho1.two
    go_wp2_with fail
    clear c0 c1
    by_cases hb : LatP N xs ∧ Lab xs b
    · refine (as_bool (tf_yes hb).symm (l01Label_any N A ca xs b _ (HA.out _ hB1) hu hn)).mono ?_
      have Hb := Lib.hid hb
      clear hb
      rintro e w2 ⟨rfl, hb2⟩
      have ho2 := ho1.grow hb2
      have hB2 := below_trans hB1 hb2
      clear hb2 ho1 hB1
      obtain ⟨hN, h1, h16⟩ := Ha.out.1.len
      subst hN
      obtain ⟨a, rfl⟩ := Int.eq_ofNat_of_zero_le Ha.out.2.1
      obtain ⟨b, rfl⟩ := Int.eq_ofNat_of_zero_le Hb.out.2.1
      have hal : a < xs.length := by have := Ha.out.2.2; omega
      have hbl : b < xs.length := by have := Hb.out.2.2; omega
      obtain ⟨c0, c1⟩ := ho2.two
      go_wp2_with fail
      clear c0 c1
      refine (l01Bound_any A ca xs a b false _ (HA.out _ hB2) hu h16 hal hbl).mono ?_
      rintro e w3 ⟨rfl, hb3⟩
      go_wp2
      go_ret
      exact ⟨ret_int (boundV_yes Ha.out.1 hal hbl), below_trans hB2 hb3⟩
    · refine (as_bool (tf_no hb).symm (l01Label_any N A ca xs b _ (HA.out _ hB1) hu hn)).mono ?_
      have Hb := Lib.hid hb
      clear hb
      rintro e w2 ⟨rfl, hb2⟩
      go_wp2
      go_ret
      exact ⟨ret_int (boundV_no (fun h => Hb.out (lab_both.1 h).2)), below_trans hB1 hb2⟩
  · refine (as_bool (tf_no ha).symm (l01Label_any N A ca xs a _ (HA.out _ (below_alloc _ _)) hu hn)).mono ?_
    have Ha := Lib.hid ha
    clear ha
    rintro e w1 ⟨rfl, hb1⟩
    go_wp2
    go_ret
    exact ⟨ret_int (boundV_no (fun h => Ha.out (lab_both.1 h).1)), (box_own hb1).2⟩


set_option maxHeartbeats 1000000 in
theorem specLatLe_any (N : Int) (A : Option Addr) (ca : Nat) (xs : List Nat) (a b : Int) (w : World) (hA : Rd w A (us xs)) (hu : U64 xs) (hn : xs.length ≤ 1048576) :
    Calls Try.prog 45 #[.agg #[.int .i64 N, .slice A xs.length ca], .int .i64 a, .int .i64 b] w fun e w' => e = .returned (.bool (leV N xs a b)) ∧ Below w.heap.size w w' := by
  have HA := Lib.hid (fun W (h : Below w.heap.size w W) => hA.below h)
  clear hA
  go_enter Try.func45, Try.ntmps45
  go_wp2_with fail
  by_cases ha : LatP N xs ∧ Lab xs a
  · refine (as_bool (tf_yes ha).symm (l01Label_any N A ca xs a _ (HA.out _ (below_alloc _ _)) hu hn)).mono ?_
    have Ha := Lib.hid ha
    clear ha
    rintro e w1 ⟨rfl, hb1⟩
    obtain ⟨ho1, hB1⟩ := box_own hb1
    clear hb1
    obtain ⟨c0, c1⟩ := ho1.two
    go_wp2_with fail
    clear c0 c1
    by_cases hb : LatP N xs ∧ Lab xs b
    · refine (as_bool (tf_yes hb).symm (l01Label_any N A ca xs b _ (HA.out _ hB1) hu hn)).mono ?_
      have Hb := Lib.hid hb
      clear hb
      rintro e w2 ⟨rfl, hb2⟩
      have ho2 := ho1.grow hb2
      have hB2 := below_trans hB1 hb2
      clear hb2 ho1 hB1
      obtain ⟨hN, h1, h16⟩ := Ha.out.1.len
      subst hN
      obtain ⟨a, rfl⟩ := Int.eq_ofNat_of_zero_le Ha.out.2.1
      obtain ⟨b, rfl⟩ := Int.eq_ofNat_of_zero_le Hb.out.2.1
      have hal : a < xs.length := by have := Ha.out.2.2; omega
      have hbl : b < xs.length := by have := Hb.out.2.2; omega
      have hR := HA.out _ hB2
      obtain ⟨ad, rfl, hcs⟩ := hR.nat (by omega)
      have ga : w2.cell? (ad.add a) = some (.int .u64 (row xs a : Int)) := hcs _ (Below.refl _ _) a hal
      have hra : row xs a < 18446744073709551616 := hu.at a
      clear hcs hR
      obtain ⟨c0, c1⟩ := ho2.two
      go_wp2_with fail
      refine (l01Bit_any (row xs a) b _ hra (by omega)).mono ?_
      rintro e w' ⟨rfl, rfl⟩
      go_wp2
      go_ret
      exact ⟨ret_bool (leV_yes Ha.out.1 hal hbl), hB2⟩
    · refine (as_bool (tf_no hb).symm (l01Label_any N A ca xs b _ (HA.out _ hB1) hu hn)).mono ?_
      have Hb := Lib.hid hb
      clear hb
      rintro e w2 ⟨rfl, hb2⟩
      go_wp2
      go_ret
      exact ⟨ret_bool (leV_no (fun h => Hb.out (lab_both.1 h).2)), below_trans hB1 hb2⟩
  · refine (as_bool (tf_no ha).symm (l01Label_any N A ca xs a _ (HA.out _ (below_alloc _ _)) hu hn)).mono ?_
    have Ha := Lib.hid ha
    clear ha
    rintro e w1 ⟨rfl, hb1⟩
    go_wp2
    go_ret
    exact ⟨ret_bool (leV_no (fun h => Ha.out (lab_both.1 h).1)), (box_own hb1).2⟩

end Go.Proofs.Ytandibofnpndlaa
