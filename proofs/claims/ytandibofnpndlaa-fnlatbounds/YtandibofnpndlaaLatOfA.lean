/-
  The program's closure of a relation.
-/
import Derived.Test.YtandibofnpndlaaLatFns
import Derived.Test.YtandibofnpndlaaMathD
import Derived.Test.YtandibofnpndlaaOnly
namespace Go.Proofs.Ytandibofnpndlaa
open Go.RowKit

theorem us_row {xs : List Nat} {k : Nat} (h : k < xs.length) : (us xs)[k]? = some (.int .u64 (row xs k : Int)) := us_at h
theorem rowStep_row {R : Nat → Nat → Bool} {n k a : Nat} (ha : a < n) : row (rowsOf (rowStep R k a) n) a = pack (R a) n := by
  rw [rowsOf_row ha]; exact pack_congr fun i _ => by simp [rowStep]
theorem rowStep_key {R : Nat → Nat → Bool} {n k a : Nat} (hk : k < n) : row (rowsOf (rowStep R k a) n) k = pack (R k) n := by
  rw [rowsOf_row hk]
  refine pack_congr fun i _ => ?_
  unfold rowStep
  split
  · exact stepR_row R k i
  · rfl
set_option maxHeartbeats 1000000 in
theorem closeRows_any (g n : Nat) (R : Nat → Nat → Bool) (w : World) (hown : Own w g 67 (us (rowsOf R n))) (hn : n ≤ 16) :
    Calls Try.prog 62 #[.slice (some ⟨g, 0, none⟩) n n] w fun e w' => e = .returned (.tuple #[]) ∧ Own w' g 67 (us (rowsOf (closTo R n) n)) ∧ w.grownBy w' (some g) := by
  go_enter Try.func62, Try.ntmps62
  go_wp2
  go_loopw [6] (fun i wr => ∃ k : Nat, k ≤ n ∧ i = .int .i64 k ∧ Own wr g 67 (us (rowsOf (closTo R k) n)) ∧ w.grownBy wr (some g)) (fun i _ => n - (intOf i).toNat)
  case atStart => exact ⟨0, Nat.zero_le _, rfl, hown, World.grownBy.refl _ _⟩
  case round =>
    obtain ⟨k, hk, rfl, ho, hg⟩ := hrel
    by_cases hlt : k < n
    · go_wp2
      go_loopw [11] (fun i wr' => ∃ a : Nat, a ≤ n ∧ i = .int .i64 a ∧ Own wr' g 67 (us (rowsOf (rowStep (closTo R k) k a) n)) ∧ w.grownBy wr' (some g)) (fun i _ => n - (intOf i).toNat)
      case atStart => exact ⟨0, Nat.zero_le _, rfl, by rw [rowStep_zero]; exact ho, hg⟩
      case round =>
        clear ho hg
        obtain ⟨a, ha, rfl, ho, hg⟩ := hrel
        by_cases hla : a < n
        · have ca : wr.cell? ⟨g, a, none⟩ = some (.int .u64 (pack (closTo R k a) n : Int)) := by
            rw [ho.cell, us_row (by rw [rowsOf_length]; exact hla), rowStep_row hla]
          have ck : wr.cell? ⟨g, k, none⟩ = some (.int .u64 (pack (closTo R k k) n : Int)) := by
            rw [ho.cell, us_row (by rw [rowsOf_length]; exact hlt), rowStep_key hlt]
          have h64 : 2 ^ n ≤ 2 ^ 64 := Nat.pow_le_pow_right (by omega) (by omega)
          have hpa : pack (closTo R k a) n < 18446744073709551616 := Nat.lt_of_lt_of_le (pack_lt _ _) h64
          have hpk : pack (closTo R k k) n < 18446744073709551616 := Nat.lt_of_lt_of_le (pack_lt _ _) h64
          clear h64
          have hbb := pack_bit (closTo R k a) n k
          simp only [hlt, decide_true, Bool.true_and] at hbb
          cases hbit : closTo R k a k with
          | false =>
            rw [hbit] at hbb
            go_wp2_with (go_at_call 70; refine (hasLabel_is (pack (closTo R k a) n) k false _ hpa (by omega) hbb).mono ?_; rintro e w' ⟨rfl, rfl⟩)
            go_roundw
            case rel => exact ⟨a + 1, by omega, by go_num, by rw [← rowsOf_pass hbit]; exact ho, hg⟩
            case measure => simp [intOf]; omega
          | true =>
            rw [hbit] at hbb
            have hor := or_nat (pack (closTo R k a) n) (pack (closTo R k k) n) hpa hpk
            have HS := Lib.hid (rowsOf_step (n := n) hbit)
            have HB := Lib.hid hbb
            clear hbb hbit
            have ga : ∀ u : Bel wr, u.w.cell? ⟨g, a, none⟩ = some (.int .u64 (pack (closTo R k a) n : Int)) := fun u => (u.ok.cell (p := ⟨g, a, none⟩) ho.lt).trans ca
            have gk : ∀ u : Bel wr, u.w.cell? ⟨g, k, none⟩ = some (.int .u64 (pack (closTo R k k) n : Int)) := fun u => (u.ok.cell (p := ⟨g, k, none⟩) ho.lt).trans ck
            go_wp2_with (go_at_call 70; refine (hasLabel_is (pack (closTo R k a) n) k true _ hpa (by omega) HB.out).mono ?_; rintro e w' ⟨rfl, rfl⟩)
            refine wp_region_belt 10 (by kernel_rfl) (by kernel_rfl) ?_
            simp only [List.take_succ_cons, List.take_zero, List.drop_succ_cons, List.drop_zero]
            repeat (go_big_quiet_step (fail))
            refine wpQuiet_nil ?_
            rintro _ ⟨u, rfl⟩
            have ho2 := ho.grow u.ok
            have hg2 := only_grow hg u.ok
            have hfu := ho2.free a
            have hcu := ga u
            have s2 := ho2.set a (.int .u64 ((pack (closTo R k a) n ||| pack (closTo R k k) n : Nat) : Int))
            rw [us_set, HS.out] at s2
            have HS2 := Lib.hid s2
            clear s2 ga gk ca ck
            go_wp2
            go_roundw
            case rel => exact ⟨a + 1, by omega, by go_num, HS2.out, only_set hg2⟩
            case measure => simp [intOf]; omega
        · go_wp2
          go_roundw
          case rel =>
            refine ⟨k + 1, by omega, by go_num, ?_, hg⟩
            have e : a = n := by omega
            subst e
            have h2 : rowsOf (closTo R (k + 1)) a = rowsOf (rowStep (closTo R k) k a) a := (rowsOf_stepAll _ _ _).symm
            rw [h2]; exact ho
          case measure => simp [intOf]; omega
    · go_wp2
      go_end0
      have e : k = n := by omega
      subst e
      exact ⟨rfl, ho, hg⟩

end Go.Proofs.Ytandibofnpndlaa
