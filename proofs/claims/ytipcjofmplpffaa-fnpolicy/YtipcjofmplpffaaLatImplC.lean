/-
  The program's test of bounds, and its reverse relation.
-/
import Derived.Test.YtipcjofmplpffaaLatImplB
namespace Go.Proofs.Ytipcjofmplpffaa
open Go.RowKit

theorem and_nat (x y : Nat) (hx : x < 18446744073709551616) (hy : y < 18446744073709551616) : bits .and .u64 (x : Int) (y : Int) = ((x &&& y : Nat) : Int) := u64_and_nat x y hx hy
theorem or_nat (x y : Nat) (hx : x < 18446744073709551616) (hy : y < 18446744073709551616) : bits .or .u64 (x : Int) (y : Int) = ((x ||| y : Nat) : Int) := u64_or_nat x y hx hy
theorem and_lt {x y m : Nat} (hx : x < m) : x &&& y < m := Nat.lt_of_le_of_lt Nat.and_le_left hx

set_option maxHeartbeats 1000000 in
theorem rowsBounded_any (A : Option Addr) (ca : Nat) (xs : List Nat) (w : World) (hA : Rd w A (us xs)) (hu : U64 xs) (hs : Small xs) (hn : xs.length ≤ 16) :
    Calls Try.prog 84 #[.slice A xs.length ca] w fun e w' => e = .returned (.bool (tf (Bnd xs true))) ∧ Below w.heap.size w w' := by
  have HS := Lib.hid hs
  clear hs
  go_enter Try.func84, Try.ntmps84
  go_wp2
  go_loopw [7] (fun i wr => ∃ k : Nat, k ≤ xs.length ∧ i = .int .i64 k ∧ Hid (∀ a, a < k → ∀ b, b < a → 0 ≤ bound xs true a b) ∧ Below w.heap.size w wr) (fun i _ => xs.length - (intOf i).toNat)
  case atStart => exact ⟨0, Nat.zero_le _, rfl, Lib.hid (fun c hc => by omega), Below.refl _ _⟩
  case round =>
    obtain ⟨k, hk, rfl, hpre, hbel⟩ := hrel
    by_cases hlt : k < xs.length
    · go_wp2
      go_loopw [11] (fun i wr' => ∃ j : Nat, j ≤ k ∧ i = .int .i64 j ∧ Hid (∀ b, b < j → 0 ≤ bound xs true k b) ∧ Below w.heap.size w wr') (fun i _ => k - (intOf i).toNat)
      case atStart => exact ⟨0, Nat.zero_le _, rfl, Lib.hid (fun c hc => by omega), hbel⟩
      case round =>
        obtain ⟨j, hj, rfl, hpre2, hbel2⟩ := hrel
        clear hbel
        by_cases hlt2 : j < k
        · have hj3 : j < xs.length := by omega
          obtain ⟨ad, rfl, hb1, hc1⟩ := hA k _ (us_at hlt)
          obtain ⟨ad', e', _, hc3⟩ := hA j _ (us_at hj3)
          obtain rfl : ad = ad' := by injection e'
          clear e'
          have hrow : row xs k < 18446744073709551616 := hu.at k
          have hrow2 : row xs j < 18446744073709551616 := hu.at j
          have hk2 : ∀ u : Bel wr, u.w.cell? (ad.add k) = some (.int .u64 (row xs k : Int)) := fun u => ((below_trans hbel2 u.ok).cell (by rw [add_block]; exact hb1)).trans hc1
          have hj2 : ∀ u : Bel wr, u.w.cell? (ad.add j) = some (.int .u64 (row xs j : Int)) := fun u => ((below_trans hbel2 u.ok).cell (by rw [add_block]; exact hb1)).trans hc3
          clear hc1 hc3
          have hand := and_nat (row xs k) (row xs j) hrow hrow2
          have hset : row xs k &&& row xs j < 18446744073709551616 := and_lt hrow
          have HLB := Lib.hid (least_bound hu HS.out k j hlt)
          have hR : ∀ u : Bel wr, Rd u.w (some ad) (us xs) := fun u => hA.below (below_trans hbel2 u.ok)
          have HR := Lib.hid hR
          clear hR
          by_cases hneg : bound xs true k j < 0
          · have hd : decide (least xs (row xs k &&& row xs j) < 0) = true := by rw [HLB.out]; simpa using hneg
            have HN := Lib.hid hneg
            clear hneg
            go_wp2
            refine wp_region_bel (by kernel_rfl) (by kernel_rfl) ?_
            repeat (go_big_quiet_step ((go_at_call 65; exact bel_of_same _ (leastIn_any (some ad) ca xs (row xs k &&& row xs j) _ (HR.out _) hu hset (by omega)))))
            refine wpQuiet_nil ?_
            rintro _ ⟨u, rfl⟩
            go_wp2
            go_ret
            exact ⟨ret_bool (tf_no (fun h => by have := h k hlt j hlt2; have := HN.out; omega)), below_trans hbel2 u.ok⟩
          · have hd : decide (least xs (row xs k &&& row xs j) < 0) = false := by rw [HLB.out]; simpa using hneg
            have HN := Lib.hid hneg
            clear hneg
            go_wp2
            refine wp_region_bel (by kernel_rfl) (by kernel_rfl) ?_
            repeat (go_big_quiet_step ((go_at_call 65; exact bel_of_same _ (leastIn_any (some ad) ca xs (row xs k &&& row xs j) _ (HR.out _) hu hset (by omega)))))
            refine wpQuiet_nil ?_
            rintro _ ⟨u, rfl⟩
            go_wp2
            go_roundw
            case rel => exact ⟨j + 1, by omega, by go_num, Lib.hid (all_next hpre2.out (by have := HN.out; omega)), below_trans hbel2 u.ok⟩
            case measure => simp [intOf]; omega
        · go_wp2
          go_roundw
          case rel => exact ⟨k + 1, by omega, by go_num, Lib.hid (all_next hpre.out (fun b hb => hpre2.out b (by omega))), hbel2⟩
          case measure => simp [intOf]; omega
    · go_wp2
      go_ret
      exact ⟨ret_bool (tf_yes (fun a ha => hpre.out a (by omega))), hbel⟩

/-! ### make([]uint64, n); the reverse relation -/

theorem info_int : (Try.prog.info? 3).map (fun i => (i.zero, i.size, i.bytes)) = some (some (.int .i64 0), 1, 8) := by kernel_rfl
theorem info_u64 : (Try.prog.info? 81).map (fun i => (i.zero, i.size, i.bytes)) = some (some (.int .u64 0), 1, 8) := by kernel_rfl

theorem make_u64 (n : Nat) (hn : n ≤ 1048576) (W : World) : (Instr.makeSlice 24 (.int .i64 (n : Int)) (.int .i64 (n : Int))).run Try.prog W = .ok (.slice (some ⟨W.heap.size, 0, none⟩) n n) (W.alloc (.cells (us (List.replicate n 0)).toArray 81)) := by
  obtain ⟨i0, hi, hz0, hz1, hz2⟩ := info_parts info_u64
  have h := run_make (P := Try.prog) W 24 81 i0 (.int .u64 0) Try.underlying24 hi hz0 .i64 .i64 n n (by omega) (by omega) (by rw [hz2]; omega) (by omega)
  rw [hz1, Int.toNat_natCast, made_zeros] at h
  exact h

def flipAt (xs : List Nat) (k j : Nat) : List Nat := (List.range xs.length).map fun r => if r < j then flipBits xs r (k + 1) else flipBits xs r k

theorem flipAt_length (xs : List Nat) (k j : Nat) : (flipAt xs k j).length = xs.length := by simp [flipAt]
theorem flipAt_zero (xs : List Nat) : flipAt xs 0 0 = List.replicate xs.length 0 := by
  apply List.ext_getElem
  · simp [flipAt]
  · intro i h1 h2
    simp [flipAt, flipBits]
theorem flipAt_next (xs : List Nat) (k : Nat) : flipAt xs k xs.length = flipAt xs (k + 1) 0 := by
  apply List.ext_getElem
  · simp [flipAt]
  · intro i h1 h2
    have : i < xs.length := by simpa [flipAt] using h1
    simp [flipAt, this]
theorem flipAt_end (xs : List Nat) : flipAt xs xs.length 0 = flip xs := by
  apply List.ext_getElem
  · simp [flipAt, flip]
  · intro i h1 h2
    simp [flipAt, flip]
theorem flipAt_row {xs : List Nat} {k j : Nat} (hj : j < xs.length) : row (flipAt xs k j) j = flipBits xs j k := by
  simp [row, flipAt, hj]
theorem flipAt_set {xs : List Nat} {k j : Nat} (h : le xs k j = true) : (flipAt xs k j).set j (flipBits xs j k ||| 2 ^ k) = flipAt xs k (j + 1) := by
  apply List.ext_getElem
  · simp [flipAt]
  · intro i h1 h2
    have hi : i < xs.length := by simpa [flipAt] using h2
    rw [List.getElem_set]
    by_cases e : j = i
    · subst e
      simp [flipAt, flipBits, h]
    · have e' : (i < j) = (i < j + 1) := by rw [eq_iff_iff]; omega
      simp [flipAt, e, e']
theorem flipAt_pass {xs : List Nat} {k j : Nat} (h : le xs k j = false) : flipAt xs k j = flipAt xs k (j + 1) := by
  apply List.ext_getElem
  · simp [flipAt]
  · intro i h1 h2
    by_cases e : j = i
    · subst e
      simp [flipAt, flipBits, h]
    · have e' : (i < j) = (i < j + 1) := by rw [eq_iff_iff]; omega
      simp [flipAt, e']
theorem us_set (xs : List Nat) (k v : Nat) : (us xs).set k (.int .u64 (v : Int)) = us (xs.set k v) := by
  simp [us, List.map_set]
theorem us_length (xs : List Nat) : (us xs).length = xs.length := by simp [us]

set_option maxHeartbeats 1000000 in
theorem flipRows_any (A : Option Addr) (ca : Nat) (xs : List Nat) (w : World) (hA : Rd w A (us xs)) (hu : U64 xs) (hn : xs.length ≤ 16) :
    Calls Try.prog 66 #[.slice A xs.length ca] w (Makes 81 w (us (flip xs)) id) := by
  have hmk := make_u64 xs.length (by omega)
  go_enter Try.func66, Try.ntmps66
  go_wp2
  clear hmk
  go_loopw [11] (fun i wr => ∃ k : Nat, k ≤ xs.length ∧ i = .int .i64 k ∧ Own wr w.heap.size 81 (us (flipAt xs k 0)) ∧ Below w.heap.size w wr) (fun i _ => xs.length - (intOf i).toNat)
  case atStart => exact ⟨0, Nat.zero_le _, rfl, by rw [flipAt_zero]; exact Own.new _ _ _, (Below.refl _ _).alloc (Nat.le_refl _) _⟩
  case round =>
    obtain ⟨k, hk, rfl, hown, hbel⟩ := hrel
    by_cases hlt : k < xs.length
    · go_wp2
      go_loopw [16] (fun i wr' => ∃ j : Nat, j ≤ xs.length ∧ i = .int .i64 j ∧ Own wr' w.heap.size 81 (us (flipAt xs k j)) ∧ Below w.heap.size w wr') (fun i _ => xs.length - (intOf i).toNat)
      case atStart => exact ⟨0, Nat.zero_le _, rfl, hown, hbel⟩
      case round =>
        obtain ⟨j, hj, rfl, hown2, hbel2⟩ := hrel
        clear hbel hown
        by_cases hlt2 : j < xs.length
        · obtain ⟨ad, rfl, hb1, hc1⟩ := hA k _ (us_at hlt)
          have hrow : row xs k < 18446744073709551616 := hu.at k
          have hk2 : wr.cell? (ad.add k) = some (.int .u64 (row xs k : Int)) := (hbel2.cell (by rw [add_block]; exact hb1)).trans hc1
          clear hc1
          have hfl : flipBits xs j k < 18446744073709551616 := Nat.lt_of_lt_of_le (flipBits_lt xs j k) (show 2 ^ k ≤ 2 ^ 64 from Nat.pow_le_pow_right (by omega) (by omega))
          have hpw : 2 ^ k < 18446744073709551616 := show 2 ^ k < 2 ^ 64 from Nat.pow_lt_pow_right (by omega) (by omega)
          have hcf : wr.cell? ⟨w.heap.size, j, none⟩ = some (.int .u64 (flipBits xs j k : Int)) := by
            rw [hown2.cell, us_at (by rw [flipAt_length]; exact hlt2)]
            rw [show (flipAt xs k j).getD j 0 = flipBits xs j k from flipAt_row hlt2]
          have hff := hown2.free j
          cases hbit : (row xs k).testBit j with
          | false =>
            go_wp2_with (go_at_call 86; refine (hasLabel_any (row xs k) j _ hrow (by omega)).mono ?_; rintro e w' ⟨rfl, rfl⟩)
            go_roundw
            case rel => exact ⟨j + 1, by omega, by go_num, by rw [← flipAt_pass hbit]; exact hown2, hbel2⟩
            case measure => simp [intOf]; omega
          | true =>
            have hor : bits .or .u64 (flipBits xs j k : Int) ((2 : Int) ^ k) = ((flipBits xs j k ||| 2 ^ k : Nat) : Int) := by
              rw [← or_nat (flipBits xs j k) (2 ^ k) hfl hpw]; simp
            go_wp2_with (go_at_call 86; refine (hasLabel_any (row xs k) j _ hrow (by omega)).mono ?_; rintro e w' ⟨rfl, rfl⟩)
            have hcg : ∀ u : Bel wr, u.w.cell? ⟨w.heap.size, j, none⟩ = some (.int .u64 (flipBits xs j k : Int)) := fun u => (u.ok.cell hown2.lt).trans hcf
            refine wp_region_belt 8 (by kernel_rfl) (by kernel_rfl) ?_
            simp only [List.take_succ_cons, List.take_zero, List.drop_succ_cons, List.drop_zero]
            repeat (go_big_quiet_step ((go_at_call 85; exact bel_of_same _ (labelBit_any k _ (by omega)))))
            refine wpQuiet_nil ?_
            rintro _ ⟨u, rfl⟩
            have hfu : u.w.frozen? ⟨w.heap.size, j, none⟩ = false := (hown2.grow u.ok).free j
            go_wp2
            go_roundw
            case rel => exact ⟨j + 1, by omega, by go_num, by rw [← flipAt_set hbit, ← us_set]; exact (hown2.grow u.ok).set j _, (below_trans hbel2 u.ok).setCell (Nat.le_refl _) _⟩
            case measure => simp [intOf]; omega
        · go_wp2
          go_roundw
          case rel => exact ⟨k + 1, by omega, by go_num, by rw [← flipAt_next]; rw [show xs.length = j by omega]; exact hown2, hbel2⟩
          case measure => simp [intOf]; omega
    · go_wp2
      go_ret
      refine ⟨w.heap.size, Nat.le_refl _, ?_, ?_, hbel⟩
      · simp [us_length, flip_length]
      · rw [← flipAt_end, show xs.length = k by omega]; exact hown

end Go.Proofs.Ytipcjofmplpffaa
