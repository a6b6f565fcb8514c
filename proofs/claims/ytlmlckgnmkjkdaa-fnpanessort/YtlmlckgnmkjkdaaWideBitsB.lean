/-
  The model's division and its way back from bits.
-/
import Derived.Test.YtlmlckgnmkjkdaaWideBits
namespace Go.Proofs.Ytlmlckgnmkjkdaa
open Go.RowKit

/-- the bits of Q from m on, and zeros below -/
def outTo (Q m : Nat) : List Int := (List.range 128).map fun j => if j < m then 0 else (bit Q j : Int)
theorem outTo_length (Q m : Nat) : (outTo Q m).length = 128 := by simp [outTo]
theorem outTo_start (Q : Nat) : outTo Q 128 = List.replicate 128 0 := by
  apply List.ext_getElem
  · simp [outTo]
  · intro i h1 h2
    have : i < 128 := by simpa [outTo] using h1
    rw [List.getElem_replicate]
    simp only [outTo, List.getElem_map, List.getElem_range, if_pos this]
theorem outTo_zero (Q : Nat) : outTo Q 0 = bitsTo Q 128 := by simp [outTo, bitsTo]
theorem outTo_one {Q k : Nat} (hb : bit Q k = 1) : (outTo Q (k + 1)).set k 1 = outTo Q k := by
  apply List.ext_getElem
  · simp [outTo]
  · intro i h1 h2
    rw [List.getElem_set]
    simp only [outTo, List.getElem_map, List.getElem_range]
    by_cases e : k = i
    · subst e; simp [hb]
    · rw [if_neg e]
      by_cases h3 : i < k
      · rw [if_pos (by omega), if_pos h3]
      · rw [if_neg (by omega), if_neg h3]
theorem outTo_nil {Q k : Nat} (hb : bit Q k = 0) : outTo Q (k + 1) = outTo Q k := by
  unfold outTo
  refine List.map_congr_left fun i _ => ?_
  by_cases e : k = i
  · subst e; simp [hb]
  · by_cases h3 : i < k
    · rw [if_pos (by omega), if_pos h3]
    · rw [if_neg (by omega), if_neg h3]

theorem bit_step (Z k : Nat) : Z / 2 ^ k = 2 * (Z / 2 ^ (k + 1)) + bit Z k := by
  unfold bit
  rw [Nat.pow_succ, ← Nat.div_div_eq_div_mul]
  omega
theorem div_step (Z n k : Nat) (hn : 0 < n) : Z / 2 ^ k / n = 2 * (Z / 2 ^ (k + 1) / n) + (2 * (Z / 2 ^ (k + 1) % n) + bit Z k) / n ∧ Z / 2 ^ k % n = (2 * (Z / 2 ^ (k + 1) % n) + bit Z k) % n := by
  rw [bit_step Z k]
  have e := Nat.div_add_mod (Z / 2 ^ (k + 1)) n
  generalize Z / 2 ^ (k + 1) = T at *
  generalize bit Z k = b
  have e2 : 2 * T + b = (2 * (T % n) + b) + n * (2 * (T / n)) := by
    conv => lhs; rw [← e]
    rw [Nat.mul_add, Nat.mul_left_comm]; omega
  rw [e2, Nat.add_mul_div_left _ _ hn, Nat.add_mul_mod_self_left, Nat.add_comm]
  exact ⟨rfl, rfl⟩
theorem bit_div (Z n k : Nat) : bit (Z / n) k = Z / 2 ^ k / n % 2 := by
  unfold bit; rw [Nat.div_div_eq_div_mul, Nat.div_div_eq_div_mul, Nat.mul_comm]
theorem rest_big {Z n k : Nat} (hn : 0 < n) (h : n ≤ 2 * (Z / 2 ^ (k + 1) % n) + bit Z k) : bit (Z / n) k = 1 ∧ Z / 2 ^ k % n = 2 * (Z / 2 ^ (k + 1) % n) + bit Z k - n := by
  have h1 := Nat.mod_lt (Z / 2 ^ (k + 1)) hn
  have hb := bitN_lt Z k
  obtain ⟨h2, h3⟩ := div_step Z n k hn
  rw [bit_div]
  generalize Z / 2 ^ (k + 1) % n = r at *
  generalize bit Z k = b at *
  have e1 : (2 * r + b) / n = 1 := by
    rw [Nat.div_eq_iff hn]; omega
  have e2 := Nat.div_add_mod (2 * r + b) n
  rw [e1] at h2 e2
  rw [h2, h3]
  omega
theorem rest_small {Z n k : Nat} (hn : 0 < n) (h : 2 * (Z / 2 ^ (k + 1) % n) + bit Z k < n) : bit (Z / n) k = 0 ∧ Z / 2 ^ k % n = 2 * (Z / 2 ^ (k + 1) % n) + bit Z k := by
  obtain ⟨h2, h3⟩ := div_step Z n k hn
  rw [bit_div]
  rw [Nat.div_eq_of_lt h] at h2
  rw [Nat.mod_eq_of_lt h] at h3
  exact ⟨by rw [h2]; omega, h3⟩

/-- The call hands back a row of its own that reads as these bits, and a number. -/
def DivRes (w : World) (Q r : Nat) (e : Ending) (w' : World) : Prop := ∃ g, e = .returned (.tuple #[.slice (some ⟨g, 0, none⟩) 128 128, .int .i64 (r : Int)]) ∧ w.heap.size ≤ g ∧ Own w' g 3 (iz (bitsTo Q 128)) ∧ Below w.heap.size w w'

set_option maxHeartbeats 1000000 in
theorem l02Divide_any (A : Option Addr) (c Z n : Nat) (w : World) (hA : Rd w A (iz (bitsTo Z 128))) (hZ : Z < 2 ^ 128) (hn : 1 ≤ n) (hn2 : n ≤ 1000000) :
    Calls Try.prog 121 #[.slice A 128 c, .int .i64 (n : Int)] w (DivRes w (Z / n) (Z % n)) := by
  have hmk := make_int 128 (by omega)
  rw [show ((128 : Nat) : Int) = 128 from rfl, ← outTo_start (Z / n)] at hmk
  obtain ⟨ad, rfl, hcs⟩ := rd_int hA (by simp [bitsTo_length])
  have HC := Lib.hid (fun W (h : Below w.heap.size w W) i (hi : i < 128) => (hcs W h i (by rw [bitsTo_length]; exact hi)).trans (by rw [bitsTo_at hi]))
  have HZ := Lib.hid (show Z / 2 ^ 128 % n = 0 by rw [Nat.div_eq_of_lt hZ, Nat.zero_mod])
  clear hcs hA hZ
  generalize hQ : Z / n = Q at *
  generalize hR : Z % n = R at *
  have HQ := Lib.hid (And.intro hQ hR)
  clear hQ hR
  go_enter Try.func121, Try.ntmps121
  go_wp2
  clear hmk
  go_loopw [7, 8] (fun r i wr => ∃ (m : Nat) (j x : Int), m ≤ 128 ∧ i = .int .i64 j ∧ r = .int .i64 x ∧ j = (m : Int) - 1 ∧ 0 ≤ x ∧ x < (n : Int) ∧ Hid (x = ((Z / 2 ^ m % n : Nat) : Int)) ∧ Own wr w.heap.size 3 (iz (outTo Q m)) ∧ Below w.heap.size w wr) (fun _ i _ => (intOf i + 1).toNat)
  case atStart => exact ⟨128, 127, 0, by omega, rfl, rfl, rfl, by omega, by omega, Lib.hid (by rw [HZ.out]; rfl), Own.new _ _ _, below_alloc _ _⟩
  case round =>
    obtain ⟨m, j, x, hm, rfl, rfl, hj, x0, x1, hx, hown, hbel⟩ := hrel
    rcases Nat.eq_zero_or_pos m with rfl | hm0
    · obtain rfl : j = -1 := by omega
      clear hj
      go_wp2
      go_ret2
      refine ⟨_, ?_, Nat.le_refl _, by rw [← outTo_zero]; exact hown, hbel⟩
      rw [hx.out, Nat.pow_zero, Nat.div_one, HQ.out.2]
      rfl
    · obtain ⟨k, rfl⟩ : ∃ k, m = k + 1 := ⟨m - 1, by omega⟩
      obtain rfl : j = (k : Int) := by omega
      have hk : k < 128 := by omega
      have ga : wr.cell? (ad.add k) = some (.int .i64 (bit Z k : Int)) := HC.out _ hbel k hk
      have hb0 : (0 : Int) ≤ (bit Z k : Int) := by omega
      have hb1 : (bit Z k : Int) ≤ 1 := by have := bitN_lt Z k; omega
      generalize hbi : (bit Z k : Int) = b at ga hb0 hb1
      have HB := Lib.hid hbi
      clear hbi hj
      by_cases hbig : (n : Int) ≤ 2 * x + b
      · have HD := Lib.hid (rest_big (Z := Z) (n := n) (k := k) (by omega) (by have h1 := hx.out; have h2 := HB.out; omega))
        have hcf : wr.cell? ⟨w.heap.size, k, none⟩ = some (.int .i64 (iat (outTo Q (k + 1)) k)) := by
          rw [hown.cell, iz_iat (by rw [outTo_length]; exact hk)]
        have hff := hown.free k
        generalize iat (outTo Q (k + 1)) k = old at hcf
        go_wp2
        go_roundw
        case rel => exact ⟨k, (k : Int) - 1, 2 * x + b - n, by omega, rfl, rfl, rfl, by omega, by omega, Lib.hid (by have h1 := hx.out; have h2 := HB.out; have h3 := HD.out.2; omega), by rw [← outTo_one (by rw [← HQ.out.1]; exact HD.out.1), ← iz_set]; exact hown.set k _, hbel.setCell (Nat.le_refl _) _⟩
        case measure => simp [intOf]
      · have HD := Lib.hid (rest_small (Z := Z) (n := n) (k := k) (by omega) (by have h1 := hx.out; have h2 := HB.out; omega))
        go_wp2
        go_roundw
        case rel => exact ⟨k, (k : Int) - 1, 2 * x + b, by omega, rfl, rfl, rfl, by omega, by omega, Lib.hid (by have h1 := hx.out; have h2 := HB.out; have h3 := HD.out.2; omega), by rw [← outTo_nil (by rw [← HQ.out.1]; exact HD.out.1)]; exact hown, hbel⟩
        case measure => simp [intOf]
end Go.Proofs.Ytlmlckgnmkjkdaa
