/-
  The model's l02Wide, and its WideMean.
-/
import Derived.Test.YtlmlckgnmkjkdaaWideBitsB
namespace Go.Proofs.Ytlmlckgnmkjkdaa
open Go.RowKit

set_option maxHeartbeats 1000000 in
theorem l02Wide_any (A : Option Addr) (c Q : Nat) (w : World) (hA : Rd w A (iz (bitsTo Q 128))) (hQ : Q < 2 ^ 128) :
    Calls Try.prog 123 #[.slice A 128 c] w (WideRes w (hi Q) (lo Q)) := by
  obtain ⟨Y, L, eQ, hY, hL⟩ : ∃ Y L, Q = Y * 18446744073709551616 + L ∧ Y < 18446744073709551616 ∧ L < 18446744073709551616 := ⟨Q / 18446744073709551616, Q % 18446744073709551616, by omega, by omega, by omega⟩
  have eh : hi Q = wrap64 (Y : Int) := by rw [eQ]; unfold hi wrap64; omega
  have el : lo Q = (L : Int) := by rw [eQ]; unfold lo; omega
  rw [eh, el]
  obtain ⟨ad, rfl, hcs⟩ := rd_int hA (by simp [bitsTo_length])
  have HC := Lib.hid (show ∀ W, Below w.heap.size w W → ∀ i, i < 64 → W.cell? (ad.add i) = some (.int .i64 (bit L i : Int)) ∧ W.cell? (ad.add (64 + i)) = some (.int .i64 (bit Y i : Int)) from fun W h i hi => ⟨by
    rw [hcs W h i (by rw [bitsTo_length]; omega), bitsTo_at (by omega), eQ, bit_low L Y i hi], by
    rw [hcs W h (64 + i) (by rw [bitsTo_length]; omega), bitsTo_at (by omega), eQ, bit_high L Y i hL]⟩)
  have HL := Lib.hid (And.intro hY hL)
  clear hcs hA hQ eh el eQ hY hL
  go_enter Try.func123, Try.ntmps123
  go_wp2
  go_loop [3, 4, 5] (fun x y i => ∃ (m : Nat) (j l h : Int), m ≤ 64 ∧ i = .int .i64 j ∧ x = .int .u64 l ∧ y = .int .u64 h ∧ Hid (j = (m : Int) - 1 ∧ l = ((L / 2 ^ m : Nat) : Int) ∧ h = ((Y / 2 ^ m : Nat) : Int))) (fun _ _ i => (intOf i + 1).toNat)
  case atStart =>
    refine ⟨64, 63, 0, 0, by omega, rfl, rfl, rfl, Lib.hid ⟨by omega, ?_, ?_⟩⟩
    · rw [Nat.div_eq_of_lt (by have := HL.out; omega)]; rfl
    · rw [Nat.div_eq_of_lt (by have := HL.out; omega)]; rfl
  case round =>
    obtain ⟨m, j, l, h, hm, rfl, rfl, rfl, hx⟩ := hrel
    rcases Nat.eq_zero_or_pos m with rfl | hm0
    · obtain rfl : j = -1 := by have := hx.out.1; omega
      obtain rfl : l = (L : Int) := by have := hx.out.2.1; simpa using this
      obtain rfl : h = (Y : Int) := by have := hx.out.2.2; simpa using this
      go_wp2
      exact bodyPost_ret (v := .agg #[.int .i64 (wrap64 (Y : Int)), .int .u64 (L : Int)]) (by simp [results, Try.results123, go_sem]) rfl ⟨rfl, below_alloc _ _⟩
    · obtain ⟨k, rfl⟩ : ∃ k, m = k + 1 := ⟨m - 1, by omega⟩
      obtain rfl : j = (k : Int) := by have := hx.out.1; omega
      have hk : (k : Int) < 64 := by omega
      have e1 := bit_step L k
      have e2 := bit_step Y k
      have b1 := Nat.div_le_self L (2 ^ k)
      have b2 := Nat.div_le_self Y (2 ^ k)
      obtain ⟨g1, g2⟩ := HC.out _ (below_alloc w (.cells #[.int .i64 0, .int .u64 0] 70)) k (by omega)
      obtain ⟨bl, hbl⟩ : ∃ b : Int, (bit L k : Int) = b := ⟨_, rfl⟩
      obtain ⟨bh, hbh⟩ : ∃ b : Int, (bit Y k : Int) = b := ⟨_, rfl⟩
      rw [hbl] at g1
      rw [hbh] at g2
      have l0 : 0 ≤ l := by have := hx.out.2.1; omega
      have h0 : 0 ≤ h := by have := hx.out.2.2; omega
      have p1 : 0 ≤ bl := by omega
      have p2 : 0 ≤ bh := by omega
      have q1 : bl ≤ 1 := by have := bitN_lt L k; omega
      have q2 : bh ≤ 1 := by have := bitN_lt Y k; omega
      have HN := Lib.hid (show 2 * l + bl = ((L / 2 ^ k : Nat) : Int) ∧ 2 * h + bh = ((Y / 2 ^ k : Nat) : Int) by have := hx.out.2; omega)
      have l1 : 2 * l + bl ≤ 18446744073709551615 := by have h1 := HN.out.1; have h2 := HL.out.2; omega
      have h1 : 2 * h + bh ≤ 18446744073709551615 := by have h1 := HN.out.2; have h2 := HL.out.1; omega
      clear e1 e2 b1 b2 hbl hbh
      go_wp2
      go_round
      case rel => exact ⟨k, (k : Int) - 1, 2 * l + bl, 2 * h + bh, by omega, rfl, rfl, rfl, Lib.hid ⟨rfl, HN.out⟩⟩
      case measure => simp [intOf]
end Go.Proofs.Ytlmlckgnmkjkdaa
