/-
  The model's bits of a 128-bit integer: l02Bits, l02Divide, l02Wide.
-/
import Derived.Test.YtlmlckgnmkjkdaaIntRows
import Derived.Test.YtlmlckgnmkjkdaaWideA
namespace Go.Proofs.Ytlmlckgnmkjkdaa
open Go.RowKit

def bit (X j : Nat) : Nat := X / 2 ^ j % 2
/-- the k lowest bits -/
def bitsTo (X k : Nat) : List Int := (List.range k).map fun j => (bit X j : Int)
theorem bitsTo_length (X k : Nat) : (bitsTo X k).length = k := by simp [bitsTo]
theorem bitsTo_next (X k : Nat) : bitsTo X (k + 1) = bitsTo X k ++ [(bit X k : Int)] := by simp [bitsTo, List.range_succ]
theorem bitsTo_at {X k j : Nat} (h : j < k) : iat (bitsTo X k) j = (bit X j : Int) := by simp [iat, bitsTo, h]
theorem bitN_lt (X j : Nat) : bit X j < 2 := Nat.mod_lt _ (by decide)
theorem bit_low (L Y j : Nat) (h : j < 64) : bit (Y * 18446744073709551616 + L) j = bit L j := by
  unfold bit
  have e : Y * 18446744073709551616 + L = L + 2 ^ j * (2 * (2 ^ (63 - j) * Y)) := by
    have : 2 ^ j * (2 * (2 ^ (63 - j) * Y)) = Y * 18446744073709551616 := by
      rw [← Nat.mul_assoc 2, ← Nat.mul_assoc, ← Nat.mul_assoc, Nat.mul_comm (2 ^ j) 2, ← Nat.pow_succ', ← Nat.pow_add, show j + 1 + (63 - j) = 64 by omega, Nat.mul_comm]
    omega
  rw [e, Nat.add_mul_div_left _ _ (Nat.pos_of_ne_zero (by simp)), Nat.add_mul_mod_self_left]
theorem bit_high (L Y j : Nat) (h : L < 18446744073709551616) : bit (Y * 18446744073709551616 + L) (64 + j) = bit Y j := by
  unfold bit
  rw [Nat.pow_add, ← Nat.div_div_eq_div_mul, show (Y * 18446744073709551616 + L) / 2 ^ 64 = Y by omega]

/-- The call hands back a row of its own that reads as these bits. -/
def BitsRes (w : World) (X : Nat) (e : Ending) (w' : World) : Prop := ∃ A c, e = .returned (.slice A 128 c) ∧ Rd w' A (iz (bitsTo X 128)) ∧ Below w.heap.size w w'

set_option maxRecDepth 100000 in
set_option maxHeartbeats 1000000 in
theorem l02Bits_any (ah al : Int) (Y L : Nat) (w : World) (eY : IntKind.u64.wrap ah = (Y : Int)) (eL : al = (L : Int)) (hY : Y < 18446744073709551616) (hL : L < 18446744073709551616) :
    Calls Try.prog 122 #[.agg #[.int .i64 ah, .int .u64 al]] w (BitsRes w (Y * 18446744073709551616 + L)) := by
  have HL := Lib.hid (And.intro eL (And.intro hL hY))
  generalize hZd : Y * 18446744073709551616 + L = Z
  have HZ := Lib.hid hZd
  clear hZd
  have l0 : 0 ≤ al := by omega
  have l1 : al ≤ 18446744073709551615 := by omega
  clear eL hL hY
  go_enter Try.func122, Try.ntmps122
  go_wp2
  obtain ⟨i0, hi, hz0, hz1', hz2⟩ := info_parts info_int
  have HI := Lib.hid hi
  have HZ0 := Lib.hid hz0
  have HZ1 := Lib.hid hz1'
  have HZ2 := Lib.hid hz2
  clear hi hz0 hz1' hz2
  go_loopw [3, 4, 5] (fun v x i wr => ∃ k : Nat, k ≤ 64 ∧ i = .int .i64 k ∧ (∃ xi : Int, x = .int .u64 xi ∧ 0 ≤ xi ∧ xi ≤ 18446744073709551615 ∧ Hid (xi = ((L / 2 ^ k : Nat) : Int))) ∧ wr.ownsRow (w.heap.size + 1) 3 1 v k (iz (bitsTo L k)) ∧ Own wr w.heap.size 70 [.int .i64 ah, .int .u64 al] ∧ w.heap.size + 1 ≤ wr.heap.size ∧ Below w.heap.size w wr) (fun _ _ i _ => 64 - (intOf i).toNat)
  case atStart =>
    refine ⟨0, Nat.zero_le _, rfl, ⟨al, rfl, l0, l1, Lib.hid (by rw [HL.out.1]; simp)⟩, ?_, (Own.new _ _ _).alloc _, by simp, below2 _ _ _⟩
    have := (Own.new (w.alloc (.cells #[.int .i64 ah, .int .u64 al] 70)) 3 []).owns (base := w.heap.size + 1) (n := 0) (by simp) rfl (by omega)
    simpa [bitsTo, iz] using this
  case round =>
    obtain ⟨k, hk, rfl, ⟨x, rfl, x0, x1, hx⟩, hrow, hown, hsz, hbel⟩ := hrel
    obtain ⟨c0, c1⟩ := hown.two
    by_cases hlt : (k : Int) < 64
    · have HB := Lib.hid (show iz (bitsTo L (k + 1)) = iz (bitsTo L k) ++ [.int .i64 (x % 2)] by rw [bitsTo_next, iz_append, hx.out]; simp [iz, bit])
      have HX := Lib.hid (show x / 2 = ((L / 2 ^ (k + 1) : Nat) : Int) by rw [Nat.pow_succ, ← Nat.div_div_eq_div_mul, hx.out]; omega)
      go_wp2_with (at_builtin; refine wpList_append_own _ rfl _ _ 29 rfl (w.heap.size + 1) 3 i0 (.int .i64 0) 1 8 Try.underlying29 HI.out HZ0.out HZ1.out HZ2.out rfl (by decide) _ _ _ rfl (hrow.alloc _) ⟨wr.heap.size, 0, none⟩ 1 1 [.int .i64 (x % 2)] rfl rfl ?c1 ?c2 ?c3 ?c4 ?c5 ?_)
      case c1 =>
        intro j u hj
        match j, hj with
        | 0, hj => simp at hj; subst hj; simp [Addr.add]
      case c2 => intro u hu'; simp at hu'; subst hu'; rfl
      case c3 => unfold maxLen; omega
      case c4 => omega
      case c5 => simp; omega
      intro v' w2 hrow' hgrow _
      have hO2 := append_box hrow hown (by omega) hgrow
      have hB2 := append_below hbel (by omega) hrow (by omega) hgrow
      have hS2 : w.heap.size + 1 ≤ w2.heap.size := by have := hgrow.size; simp at this; omega
      rw [← HB.out] at hrow'
      clear hgrow hrow hown hbel hsz c0 c1
      go_wp2
      go_roundw
      case rel => exact ⟨k + 1, by omega, by go_num, ⟨x / 2, rfl, by omega, by omega, HX⟩, hrow', hO2, hS2, hB2⟩
      case measure => simp [intOf]; omega
    · obtain rfl : k = 64 := by omega
      clear hx hlt hk
      have hZ : iz (bitsTo L 64) = iz (bitsTo Z (64 + 0)) := by
        congr 1
        unfold bitsTo
        refine List.map_congr_left fun j hj => ?_
        rw [← HZ.out, bit_low L Y j (by simpa using hj)]
      rw [hZ] at hrow
      clear hZ
      have y0 : 0 ≤ (Y : Int) := by omega
      have y1 : (Y : Int) ≤ 18446744073709551615 := by have := HL.out.2.2; omega
      generalize hyi : (Y : Int) = yi at eY y0 y1
      have HY := Lib.hid hyi
      clear hyi x0 x1
      go_wp2
      go_loopw [3, 6, 7] (fun v x i wr => ∃ k : Nat, k ≤ 64 ∧ i = .int .i64 k ∧ (∃ xi : Int, x = .int .u64 xi ∧ 0 ≤ xi ∧ xi ≤ 18446744073709551615 ∧ Hid (xi = ((Y / 2 ^ k : Nat) : Int))) ∧ wr.ownsRow (w.heap.size + 1) 3 1 v (64 + k) (iz (bitsTo Z (64 + k))) ∧ w.heap.size + 1 ≤ wr.heap.size ∧ Below w.heap.size w wr) (fun _ _ i _ => 64 - (intOf i).toNat)
      case atStart => exact ⟨0, Nat.zero_le _, rfl, ⟨yi, rfl, y0, y1, Lib.hid (by rw [← HY.out]; simp)⟩, hrow, hsz, hbel⟩
      case round =>
        clear hrow hown hsz hbel c0 c1
        obtain ⟨k, hk, rfl, ⟨x, rfl, x0, x1, hx⟩, hrow, hsz, hbel⟩ := hrel
        by_cases hlt : (k : Int) < 64
        · have HB := Lib.hid (show iz (bitsTo Z (64 + (k + 1))) = iz (bitsTo Z (64 + k)) ++ [.int .i64 (x % 2)] by rw [← Nat.add_assoc, bitsTo_next, iz_append, hx.out, ← HZ.out, bit_high L Y k HL.out.2.1]; simp [iz, bit])
          have HX := Lib.hid (show x / 2 = ((Y / 2 ^ (k + 1) : Nat) : Int) by rw [Nat.pow_succ, ← Nat.div_div_eq_div_mul, hx.out]; omega)
          go_wp2_with (at_builtin; refine wpList_append_own _ rfl _ _ 29 rfl (w.heap.size + 1) 3 i0 (.int .i64 0) 1 8 Try.underlying29 HI.out HZ0.out HZ1.out HZ2.out rfl (by decide) _ _ _ rfl (hrow.alloc _) ⟨wr.heap.size, 0, none⟩ 1 1 [.int .i64 (x % 2)] rfl rfl ?c1 ?c2 ?c3 ?c4 ?c5 ?_)
          case c1 =>
            intro j u hj
            match j, hj with
            | 0, hj => simp at hj; subst hj; simp [Addr.add]
          case c2 => intro u hu'; simp at hu'; subst hu'; rfl
          case c3 => unfold maxLen; omega
          case c4 => omega
          case c5 => simp; omega
          intro v' w2 hrow' hgrow _
          have hB2 := append_below hbel (by omega) hrow (by omega) hgrow
          have hS2 : w.heap.size + 1 ≤ w2.heap.size := by have := hgrow.size; simp at this; omega
          rw [← HB.out] at hrow'
          clear hgrow hrow hbel hsz
          go_wp2
          go_roundw
          case rel => (repeat apply Exists.intro); exact ⟨⟨k + 1, by omega, by go_num, ⟨x / 2, rfl, by omega, by omega, HX⟩, hrow', hS2, hB2⟩, rfl⟩
          case measure => simp [intOf]; omega
        · obtain rfl : k = 64 := by omega
          clear hx hlt hk x0 x1
          obtain ⟨A, c, rfl, hR⟩ := owns_rd hrow
          go_wp2
          go_ret
          exact ⟨A, c, rfl, hR, hbel⟩
end Go.Proofs.Ytlmlckgnmkjkdaa
