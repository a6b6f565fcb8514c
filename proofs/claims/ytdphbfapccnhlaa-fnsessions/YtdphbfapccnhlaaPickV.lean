/-
  laws.pick: its answer depends on the bytes alone.
-/
import Derived.Test.YtdphbfapccnhlaaCur
namespace Go.Proofs.Ytdphbfapccnhlaa
open Go.RowKit

/-- the bytes at A, by their numbers f -/
def BytF (w : World) (A : Option Addr) (n g : Nat) (f : Nat → Nat) : Prop := ∀ k, k < n → ∃ ad, A = some ad ∧ ad.block < g ∧ f k < 256 ∧ w.cell? (ad.add k) = some (.int .u8 (f k : Int))
theorem BytF.of {w : World} {A : Option Addr} {n g : Nat} (h : Byt w A n g) : ∃ f, BytF w A n g f := by
  classical
  refine ⟨fun k => if hk : k < n then (h k hk).choose_spec.choose else 0, fun k hk => ?_⟩
  obtain ⟨e, hl, hb, hc⟩ := (h k hk).choose_spec.choose_spec
  refine ⟨(h k hk).choose, e, hl, ?_, ?_⟩
  · simpa [hk] using hb
  · simpa [hk] using hc
theorem BytF.below {w w' : World} {A : Option Addr} {n g : Nat} {f : Nat → Nat} (h : BytF w A n g f) (hb : Below g w w') : BytF w' A n g f := fun k hk => by
  obtain ⟨ad, e, hl, hb', hc⟩ := h k hk
  exact ⟨ad, e, hl, hb', (hb.cell (by rw [add_block]; exact hl)).trans hc⟩

/-- three bytes from i on -/
def pick3 (f : Nat → Nat) (n i : Nat) : Nat → Nat
  | 0 => 0
  | k + 1 => 31 * pick3 f n i k + f ((i + k) % n)
def pickV (f : Nat → Nat) (n i N : Nat) : Nat := if n = 0 ∨ N < 2 then 0 else (pick3 f n i 3 + i) % N
theorem pickV_lt {f : Nat → Nat} {n i N : Nat} (h : 1 ≤ N) : pickV f n i N < N := by
  unfold pickV
  split
  · omega
  · exact Nat.mod_lt _ (by omega)
theorem pick3_le {f : Nat → Nat} {n i : Nat} (hn : 0 < n) (hf : ∀ k, k < n → f k < 256) : ∀ k, k ≤ 3 → pick3 f n i k ≤ 253215 ∧ (k ≤ 2 → pick3 f n i k ≤ 8160) ∧ (k ≤ 1 → pick3 f n i k ≤ 255) ∧ (k = 0 → pick3 f n i k = 0)
  | 0, _ => by simp [pick3]
  | k + 1, h => by
    have h1 := pick3_le (i := i) hn hf k (by omega)
    have h2 := hf ((i + k) % n) (Nat.mod_lt _ hn)
    refine ⟨?_, ?_, ?_, ?_⟩ <;> simp only [pick3] <;> omega

set_option maxHeartbeats 1000000 in
theorem lawPickV (A : Option Addr) (n c i N : Nat) (f : Nat → Nat) (w : World) (hA : BytF w A n w.heap.size f) (hn : n ≤ 1048576) (hN : 1 ≤ N) (hN2 : N ≤ 1000) (hi : i ≤ 1000) :
    Calls Try.prog 21 #[.slice A n c, .int .i64 (i : Int), .int .i64 (N : Int)] w fun e w' => e = .returned (.int .i64 (pickV f n i N : Nat)) ∧ Below w.heap.size w w' := by
  have HA := Lib.hid (fun W (h : Below w.heap.size w W) => hA.below h)
  clear hA
  by_cases h0 : n = 0 ∨ N < 2
  · have hv := Lib.hid (show (.int .i64 (pickV f n i N : Nat) : Value) = .int .i64 0 by unfold pickV; rw [if_pos h0]; rfl)
    rw [hv.out]
    go_enter Try.func21, Try.ntmps21
    by_cases hn0 : n = 0
    · subst hn0
      go_wp2
      go_ret
      exact ⟨rfl, Below.refl _ _⟩
    · have hn1 : ((n : Int) == 0) = false := by simp; omega
      have hN1 : (N : Int) < 2 := by omega
      go_wp2
      go_ret
      exact ⟨rfl, Below.refl _ _⟩
  · have HV := Lib.hid (show pickV f n i N = (pick3 f n i 3 + i) % N by unfold pickV; rw [if_neg h0])
    have hn1 : ((n : Int) == 0) = false := by simp; omega
    have hN1 : ¬ (N : Int) < 2 := by omega
    have hn2 : (0 : Int) < (n : Int) := by omega
    have HP := Lib.hid (pick3_le (f := f) (n := n) (i := i) (by omega) (fun k hk => by obtain ⟨_, _, _, h, _⟩ := HA.out w (Below.refl _ _) k hk; exact h))
    obtain ⟨ad, rfl, _⟩ := HA.out w (Below.refl _ _) 0 (by omega)
    go_enter Try.func21, Try.ntmps21
    go_wp2
    go_loopw [7, 8] (fun v j wr => ∃ k : Nat, k ≤ 3 ∧ v = .int .i64 (pick3 f n i k : Nat) ∧ j = .int .i64 k ∧ Below w.heap.size w wr) (fun _ j _ => 3 - (intOf j).toNat)
    case atStart => exact ⟨0, by omega, rfl, rfl, Below.refl _ _⟩
    case round =>
      obtain ⟨k, hk3, rfl, rfl, hbr⟩ := hrel
      have hx3 := (HP.out k hk3).1
      by_cases hlt : k < 3
      · have him : (i + k) % n < n := Nat.mod_lt _ (by omega)
        obtain ⟨ad', e', hl, hb, hc⟩ := HA.out wr hbr ((i + k) % n) him
        obtain rfl : ad = ad' := by injection e'
        clear e'
        have hi0 : (0 : Int) ≤ ((i : Int) + (k : Int)) % (n : Int) := Int.emod_nonneg _ (by omega)
        have hi1 : ((i : Int) + (k : Int)) % (n : Int) < (n : Int) := Int.emod_lt_of_pos _ hn2
        have HE := Lib.hid (show pick3 f n i (k + 1) = 31 * pick3 f n i k + f ((i + k) % n) from rfl)
        generalize pick3 f n i k = x at *
        go_wp2
        go_roundw
        case rel => exact ⟨k + 1, by omega, by rw [HE.out]; go_num, by go_num, hbr⟩
        case measure => simp [intOf]; omega
      · obtain rfl : k = 3 := by omega
        generalize pick3 f n i 3 = x at *
        go_wp2
        go_ret
        exact ⟨by rw [HV.out]; exact ret_int (by simp), hbr⟩
theorem BytF.up {w : World} {A : Option Addr} {n g g' : Nat} {f : Nat → Nat} (h : BytF w A n g f) (hg : g ≤ g') : BytF w A n g' f := fun k hk => by
  obtain ⟨ad, e, hl, hb', hc⟩ := h k hk
  exact ⟨ad, e, by omega, hb', hc⟩
theorem lawPickI (A : Option Addr) (n c i N : Nat) (iI NI : Int) (f : Nat → Nat) (w : World) (hiI : iI = i) (hNI : NI = N) (hA : BytF w A n w.heap.size f) (hn : n ≤ 1048576) (hN : 1 ≤ N) (hN2 : N ≤ 1000) (hi : i ≤ 1000) :
    Calls Try.prog 21 #[.slice A n c, .int .i64 iI, .int .i64 NI] w fun e w' => e = .returned (.int .i64 (pickV f n i N : Nat)) ∧ Below w.heap.size w w' := by
  subst hiI hNI
  exact lawPickV A n c i N f w hA hn hN hN2 hi
theorem bigV (A : Option Addr) (n c : Nat) (b : Bool) (w : World) (hb : decide (1048576 < n) = b) (hn : n ≤ 9223372036854775807) :
    Calls Try.prog 13 #[.slice A n c] w fun e w' => e = .returned (.bool b) ∧ w = w' := by
  go_enter Try.func13, Try.ntmps13
  go_wp2
  go_ret
  exact ⟨ret_bool (by rw [← hb]; simp; omega), rfl⟩
end Go.Proofs.Ytdphbfapccnhlaa
