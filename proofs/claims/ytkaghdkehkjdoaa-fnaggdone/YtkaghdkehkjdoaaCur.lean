/-
  The cursor that draws values of a list of bytes: its answers are in range, and it writes its own block alone.
-/
import Derived.Test.YtkaghdkehkjdoaaOnly
namespace Go.Proofs.Ytkaghdkehkjdoaa
open Go.RowKit

/-- n bytes at A, in blocks below g -/
def Byt (w : World) (A : Option Addr) (n g : Nat) : Prop :=
  ∀ k, k < n → ∃ ad, ∃ b : Nat, A = some ad ∧ ad.block < g ∧ b < 256 ∧ w.cell? (ad.add k) = some (.int .u8 (b : Int))
theorem Byt.below {w w' : World} {A : Option Addr} {n g : Nat} (h : Byt w A n g) (hb : Below g w w') : Byt w' A n g := fun k hk => by
  obtain ⟨ad, b, e, hl, hb', hc⟩ := h k hk
  exact ⟨ad, b, e, hl, hb', (hb.cell (by rw [add_block]; exact hl)).trans hc⟩
theorem Byt.only {w w' : World} {A : Option Addr} {n g : Nat} (h : Byt w A n g) (hg : g < w.heap.size) (hb : w.grownBy w' (some g)) : Byt w' A n g :=
  h.below ((Below.refl g w).grown hb (by omega) (fun k h => by cases h; exact Nat.le_refl _))

/-- The cursor in block g over n bytes at A, that has been asked at most m times. -/
structure Cur (w : World) (g : Nat) (A : Option Addr) (n c m : Nat) : Prop where
  ex : ∃ i s : Nat, Own w g 88 [.slice A n c, .int .i64 i, .int .i64 s] ∧ i ≤ m ∧ s < 65521
  byt : Byt w A n g
theorem Cur.lt {w : World} {g n c m : Nat} {A : Option Addr} (h : Cur w g A n c m) : g < w.heap.size := by
  obtain ⟨i, s, ho, _⟩ := h.ex; exact ho.lt
theorem Cur.more {w : World} {g n c m m' : Nat} {A : Option Addr} (h : Cur w g A n c m) (hm : m ≤ m') : Cur w g A n c m' := by
  obtain ⟨i, s, ho, hi, hs⟩ := h.ex; exact ⟨⟨i, s, ho, by omega, hs⟩, h.byt⟩
theorem Cur.grow {w w' : World} {g n c m : Nat} {A : Option Addr} (h : Cur w g A n c m) (hb : Below w.heap.size w w') : Cur w' g A n c m := by
  obtain ⟨i, s, ho, hi, hs⟩ := h.ex
  exact ⟨⟨i, s, ho.grow hb, hi, hs⟩, h.byt.below (hb.mono (Nat.le_of_lt h.lt))⟩
theorem Own.three {w : World} {g : Nat} {t : TypeId} {c0 c1 c2 : Value} (h : Own w g t [c0, c1, c2]) : w.cell? ⟨g, 0, none⟩ = some c0 ∧ w.cell? ⟨g, 1, none⟩ = some c1 ∧ w.cell? ⟨g, 2, none⟩ = some c2 := ⟨h.cell 0, h.cell 1, h.cell 2⟩

theorem Own.threes {w : World} {g : Nat} {t : TypeId} {c0 c1 c2 : Value} (h : Own w g t [c0, c1, c2]) : (∀ u : Bel w, u.w.cell? ⟨g, 0, none⟩ = some c0) ∧ (∀ u : Bel w, u.w.cell? ⟨g, 1, none⟩ = some c1) ∧ (∀ u : Bel w, u.w.cell? ⟨g, 2, none⟩ = some c2) :=
  ⟨fun u => (h.grow u.ok).cell 0, fun u => (h.grow u.ok).cell 1, fun u => (h.grow u.ok).cell 2⟩

set_option maxHeartbeats 1000000 in
theorem l01Open_any (A : Option Addr) (n c : Nat) (w : World) (hA : Byt w A n w.heap.size) (hn : n ≤ 1048576) :
    Calls Try.prog 60 #[.slice A n c] w fun e w' => ∃ g, w.heap.size ≤ g ∧ e = .returned (.pointer (some ⟨g, 0, none⟩)) ∧ Cur w' g A n c 0 ∧ Below w.heap.size w w' := by
  go_enter Try.func60, Try.ntmps60
  go_wp2
  go_ret
  refine ⟨_, Nat.le_refl _, rfl, ⟨⟨0, 101 + n % 1000, ?_, Nat.le_refl _, by omega⟩, hA.below (below_alloc _ _)⟩, below_alloc _ _⟩
  have := Own.new w 88 [.slice A n c, .int .i64 ((0 : Nat) : Int), .int .i64 ((101 + n % 1000 : Nat) : Int)]
  simpa using this

theorem mod_nat (s : Nat) : ∃ s' : Nat, s' < 65521 ∧ ((s : Int) * 1103 + 12345) % 65521 = (s' : Int) := by
  obtain ⟨s', e⟩ := Int.eq_ofNat_of_zero_le (show 0 ≤ ((s : Int) * 1103 + 12345) % 65521 by omega)
  exact ⟨s', by omega, e⟩

set_option maxHeartbeats 1000000 in
theorem pick_any (g : Nat) (A : Option Addr) (n c m : Nat) (N : Int) (w : World) (h : Cur w g A n c m) (hn : n ≤ 1048576) (hm : m ≤ 1099511627776) (hN : 1 ≤ N) (hN2 : N ≤ 4611686018427387904) :
    Calls Try.prog 74 #[.pointer (some ⟨g, 0, none⟩), .int .i64 N] w fun e w' => ∃ r : Nat, e = .returned (.int .i64 r) ∧ (r : Int) < N ∧ Cur w' g A n c (m + 1) ∧ w.grownBy w' (some g) := by
  by_cases hN1 : N < 2
  · go_enter Try.func74, Try.ntmps74
    go_wp2
    go_ret
    exact ⟨0, rfl, by omega, h.more (by omega), World.grownBy.refl _ _⟩
  obtain ⟨N, rfl⟩ := Int.eq_ofNat_of_zero_le (show 0 ≤ N by omega)
  obtain ⟨i, s, ho, hi, hs⟩ := h.ex
  obtain ⟨c0, c1, c2⟩ := ho.three
  have HB := Lib.hid h.byt
  have gw : w.grownBy w (some g) := World.grownBy.refl _ _
  clear h
  go_enter Try.func74, Try.ntmps74
  go_wp2
  obtain ⟨f0, f1, f2⟩ := ho.threes
  clear c0 c1 c2
  refine wp_region_bel (by kernel_rfl) (by kernel_rfl) ?_
  repeat (go_big_quiet_step (fail))
  refine wpQuiet_nil ?_
  rintro _ ⟨u, rfl⟩
  have ho1 := ho.grow u.ok
  have hg1 := only_grow gw u.ok
  have HB1 := Lib.hid (HB.out.only ho.lt hg1)
  clear f0 f1 f2
  revert HB1 hg1 ho1
  generalize u.w = w1
  clear u HB
  intro ho1 hg1 HB1
  by_cases hin : i < n
  · have hin' : (i : Int) < (n : Int) := by omega
    obtain ⟨ad, b, rfl, hl, hb, ga⟩ := HB1.out i hin
    obtain ⟨f0, f1, f2⟩ := ho1.threes
    have f3 : ∀ u : Bel w1, u.w.cell? (ad.add i) = some (.int .u8 (b : Int)) := fun u => (u.ok.cell (by rw [add_block]; have := ho1.lt; omega)).trans ga
    clear ga
    go_wp2
    refine wp_region_bel (by kernel_rfl) (by kernel_rfl) ?_
    repeat (go_big_quiet_step (fail))
    refine wpQuiet_nil ?_
    rintro _ ⟨u, rfl⟩
    clear f0 f1 f2 f3
    have ho2 := ho1.grow u.ok
    have hg2 := only_grow hg1 u.ok
    have HB2 := Lib.hid (HB1.out.only ho1.lt (grownBy_of u.ok _))
    have hfu := ho2.free 1
    obtain ⟨c0, c1, c2⟩ := ho2.three
    have s2 := ho2.set 1 (.int .i64 ((i + 1 : Nat) : Int))
    simp only [List.set_cons_succ, List.set_cons_zero] at s2
    have HS2 := Lib.hid s2
    clear s2
    go_wp2
    go_ret
    exact ⟨b % N, ret_int (by simp), by have := Nat.mod_lt b (show N > 0 by omega); omega, ⟨⟨i + 1, s, by simpa using HS2.out, by omega, hs⟩, HB2.out.only ho2.lt (only_set (World.grownBy.refl _ _))⟩, only_set hg2⟩
  · have hin' : ¬ (i : Int) < (n : Int) := by omega
    have hfu := ho1.free 2
    have hfu1 := ho1.free 1
    have s2 := ho1.set 2 (.int .i64 (((s : Int) * 1103 + 12345) % 65521))
    simp only [List.set_cons_succ, List.set_cons_zero] at s2
    have s3 := s2.set 1 (.int .i64 ((i : Int) + 1))
    simp only [List.set_cons_succ, List.set_cons_zero] at s3
    have HN := Lib.hid (mod_nat s)
    have HG2 := Lib.hid (only_set (j := 2) (u := .int .i64 (((s : Int) * 1103 + 12345) % 65521)) hg1)
    have HB2 := Lib.hid (HB1.out.only ho1.lt (only_set (j := 2) (u := .int .i64 (((s : Int) * 1103 + 12345) % 65521)) (World.grownBy.refl _ _)))
    have HS3 := Lib.hid s3
    have HS2 := Lib.hid s2
    clear s2 s3
    obtain ⟨c0, c1, c2⟩ := ho1.three
    by_cases hn0 : n = 0
    · subst hn0
      go_wp2
      go_ret
      obtain ⟨s', hs', e'⟩ := HN.out
      exact ⟨0, ret_int (by simp), by omega, ⟨⟨i + 1, s', by rw [← e']; exact HS3.out, by omega, hs'⟩, fun k hk => absurd hk (by omega)⟩, only_set HG2.out⟩
    · have hn0' : (0 : Int) < (n : Int) := by omega
      go_wp2
      clear HS3 hfu hfu1 c0 c1 c2 ho
      obtain ⟨s', hs', e'⟩ := HN.out
      rw [e'] at HG2 HB2 HS2 ⊢
      have hg2 := HG2.out
      have ho2 := HS2.out
      have hB2 := HB2.out
      clear HG2 HS2 HB2 HN hg1 ho1 HB1 e' hs
      revert hg2 ho2 hB2
      generalize w1.setCell { block := g, off := 2 } (Value.int IntKind.i64 (s' : Int)) = w2
      intro hg2 ho2 hB2
      obtain ⟨ad, b, rfl, hl, hb, ga⟩ := hB2 (i % n) (Nat.mod_lt _ (by omega))
      have HB2 := Lib.hid hB2
      clear hB2
      obtain ⟨f0, f1, f2⟩ := ho2.threes
      have f3 : ∀ u : Bel w2, u.w.cell? (ad.add (i % n)) = some (.int .u8 (b : Int)) := fun u => (u.ok.cell (by rw [add_block]; have := ho2.lt; omega)).trans ga
      have him : i % n < n := Nat.mod_lt _ (by omega)
      clear ga
      refine wp_region_bel (by kernel_rfl) (by kernel_rfl) ?_
      repeat (go_big_quiet_step (fail))
      refine wpQuiet_nil ?_
      rintro _ ⟨u, rfl⟩
      clear f0 f1 f2 f3
      have ho3 := ho2.grow u.ok
      have hg3 := only_grow hg2 u.ok
      have HB3 := Lib.hid (HB2.out.only ho2.lt (grownBy_of u.ok _))
      have hfu := ho3.free 1
      obtain ⟨c0, c1, c2⟩ := ho3.three
      have s2 := ho3.set 1 (.int .i64 ((i + 1 : Nat) : Int))
      simp only [List.set_cons_succ, List.set_cons_zero] at s2
      have HS3 := Lib.hid s2
      clear s2
      go_wp2
      go_ret
      exact ⟨(s' / 7 + b) % N, ret_int (by simp), by have := Nat.mod_lt (s' / 7 + b) (show N > 0 by omega); omega, ⟨⟨i + 1, s', by simpa using HS3.out, by omega, hs'⟩, HB3.out.only ho3.lt (only_set (World.grownBy.refl _ _))⟩, only_set hg3⟩

end Go.Proofs.Ytkaghdkehkjdoaa
