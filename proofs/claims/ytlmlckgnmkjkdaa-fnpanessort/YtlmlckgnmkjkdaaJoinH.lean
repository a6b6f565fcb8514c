import Derived.Test.YtlmlckgnmkjkdaaOnly
import Derived.Test.YtlmlckgnmkjkdaaOwnsS
import Derived.Test.YtlmlckgnmkjkdaaIntAt
import Derived.Deep.RegionWith
import Derived.Test.YtlmlckgnmkjkdaaTopI
import Derived.Test.YtlmlckgnmkjkdaaWideA
import Derived.Test.YtlmlckgnmkjkdaaExprD
import Derived.Deep.DeepCutAuto
import Derived.Deep.CutBlock
import Derived.Test.YtlmlckgnmkjkdaaAppT
import Derived.Test.YtlmlckgnmkjkdaaTokKit
import Derived.Test.YtlmlckgnmkjkdaaFlat
import Derived.Test.YtlmlckgnmkjkdaaKitAgg
import Derived.Test.YtlmlckgnmkjkdaaPairs

/-
  The cursor that draws values of a list of bytes: its answers are in range, and it writes its own block alone.
-/
namespace Go.Proofs.Ytlmlckgnmkjkdaa
open Go.RowKit

/-- n bytes at A, in blocks below g -/
def Byt (w : World) (A : Option Addr) (n g : Nat) : Prop :=
  ∀ k, k < n → ∃ ad, ∃ b : Nat, A = some ad ∧ ad.block < g ∧ b < 256 ∧ w.cell? (ad.add k) = some (.int .u8 (b : Int))
theorem Byt.below {w w' : World} {A : Option Addr} {n g : Nat} (h : Byt w A n g) (hb : Below g w w') : Byt w' A n g := fun k hk => by
  obtain ⟨ad, b, e, hl, hb', hc⟩ := h k hk
  exact ⟨ad, b, e, hl, hb', (hb.cell (by rw [add_block]; exact hl)).trans hc⟩
theorem Byt.only {w w' : World} {A : Option Addr} {n g : Nat} (h : Byt w A n g) (hg : g < w.heap.size) (hb : w.grownBy w' (some g)) : Byt w' A n g :=
  h.below ((Below.refl g w).grown hb (by omega) (fun k h => by cases h; exact Nat.le_refl _))

/-- The cursor in block g over n bytes at A, that has been asked at most m times. -/
structure Cur (w : World) (g : Nat) (A : Option Addr) (n c m : Nat) : Prop where
  ex : ∃ i s : Nat, Own w g 114 [.slice A n c, .int .i64 i, .int .i64 s] ∧ i ≤ m ∧ s < 65521
  byt : Byt w A n g
theorem Cur.lt {w : World} {g n c m : Nat} {A : Option Addr} (h : Cur w g A n c m) : g < w.heap.size := by
  obtain ⟨i, s, ho, _⟩ := h.ex; exact ho.lt
theorem Cur.more {w : World} {g n c m m' : Nat} {A : Option Addr} (h : Cur w g A n c m) (hm : m ≤ m') : Cur w g A n c m' := by
  obtain ⟨i, s, ho, hi, hs⟩ := h.ex; exact ⟨⟨i, s, ho, by omega, hs⟩, h.byt⟩
theorem Cur.grow {w w' : World} {g n c m : Nat} {A : Option Addr} (h : Cur w g A n c m) (hb : Below w.heap.size w w') : Cur w' g A n c m := by
  obtain ⟨i, s, ho, hi, hs⟩ := h.ex
  exact ⟨⟨i, s, ho.grow hb, hi, hs⟩, h.byt.below (hb.mono (Nat.le_of_lt h.lt))⟩
theorem Own.three {w : World} {g : Nat} {t : TypeId} {c0 c1 c2 : Value} (h : Own w g t [c0, c1, c2]) : w.cell? ⟨g, 0, none⟩ = some c0 ∧ w.cell? ⟨g, 1, none⟩ = some c1 ∧ w.cell? ⟨g, 2, none⟩ = some c2 := ⟨h.cell 0, h.cell 1, h.cell 2⟩

theorem Own.threes {w : World} {g : Nat} {t : TypeId} {c0 c1 c2 : Value} (h : Own w g t [c0, c1, c2]) : (∀ u : Bel w, u.w.cell? ⟨g, 0, none⟩ = some c0) ∧ (∀ u : Bel w, u.w.cell? ⟨g, 1, none⟩ = some c1) ∧ (∀ u : Bel w, u.w.cell? ⟨g, 2, none⟩ = some c2) :=
  ⟨fun u => (h.grow u.ok).cell 0, fun u => (h.grow u.ok).cell 1, fun u => (h.grow u.ok).cell 2⟩

set_option maxHeartbeats 1000000 in
theorem l01Open_any (A : Option Addr) (n c : Nat) (w : World) (hA : Byt w A n w.heap.size) (hn : n ≤ 1048576) :
    Calls Try.prog 45 #[.slice A n c] w fun e w' => ∃ g, w.heap.size ≤ g ∧ e = .returned (.pointer (some ⟨g, 0, none⟩)) ∧ Cur w' g A n c 0 ∧ Below w.heap.size w w' := by
  go_enter Try.func45, Try.ntmps45
  go_wp2
  go_ret
  refine ⟨_, Nat.le_refl _, rfl, ⟨⟨0, 101 + n % 1000, ?_, Nat.le_refl _, by omega⟩, hA.below (below_alloc _ _)⟩, below_alloc _ _⟩
  have := Own.new w 114 [.slice A n c, .int .i64 ((0 : Nat) : Int), .int .i64 ((101 + n % 1000 : Nat) : Int)]
  simpa using this

theorem mod_nat (s : Nat) : ∃ s' : Nat, s' < 65521 ∧ ((s : Int) * 1103 + 12345) % 65521 = (s' : Int) := by
  obtain ⟨s', e⟩ := Int.eq_ofNat_of_zero_le (show 0 ≤ ((s : Int) * 1103 + 12345) % 65521 by omega)
  exact ⟨s', by omega, e⟩

set_option maxHeartbeats 1000000 in
theorem pick_any (g : Nat) (A : Option Addr) (n c m : Nat) (N : Int) (w : World) (h : Cur w g A n c m) (hn : n ≤ 1048576) (hm : m ≤ 1099511627776) (hN : 1 ≤ N) (hN2 : N ≤ 4611686018427387904) :
    Calls Try.prog 86 #[.pointer (some ⟨g, 0, none⟩), .int .i64 N] w fun e w' => ∃ r : Nat, e = .returned (.int .i64 r) ∧ (r : Int) < N ∧ Cur w' g A n c (m + 1) ∧ w.grownBy w' (some g) := by
  by_cases hN1 : N < 2
  · go_enter Try.func86, Try.ntmps86
    go_wp2
    go_ret
    exact ⟨0, rfl, by omega, h.more (by omega), World.grownBy.refl _ _⟩
  obtain ⟨N, rfl⟩ := Int.eq_ofNat_of_zero_le (show 0 ≤ N by omega)
  obtain ⟨i, s, ho, hi, hs⟩ := h.ex
  obtain ⟨c0, c1, c2⟩ := ho.three
  have HB := Lib.hid h.byt
  have gw : w.grownBy w (some g) := World.grownBy.refl _ _
  clear h
  go_enter Try.func86, Try.ntmps86
  go_wp2
  obtain ⟨f0, f1, f2⟩ := ho.threes
  clear c0 c1 c2
  refine wp_region_bel (by kernel_rfl) (by kernel_rfl) ?_
  repeat (go_big_quiet_step (fail))
  refine wpQuiet_nil ?_
  rintro _ ⟨u, rfl⟩
  have ho1 := ho.grow u.ok
  have hg1 := only_grow gw u.ok
  have HB1 := Lib.hid (HB.out.only ho.lt hg1)
  clear f0 f1 f2
  revert HB1 hg1 ho1
  generalize u.w = w1
  clear u HB
  intro ho1 hg1 HB1
  by_cases hin : i < n
  · have hin' : (i : Int) < (n : Int) := by omega
    obtain ⟨ad, b, rfl, hl, hb, ga⟩ := HB1.out i hin
    obtain ⟨f0, f1, f2⟩ := ho1.threes
    have f3 : ∀ u : Bel w1, u.w.cell? (ad.add i) = some (.int .u8 (b : Int)) := fun u => (u.ok.cell (by rw [add_block]; have := ho1.lt; omega)).trans ga
    clear ga
    go_wp2
    refine wp_region_bel (by kernel_rfl) (by kernel_rfl) ?_
    repeat (go_big_quiet_step (fail))
    refine wpQuiet_nil ?_
    rintro _ ⟨u, rfl⟩
    clear f0 f1 f2 f3
    have ho2 := ho1.grow u.ok
    have hg2 := only_grow hg1 u.ok
    have HB2 := Lib.hid (HB1.out.only ho1.lt (grownBy_of u.ok _))
    have hfu := ho2.free 1
    obtain ⟨c0, c1, c2⟩ := ho2.three
    have s2 := ho2.set 1 (.int .i64 ((i + 1 : Nat) : Int))
    simp only [List.set_cons_succ, List.set_cons_zero] at s2
    have HS2 := Lib.hid s2
    clear s2
    go_wp2
    go_ret
    exact ⟨b % N, ret_int (by simp), by have := Nat.mod_lt b (show N > 0 by omega); omega, ⟨⟨i + 1, s, by simpa using HS2.out, by omega, hs⟩, HB2.out.only ho2.lt (only_set (World.grownBy.refl _ _))⟩, only_set hg2⟩
  · have hin' : ¬ (i : Int) < (n : Int) := by omega
    have hfu := ho1.free 2
    have hfu1 := ho1.free 1
    have s2 := ho1.set 2 (.int .i64 (((s : Int) * 1103 + 12345) % 65521))
    simp only [List.set_cons_succ, List.set_cons_zero] at s2
    have s3 := s2.set 1 (.int .i64 ((i : Int) + 1))
    simp only [List.set_cons_succ, List.set_cons_zero] at s3
    have HN := Lib.hid (mod_nat s)
    have HG2 := Lib.hid (only_set (j := 2) (u := .int .i64 (((s : Int) * 1103 + 12345) % 65521)) hg1)
    have HB2 := Lib.hid (HB1.out.only ho1.lt (only_set (j := 2) (u := .int .i64 (((s : Int) * 1103 + 12345) % 65521)) (World.grownBy.refl _ _)))
    have HS3 := Lib.hid s3
    have HS2 := Lib.hid s2
    clear s2 s3
    obtain ⟨c0, c1, c2⟩ := ho1.three
    by_cases hn0 : n = 0
    · subst hn0
      go_wp2
      go_ret
      obtain ⟨s', hs', e'⟩ := HN.out
      exact ⟨0, ret_int (by simp), by omega, ⟨⟨i + 1, s', by rw [← e']; exact HS3.out, by omega, hs'⟩, fun k hk => absurd hk (by omega)⟩, only_set HG2.out⟩
    · have hn0' : (0 : Int) < (n : Int) := by omega
      go_wp2
      clear HS3 hfu hfu1 c0 c1 c2 ho
      obtain ⟨s', hs', e'⟩ := HN.out
      rw [e'] at HG2 HB2 HS2 ⊢
      have hg2 := HG2.out
      have ho2 := HS2.out
      have hB2 := HB2.out
      clear HG2 HS2 HB2 HN hg1 ho1 HB1 e' hs
      revert hg2 ho2 hB2
      generalize w1.setCell { block := g, off := 2 } (Value.int IntKind.i64 (s' : Int)) = w2
      intro hg2 ho2 hB2
      obtain ⟨ad, b, rfl, hl, hb, ga⟩ := hB2 (i % n) (Nat.mod_lt _ (by omega))
      have HB2 := Lib.hid hB2
      clear hB2
      obtain ⟨f0, f1, f2⟩ := ho2.threes
      have f3 : ∀ u : Bel w2, u.w.cell? (ad.add (i % n)) = some (.int .u8 (b : Int)) := fun u => (u.ok.cell (by rw [add_block]; have := ho2.lt; omega)).trans ga
      have him : i % n < n := Nat.mod_lt _ (by omega)
      clear ga
      refine wp_region_bel (by kernel_rfl) (by kernel_rfl) ?_
      repeat (go_big_quiet_step (fail))
      refine wpQuiet_nil ?_
      rintro _ ⟨u, rfl⟩
      clear f0 f1 f2 f3
      have ho3 := ho2.grow u.ok
      have hg3 := only_grow hg2 u.ok
      have HB3 := Lib.hid (HB2.out.only ho2.lt (grownBy_of u.ok _))
      have hfu := ho3.free 1
      obtain ⟨c0, c1, c2⟩ := ho3.three
      have s2 := ho3.set 1 (.int .i64 ((i + 1 : Nat) : Int))
      simp only [List.set_cons_succ, List.set_cons_zero] at s2
      have HS3 := Lib.hid s2
      clear s2
      go_wp2
      go_ret
      exact ⟨(s' / 7 + b) % N, ret_int (by simp), by have := Nat.mod_lt (s' / 7 + b) (show N > 0 by omega); omega, ⟨⟨i + 1, s', by simpa using HS3.out, by omega, hs'⟩, HB3.out.only ho3.lt (only_set (World.grownBy.refl _ _))⟩, only_set hg3⟩

end Go.Proofs.Ytlmlckgnmkjkdaa

/-
  The cursor's raw.
-/
namespace Go.Proofs.Ytlmlckgnmkjkdaa
open Go.RowKit

theorem grown_trans {a b c : World} {r : Option Nat} (h : a.grownBy b r) (k : b.grownBy c r) : a.grownBy c r := grownBy_trans h k

theorem own_far {w w' : World} {g h : Nat} {t : TypeId} {cs : List Value} (ho : Own w h t cs) (hg : w.grownBy w' (some g)) (hne : h ≠ g) : Own w' h t cs :=
  (hg.block h ho.lt (by simpa using hne)).trans ho
/-- the numbers that raw takes one of -/
def rawLit : List Value := [.int .i64 9223372036854775807, .int .i64 (-9223372036854775808), .int .i64 4611686018427387904, .int .i64 9223372036854775806, .int .i64 4294967296, .int .i64 (-1000), .int .i64 1000, .int .i64 16]
theorem rawLit_at (r : Nat) (h : r < 8) : ∃ v, rawLit[r]? = some (.int .i64 v) ∧ -9223372036854775808 ≤ v ∧ v ≤ 9223372036854775807 := by
  match r, h with
  | 0, _ | 1, _ | 2, _ | 3, _ | 4, _ | 5, _ | 6, _ | 7, _ => exact ⟨_, rfl, by decide, by decide⟩

set_option maxHeartbeats 1000000 in
theorem raw_any (g : Nat) (A : Option Addr) (n c m : Nat) (w : World) (h : Cur w g A n c m) (hn : n ≤ 1048576) (hm : m ≤ 1099511627000) :
    Calls Try.prog 91 #[.pointer (some ⟨g, 0, none⟩)] w fun e w' => ∃ r : Int, e = .returned (.int .i64 r) ∧ -9223372036854775808 ≤ r ∧ r ≤ 9223372036854775807 ∧ Cur w' g A n c (m + 2) ∧ w.grownBy w' (some g) := by
  go_enter Try.func91, Try.ntmps91
  go_wp2_with fail
  go_at_call 86
  refine (pick_any g A n c m 8 _ h hn (by omega) (by omega) (by omega)).mono ?_
  rintro e w' ⟨r, rfl, hr, hC, hG⟩
  go_wp2_with fail
  · go_at_call 86
    refine (pick_any g A n c (m + 1) 256 _ hC hn (by omega) (by omega) (by omega)).mono ?_
    rintro e w2 ⟨r2, rfl, hr2, hC2, hG2⟩
    go_wp2
    go_ret
    exact ⟨_, rfl, by omega, by omega, hC2, grown_trans hG hG2⟩
  · go_at_call 86
    refine (pick_any g A n c (m + 1) 8 _ (hC.grow (below_alloc _ _)) hn (by omega) (by omega) (by omega)).mono ?_
    rintro e w2 ⟨r2, rfl, hr2, hC2, hG2⟩
    have hO := own_far (Own.new w' 3 rawLit) hG2 (by have := hC.lt; omega)
    obtain ⟨v, hv, hv1, hv2⟩ := rawLit_at r2 (by omega)
    have hcell : w2.cell? ⟨w'.heap.size, r2, none⟩ = some (.int .i64 v) := (hO.cell r2).trans hv
    have HO := Lib.hid hO
    have hG3 := grown_trans hG (grown_trans (World.grownBy_alloc _ _ _) hG2)
    clear hO hv
    go_wp2
    go_ret
    exact ⟨_, rfl, hv1, hv2, hC2, hG3⟩
  · go_at_call 86
    refine (pick_any g A n c (m + 1) 14 _ hC hn (by omega) (by omega) (by omega)).mono ?_
    rintro e w2 ⟨r2, rfl, hr2, hC2, hG2⟩
    go_wp2
    go_ret
    exact ⟨_, rfl, by omega, by omega, hC2, grown_trans hG hG2⟩

end Go.Proofs.Ytlmlckgnmkjkdaa

/-
  The cursor's once and label.
-/
namespace Go.Proofs.Ytlmlckgnmkjkdaa
open Go.RowKit

set_option maxHeartbeats 1000000 in
theorem once_any (g : Nat) (A : Option Addr) (n c m : Nat) (N : Int) (w : World) (h : Cur w g A n c m) (hn : n ≤ 1048576) (hm : m ≤ 1099511627776) (hN : 1 ≤ N) (hN2 : N ≤ 4611686018427387904) :
    Calls Try.prog 113 #[.pointer (some ⟨g, 0, none⟩), .int .i64 N] w fun e w' => ∃ r : Bool, e = .returned (.bool r) ∧ Cur w' g A n c (m + 1) ∧ w.grownBy w' (some g) := by
  go_enter Try.func113, Try.ntmps113
  go_wp2_with (go_at_call 86; refine (pick_any g A n c m N _ h hn hm hN hN2).mono ?_; rintro e w' ⟨r, rfl, hr, hC, hG⟩)
  go_ret
  exact ⟨_, rfl, hC, hG⟩

end Go.Proofs.Ytlmlckgnmkjkdaa

/-
  The cursor's size: what it returns.
-/
namespace Go.Proofs.Ytlmlckgnmkjkdaa
open Go.RowKit

set_option maxHeartbeats 1000000 in
theorem size_any (g : Nat) (A : Option Addr) (n c m : Nat) (N : Nat) (w : World) (h : Cur w g A n c m) (hn : n ≤ 1048576) (hm : m ≤ 1099511627776) (hN : N ≤ 1000) :
    Calls Try.prog 46 #[.pointer (some ⟨g, 0, none⟩), .int .i64 (N : Int)] w fun e w' => ∃ r : Nat, e = .returned (.int .i64 r) ∧ r ≤ N ∧ Cur w' g A n c (m + 1) ∧ w.grownBy w' (some g) := by
  have HC := Lib.hid h
  obtain ⟨i, s, ho, hi, hs⟩ := h.ex
  obtain ⟨c0, c1, c2⟩ := ho.three
  clear h ho
  have hd : 0 ≤ (n : Int) / 8 ∧ (n : Int) / 8 ≤ 1048576 := by omega
  by_cases hN1 : (N : Int) ≤ 1 + (n : Int) / 8
  · go_enter Try.func46, Try.ntmps46
    go_wp2_with (go_at_call 86; refine (pick_any g A n c m _ _ HC.out hn hm (by omega) (by omega)).mono ?_; rintro e w' ⟨r, rfl, hr, hC, hG⟩)
    go_ret
    exact ⟨r, rfl, by omega, hC, hG⟩
  · go_enter Try.func46, Try.ntmps46
    go_wp2_with (go_at_call 86; refine (pick_any g A n c m _ _ HC.out hn hm (by omega) (by omega)).mono ?_; rintro e w' ⟨r, rfl, hr, hC, hG⟩)
    go_ret
    exact ⟨r, rfl, by omega, hC, hG⟩
end Go.Proofs.Ytlmlckgnmkjkdaa

/-
  The cursor's definitions of windows and times: what they return.
-/
namespace Go.Proofs.Ytlmlckgnmkjkdaa
open Go.RowKit

/-- the memory of a draw: its result (block R), its variable (block B), the cursor (block g) -/
structure VS (w W : World) (g : Nat) (A : Option Addr) (n c M R B : Nat) (tR : TypeId) (rs : List Value) (tB : TypeId) (ds : List Value) : Prop where
  r : Own W R tR rs
  b : Own W B tB ds
  cur : Cur W g A n c M
  gr : w.grownBy W (some g)
  hg : g < w.heap.size
  hR : w.heap.size ≤ R
  hB : R < B
section
variable {w W W' : World} {g : Nat} {A : Option Addr} {n c M M' R B : Nat} {tR tB : TypeId} {rs ds : List Value}
theorem VS.far (p : VS w W g A n c M R B tR rs tB ds) (hG : W.grownBy W' (some g)) (hC : Cur W' g A n c M') : VS w W' g A n c M' R B tR rs tB ds :=
  ⟨own_far p.r hG (by have := p.hg; have := p.hR; omega), own_far p.b hG (by have := p.hg; have := p.hR; have := p.hB; omega), hC, grownBy_trans p.gr hG, p.hg, p.hR, p.hB⟩
theorem VS.grow (p : VS w W g A n c M R B tR rs tB ds) (hb : Below W.heap.size W W') : VS w W' g A n c M R B tR rs tB ds := p.far (grownBy_of hb _) (p.cur.grow hb)
theorem VS.more (p : VS w W g A n c M R B tR rs tB ds) (hM : M ≤ M') : VS w W g A n c M' R B tR rs tB ds := ⟨p.r, p.b, p.cur.more hM, p.gr, p.hg, p.hR, p.hB⟩
theorem cur_store {D j : Nat} (h : Cur W g A n c M) (hD : g < D) (u : Value) : Cur (W.setCell ⟨D, j, none⟩ u) g A n c M := by
  obtain ⟨i, s, ho, hi, hs⟩ := h.ex
  exact ⟨⟨i, s, ho.far (p := ⟨D, j, none⟩) (by simp only; omega) u, hi, hs⟩, h.byt.below ((Below.refl g W).setCell (by simp only; omega) _)⟩
theorem grown_store {D j : Nat} (h : w.grownBy W (some g)) (hD : w.heap.size ≤ D) (u : Value) : w.grownBy (W.setCell ⟨D, j, none⟩ u) (some g) :=
  ⟨h.os, h.tape, h.output, by simpa using h.size, fun k hk hne => (Below.heap_setCell W ⟨D, j, none⟩ u k (by show k ≠ D; omega)).trans (h.block k hk hne)⟩
theorem VS.set (p : VS w W g A n c M R B tR rs tB ds) (j : Nat) (u : Value) : VS w (W.setCell ⟨B, j, none⟩ u) g A n c M R B tR rs tB (ds.set j u) := by
  have hg := p.hg
  have hR := p.hR
  have hB := p.hB
  exact ⟨p.r.far (p := ⟨B, j, none⟩) (by simp only; omega) u, p.b.set j u, cur_store p.cur (by omega) u, grown_store p.gr (by omega) u, p.hg, p.hR, p.hB⟩
theorem VS.setR (p : VS w W g A n c M R B tR rs tB ds) (j : Nat) (u : Value) : VS w (W.setCell ⟨R, j, none⟩ u) g A n c M R B tR (rs.set j u) tB ds := by
  have hg := p.hg
  have hR := p.hR
  have hB := p.hB
  exact ⟨p.r.set j u, p.b.far (p := ⟨R, j, none⟩) (by simp only; omega) u, cur_store p.cur (by omega) u, grown_store p.gr (by omega) u, p.hg, p.hR, p.hB⟩
end
/-- a literal of integers: whatever is taken of it is an integer -/
theorem iz_take {zs : List Int} {r : Nat} (h : r < zs.length) : ∃ v, (iz zs)[r]? = some (.int .i64 v) ∧ v ∈ zs := by
  refine ⟨zs[r], ?_, List.getElem_mem h⟩
  simp [iz, h]

end Go.Proofs.Ytlmlckgnmkjkdaa

/-
  What is drawn for the laws of aggregates: lists of numbers.
-/
namespace Go.Proofs.Ytlmlckgnmkjkdaa
open Go.RowKit

theorem byt_kept {w w' : World} {A : Option Addr} {n : Nat} (hA : Byt w A n w.heap.size) (hb : Below w.heap.size w w') : Byt w' A n w'.heap.size := fun k hk => by
  obtain ⟨ad, b, e, hl, r⟩ := (hA.below hb) k hk
  exact ⟨ad, b, e, Nat.lt_of_lt_of_le hl hb.size, r⟩
/-- what changed the cursor alone left what was there -/
theorem below_draw {w w1 w2 : World} {g : Nat} (h : Below w.heap.size w w1) (hG : w1.grownBy w2 (some g)) (hg : w.heap.size ≤ g) : Below w.heap.size w w2 := h.grown hG h.size (fun k e => by cases e; exact hg)
theorem cur_low {b w' : World} {g n c M B : Nat} {A : Option Addr} (h : Cur b g A n c M) (k : Below B b w') (hg : g < B) : Cur w' g A n c M := by
  obtain ⟨i, s, ho, hi, hs⟩ := h.ex
  exact ⟨⟨i, s, ho.below k hg, hi, hs⟩, h.byt.below (k.mono (Nat.le_of_lt hg))⟩
theorem low_grown {w b b' : World} {r : Option Nat} (h : w.grownBy b r) (k : Below w.heap.size b b') : w.grownBy b' r :=
  ⟨k.os.trans h.os, k.tape.trans h.tape, k.output.trans h.output, Nat.le_trans h.size k.size, fun i hi hr => (k.block i hi).trans (h.block i hi hr)⟩
/-- a literal of integers: whatever is taken of it is one of them -/
theorem iz_pick {zs : List Int} {r : Nat} (h : r < zs.length) : ∃ v, (iz zs)[r]? = some (.int .i64 v) ∧ v ∈ zs := by
  refine ⟨zs[r], ?_, List.getElem_mem h⟩
  simp [iz, h]
theorem i64_three {a b z v : Int} (h : v ∈ [a, b, z]) (ha : I64 a) (hb : I64 b) (hz : I64 z) : I64 v := by
  simp only [List.mem_cons, List.not_mem_nil, or_false] at h
  rcases h with rfl | rfl | rfl <;> assumption
theorem i64_snoc {ts : List Int} {v : Int} (h : ∀ x ∈ ts, I64 x) (hv : I64 v) : ∀ x ∈ ts ++ [v], I64 x := fun x hx => by
  rcases List.mem_append.1 hx with hx | hx
  · exact h x hx
  · rw [List.mem_singleton.1 hx]; exact hv

set_option maxRecDepth 100000 in
set_option maxHeartbeats 4000000 in
theorem values_any (g : Nat) (A : Option Addr) (n c m : Nat) (w : World) (h : Cur w g A n c m) (hn : n ≤ 1048576) (hm : m ≤ 1000000) :
    Calls Try.prog 88 #[.pointer (some ⟨g, 0, none⟩)] w fun e w' => ∃ (ts : List Int) (A' : Option Addr) (c' : Nat), e = .returned (.slice A' ts.length c') ∧ ts.length ≤ 9 ∧ (∀ x ∈ ts, I64 x) ∧
      w'.ownsRow w.heap.size 3 1 (.slice A' ts.length c') ts.length (iz ts) ∧ Cur w' g A n c (m + 50) ∧ w.grownBy w' (some g) := by
  have hgl := h.lt
  have rowE := owns_empty (size := 1) (base := w.heap.size) (Own.new w 3 []) (Nat.le_refl _)
  have hC0 := h.grow (below_alloc w (.cells #[] 3))
  have hG0 := World.grownBy_alloc w (.cells #[] 3) (some g)
  clear h
  go_enter Try.func88, Try.ntmps88
  go_wp2_with fail
  refine (size_any g A n c m 9 _ hC0 hn (by omega) (by omega)).mono ?_
  rintro e w1 ⟨r, rfl, hr, hC1, hG1⟩
  have row1 := owns_far rowE hG1 (owns_lt rowE hgl)
  have hG := grownBy_trans hG0 hG1
  clear rowE hC0 hG0 hG1
  go_wp2
  go_loopw [3, 4] (fun s3 s4 wr => ∃ (j : Nat) (ts : List Int) (A6 : Option Addr) (c6 : Nat), j ≤ 9 ∧ s4 = .int .i64 (j : Int) ∧ s3 = .slice A6 ts.length c6 ∧ ts.length + j ≤ 9 ∧ Hid (∀ x ∈ ts, I64 x) ∧
    wr.ownsRow w.heap.size 3 1 (.slice A6 ts.length c6) ts.length (iz ts) ∧ Cur wr g A n c (m + 1 + 5 * (9 - j)) ∧ w.grownBy wr (some g)) (fun _ s4 _ => (intOf s4).toNat)
  case atStart => exact ⟨r, [], _, _, hr, rfl, rfl, by simp; omega, Lib.hid (fun x hx => by cases hx), row1, hC1.more (by omega), hG⟩
  case round =>
    clear row1 hC1 hG hr
    obtain ⟨j, ts, A6, c6, hj, rfl, rfl, hts, hI, hrow, hC, hG⟩ := hrel
    by_cases hj0 : 0 < j
    · go_wp2_with fail
      refine (pick_any g A n c (m + 1 + 5 * (9 - j)) 20 _ hC hn (by omega) (by omega) (by omega)).mono ?_
      rintro e w2 ⟨r2, rfl, hr2, hC2, hG2⟩
      go_wp2_with fail
      refine (pick_any g A n c _ 20 _ hC2 hn (by omega) (by omega) (by omega)).mono ?_
      rintro e w3 ⟨r3, rfl, hr3, hC3, hG3⟩
      go_wp2_with fail
      refine (raw_any g A n c _ _ hC3 hn (by omega)).mono ?_
      rintro e w4 ⟨z, rfl, hz1, hz2, hC4, hG4⟩
      have hC4l := hC4.lt
      have hG5 := grownBy_trans (grownBy_trans hG2 hG3) hG4
      clear hC2 hC3 hG2 hG3 hG4
      go_wp2_with fail
      refine (pick_any g A n c _ 3 _ (hC4.grow (below_alloc _ _)) hn (by omega) (by omega) (by omega)).mono ?_
      rintro e w5 ⟨r5, rfl, hr5, hC5, hG6⟩
      have hL := own_far (Own.new w4 3 (iz [(r2 : Int) - 5, (r3 : Int) - 5, z])) hG6 (by omega)
      obtain ⟨v, hv, hvm⟩ := iz_pick (zs := [(r2 : Int) - 5, (r3 : Int) - 5, z]) (r := r5) (by simp only [List.length_cons, List.length_nil]; omega)
      have hcell : w5.cell? ⟨w4.heap.size, r5, none⟩ = some (.int .i64 v) := (hL.cell r5).trans hv
      have hv64 : I64 v := i64_three hvm (by unfold I64; omega) (by unfold I64; omega) ⟨hz1, hz2⟩
      have hG7 := grownBy_trans hG5 (grownBy_trans (World.grownBy_alloc _ _ _) hG6)
      have hrow7 := owns_far hrow hG7 (owns_lt hrow hgl)
      have hG8 := grownBy_trans hG hG7
      have HL1 : Hid (ts.length + 1 ≤ 2097152) := Lib.hid (by omega)
      have hsz := hG8.size
      have hjm : ((j : Int) - 1) = ((j - 1 : Nat) : Int) := by omega
      have hI8 := Lib.hid (i64_snoc hI.out hv64)
      have hC8 := hC5.more (m' := m + 1 + 5 * (9 - (j - 1))) (by omega)
      have hC8l := hC8.lt
      clear hL hv hvm hG5 hG6 hG7 hC4 hC5 hC hrow hI hv64 hG
      go_wp2_with (at_builtin; refine appInt.own rfl _ (.tmp 26) rfl w.heap.size (.slice A6 ts.length c6) ts.length (iz ts) rfl (hrow7.alloc _) w5.heap.size 1 1 [.int .i64 v] rfl (Own.new w5 _ _) rfl (iz_one [v]) HL1 (by simp; omega) ?_)
      intro A8 c8 w8 hown8 hgrow8 hb8
      have hrow8 : w8.ownsRow w.heap.size 3 1 (.slice A8 (ts.length + 1) c8) (ts.length + 1) (iz (ts ++ [v])) := owns_as hown8 (iz_append ts [v]).symm
      have hC9 : Cur w8 g A n c (m + 1 + 5 * (9 - (j - 1))) := cur_low (hC8.grow (below_alloc w5 (.cells #[.int .i64 v] 3))) hb8 hgl
      have hG9 := low_grown (grownBy_trans hG8 (World.grownBy_alloc w5 (.cells #[.int .i64 v] 3) (some g))) hb8
      clear hrow7 hown8 hgrow8 hC8 hG8 hb8 hcell
      go_wp2
      go_roundw
      case rel => exact ⟨j - 1, ts ++ [v], A8, c8, by omega, by go_num, by simp, by simp; omega, hI8, by simpa using hrow8, hC9, hG9⟩
      case measure => simp [intOf]; omega
    · obtain rfl : j = 0 := by omega
      go_wp2
      go_ret
      exact ⟨ts, A6, c6, rfl, by omega, hI.out, hrow, hC.more (by omega), hG⟩

set_option maxHeartbeats 400000 in
theorem bigN_any (A : Option Addr) (n c : Nat) (b : Bool) (w : World) (hb : decide (1048576 < n) = b) (hn : n ≤ 9223372036854775807) :
    Calls Try.prog 10 #[.slice A n c] w fun e w' => e = .returned (.bool b) ∧ w = w' := by
  go_enter Try.func10, Try.ntmps10
  go_wp2
  go_ret
  exact ⟨ret_bool (by rw [← hb]; simp; omega), rfl⟩
theorem add_twice (a : Addr) (i j : Nat) : (a.add i).add j = a.add (i + j) := by
  unfold Addr.add
  repeat' split
  all_goals simp_all <;> omega
end Go.Proofs.Ytlmlckgnmkjkdaa

/-
  The cursor's tokens.
-/
namespace Go.Proofs.Ytlmlckgnmkjkdaa
open Go.RowKit

/-- a token is stored in its variable (block R) and handed back -/
theorem tok_end {w W : World} {g n c M R : Nat} {A : Option Addr} {cs : List Value} {t : TypeId} (o : Own W R t cs) (hC : Cur W g A n c M) (hG : w.grownBy W (some g)) (hg : g < R) (hR : w.heap.size ≤ R) (x y : Value) :
    Own ((W.setCell ⟨R, 0, none⟩ x).setCell ⟨R, 1, none⟩ y) R t ((cs.set 0 x).set 1 y) ∧ Cur ((W.setCell ⟨R, 0, none⟩ x).setCell ⟨R, 1, none⟩ y) g A n c M ∧ w.grownBy ((W.setCell ⟨R, 0, none⟩ x).setCell ⟨R, 1, none⟩ y) (some g) :=
  ⟨(o.set 0 x).set 1 y, cur_store (cur_store hC hg x) hg y, grown_store (grown_store hG hR x) hR y⟩

set_option maxRecDepth 100000 in
set_option maxHeartbeats 4000000 in
theorem tok_any (g : Nat) (A : Option Addr) (n c m : Nat) (d : Int) (w : World) (h : Cur w g A n c m) (hn : n ≤ 1048576) (hm : m ≤ 1000000) :
    Calls Try.prog 130 #[.pointer (some ⟨g, 0, none⟩), .int .i64 d] w fun e w' => ∃ o z : Int, e = .returned (.agg #[.int .i64 o, .int .i64 z]) ∧ 0 ≤ o ∧ o ≤ 11 ∧ Cur w' g A n c (m + 10) ∧ w.grownBy w' (some g) := by
  have hgl := h.lt
  have o0 := Own.new w 125 [.int .i64 0, .int .i64 0]
  have C0 := h.grow (below_alloc w (.cells #[.int .i64 0, .int .i64 0] 125))
  have G0 : w.grownBy (w.alloc (.cells #[.int .i64 0, .int .i64 0] 125)) (some g) := grownBy_of (below_alloc _ _) _
  clear h
  go_enter Try.func130, Try.ntmps130
  go_upto_region 1 with (fail)
  go_cut [5] (fun s5 wx => ∃ b : Bool, s5 = .bool b ∧ Own wx w.heap.size 125 [.int .i64 0, .int .i64 0] ∧ Cur wx g A n c (m + 1) ∧ w.grownBy wx (some g))
  case first =>
    by_cases hd : d < 2
    · go_wp2_with fail
      go_meet
      case rel => exact ⟨true, rfl, o0, C0.more (by omega), G0⟩
    · go_wp2_with fail
      refine (once_any g A n c m 3 _ C0 hn (by omega) (by omega) (by omega)).mono ?_
      rintro e w1 ⟨b, rfl, C1, G1⟩
      go_wp2_with fail
      go_meet
      case rel => exact ⟨b, rfl, own_far o0 G1 (by omega), C1, grown_trans G0 G1⟩
  case rest =>
    obtain ⟨b, rfl, o1, C1, G1⟩ := hcut
    generalize wc = w1 at *
    clear o0 C0 G0
    cases b with
    | false =>
      go_wp2_with fail
      refine (pick_any g A n c (m + 1) 7 _ C1 hn (by omega) (by omega) (by omega)).mono ?_
      rintro e w2 ⟨r, rfl, hr, C2, G2⟩
      have o2 := own_far o1 G2 (by omega)
      obtain ⟨c0, c1⟩ := o2.two
      have f0 := o2.free 0
      have f1 := o2.free 1
      have HE := Lib.hid (tok_end o2 C2 (grown_trans G1 G2) hgl (Nat.le_refl _) (.int .i64 (4 + (r : Int))) (.int .i64 0))
      clear o1 C1 G1 o2 C2 G2
      go_wp2
      obtain ⟨e0, e1⟩ := HE.out.1.two
      refine bodyPost_ret (v := .agg #[.int .i64 (4 + (r : Int)), .int .i64 0]) (by simp [results, Try.results130, go_sem, e0, e1]) rfl ?_
      exact ⟨_, _, rfl, by omega, by omega, HE.out.2.1.more (by omega), HE.out.2.2⟩
    | true =>
      go_upto_region 2 with (fail)
      go_cut [17] (fun s5 wx => ∃ b : Bool, s5 = .bool b ∧ Own wx w.heap.size 125 [.int .i64 0, .int .i64 0] ∧ Cur wx g A n c (m + 2) ∧ w.grownBy wx (some g))
      case first =>
        by_cases hd : 0 < d
        · go_wp2_with fail
          refine (once_any g A n c (m + 1) 5 _ C1 hn (by omega) (by omega) (by omega)).mono ?_
          rintro e w2 ⟨b, rfl, C2, G2⟩
          go_wp2_with fail
          go_meet
          case rel => exact ⟨b, rfl, own_far o1 G2 (by omega), C2, grown_trans G1 G2⟩
        · go_wp2_with fail
          go_meet
          case rel => exact ⟨false, rfl, o1, C1.more (by omega), G1⟩
      case rest =>
        obtain ⟨b, rfl, o2, C2, G2⟩ := hcut
        generalize wc = w2 at *
        clear o1 C1 G1
        cases b with
        | true =>
          obtain ⟨c0, c1⟩ := o2.two
          have f0 := o2.free 0
          have f1 := o2.free 1
          have HE := Lib.hid (tok_end o2 C2 G2 hgl (Nat.le_refl _) (.int .i64 11) (.int .i64 0))
          clear o2 C2 G2
          go_wp2
          obtain ⟨e0, e1⟩ := HE.out.1.two
          refine bodyPost_ret (v := .agg #[.int .i64 11, .int .i64 0]) (by simp [results, Try.results130, go_sem, e0, e1]) rfl ?_
          exact ⟨_, _, rfl, by omega, by omega, HE.out.2.1.more (by omega), HE.out.2.2⟩
        | false =>
          go_wp2_with fail
          refine (once_any g A n c (m + 2) 2 _ C2 hn (by omega) (by omega) (by omega)).mono ?_
          rintro e w3 ⟨b, rfl, C3, G3⟩
          have o3 := own_far o2 G3 (by omega)
          have G3' := grown_trans G2 G3
          clear o2 C2 G2 G3
          cases b with
          | true =>
            go_wp2_with fail
            refine (pick_any g A n c (m + 2 + 1) 3 _ C3 hn (by omega) (by omega) (by omega)).mono ?_
            rintro e w4 ⟨r, rfl, hr, C4, G4⟩
            have o4 := own_far o3 G4 (by omega)
            obtain ⟨c0, c1⟩ := o4.two
            have f0 := o4.free 0
            have f1 := o4.free 1
            have HE := Lib.hid (tok_end o4 C4 (grown_trans G3' G4) hgl (Nat.le_refl _) (.int .i64 (1 + (r : Int))) (.int .i64 0))
            clear o3 C3 G3' o4 C4 G4
            go_wp2
            obtain ⟨e0, e1⟩ := HE.out.1.two
            refine bodyPost_ret (v := .agg #[.int .i64 (1 + (r : Int)), .int .i64 0]) (by simp [results, Try.results130, go_sem, e0, e1]) rfl ?_
            exact ⟨_, _, rfl, by omega, by omega, HE.out.2.1.more (by omega), HE.out.2.2⟩
          | false =>
            go_wp2_with fail
            refine (pick_any g A n c (m + 2 + 1) 5 _ C3 hn (by omega) (by omega) (by omega)).mono ?_
            rintro e w4 ⟨r, rfl, hr, C4, G4⟩
            go_wp2_with fail
            refine (raw_any g A n c _ _ C4 hn (by omega)).mono ?_
            rintro e w5 ⟨z, rfl, hz1, hz2, C5, G5⟩
            have C5l := C5.lt
            have G5' := grown_trans G3' (grown_trans G4 G5)
            have o5 := own_far (own_far o3 G4 (by omega)) G5 (by omega)
            clear C3 C4 G3' G4 G5 o3
            go_wp2_with fail
            refine (pick_any g A n c _ 2 _ (C5.grow (below_alloc _ _)) hn (by omega) (by omega) (by omega)).mono ?_
            rintro e w6 ⟨r6, rfl, hr6, C6, G6⟩
            have hL := own_far (Own.new w5 3 (iz [(r : Int), z])) G6 (by omega)
            obtain ⟨v, hv, hvm⟩ := iz_pick (zs := [(r : Int), z]) (r := r6) (by simp only [List.length_cons, List.length_nil]; omega)
            have hcell : w6.cell? ⟨w5.heap.size, r6, none⟩ = some (.int .i64 v) := (hL.cell r6).trans hv
            have o6 := own_far (o5.alloc (.cells #[.int .i64 (r : Int), .int .i64 z] 3)) G6 (by omega)
            obtain ⟨c0, c1⟩ := o6.two
            have f0 := o6.free 0
            have f1 := o6.free 1
            have HE := Lib.hid (tok_end o6 C6 (grown_trans G5' (grown_trans (World.grownBy_alloc _ _ _) G6)) hgl (Nat.le_refl _) (.int .i64 0) (.int .i64 v))
            clear hL hv hvm C5 C6 G5' G6 o5 o6
            go_wp2
            obtain ⟨e0, e1⟩ := HE.out.1.two
            refine bodyPost_ret (v := .agg #[.int .i64 0, .int .i64 v]) (by simp [results, Try.results130, go_sem, e0, e1]) rfl ?_
            exact ⟨_, _, rfl, by omega, by omega, HE.out.2.1.more (by omega), HE.out.2.2⟩
end Go.Proofs.Ytlmlckgnmkjkdaa

/-
  The cursor's expressions.
-/
namespace Go.Proofs.Ytlmlckgnmkjkdaa
open Go.RowKit

theorem info_Tok' : (Try.prog.info? 125).map (fun i => (i.zero, i.size, i.bytes)) = some (some (.agg #[.int .i64 0, .int .i64 0]), 2, 16) := by kernel_rfl
theorem appTok : AppT Try.prog 39 125 (.agg #[.int .i64 0, .int .i64 0]) 2 16 := by
  obtain ⟨i0, hi, hz0, hz1, hz2⟩ := info_parts info_Tok'
  exact ⟨Try.underlying39, ⟨i0, hi, hz0, hz1, hz2⟩, rfl, by decide, by decide⟩
theorem tok_snoc (ts : List (Int × Int)) (o z : Int) : ez ts ++ [.int .i64 o, .int .i64 z] = ez (ts ++ [(o, z)]) := by rw [ez_append]; rfl
/-- a row of tokens under way, and the cursor -/
structure TR (w W : World) (g : Nat) (A : Option Addr) (n c M : Nat) (B : Option Addr) (cb : Nat) (ts : List (Int × Int)) : Prop where
  row : W.ownsRow w.heap.size 125 2 (.slice B ts.length cb) ts.length (ez ts)
  cur : Cur W g A n c M
  gr : w.grownBy W (some g)
section
variable {w W W' : World} {g n c M M' cb : Nat} {A B : Option Addr} {ts : List (Int × Int)}
theorem TR.far (p : TR w W g A n c M B cb ts) (hgl : g < w.heap.size) (hG : W.grownBy W' (some g)) (hC : Cur W' g A n c M') : TR w W' g A n c M' B cb ts :=
  ⟨owns_far p.row hG (owns_lt p.row hgl), hC, grownBy_trans p.gr hG⟩
theorem TR.grow (p : TR w W g A n c M B cb ts) (hb : Below W.heap.size W W') : TR w W' g A n c M B cb ts := ⟨owns_grow p.row hb, p.cur.grow hb, grownBy_trans p.gr (grownBy_of hb _)⟩
theorem TR.more (p : TR w W g A n c M B cb ts) (h : M ≤ M') : TR w W g A n c M' B cb ts := ⟨p.row, p.cur.more h, p.gr⟩
/-- .. behind an append -/
theorem TR.app {B' : Option Addr} {cb' : Nat} {o z : Int} (p : TR w W g A n c M B cb ts) (hgl : g < w.heap.size) (hown : W'.ownsRow w.heap.size 125 2 (.slice B' (ts.length + 1) cb') (ts.length + 1) (ez ts ++ [.int .i64 o, .int .i64 z])) (hb : Below w.heap.size W W') :
    TR w W' g A n c M B' cb' (ts ++ [(o, z)]) := by
  rw [tok_snoc] at hown
  exact ⟨by rw [List.length_append, List.length_singleton]; exact hown, cur_low p.cur hb hgl, low_grown p.gr hb⟩
end

set_option maxRecDepth 100000 in
set_option maxHeartbeats 4000000 in
theorem expr_any (g : Nat) (A : Option Addr) (n c m : Nat) (w : World) (h : Cur w g A n c m) (hn : n ≤ 1048576) (hm : m ≤ 500000) :
    Calls Try.prog 114 #[.pointer (some ⟨g, 0, none⟩)] w fun e w' => ∃ (ts : List (Int × Int)) (B : Option Addr) (cb : Nat), e = .returned (.slice B ts.length cb) ∧ ts.length ≤ 20 ∧ TR w w' g A n c (m + 100) B cb ts := by
  have hgl := h.lt
  have T0 := Lib.hid (show TR w (w.alloc (.cells #[] 125)) g A n c m (some ⟨w.heap.size, 0, none⟩) 0 [] from ⟨owns_empty (Own.new w 125 []) (Nat.le_refl _), h.grow (below_alloc _ _), grownBy_of (below_alloc _ _) _⟩)
  clear h
  go_enter Try.func114, Try.ntmps114
  go_wp2_with fail
  refine (pick_any g A n c m 8 _ T0.out.cur hn (by omega) (by omega) (by omega)).mono ?_
  rintro e w1 ⟨r, rfl, hr, C1, G1⟩
  have T1 := Lib.hid (T0.out.far hgl G1 C1)
  clear T0 C1 G1
  go_wp2
  go_loopw [3, 4, 5] (fun s3 s4 s5 wr => ∃ (j : Nat) (d : Int) (ts : List (Int × Int)) (B : Option Addr) (cb : Nat), j ≤ 7 ∧ s5 = .int .i64 (j : Int) ∧ s4 = .int .i64 d ∧ -(8 - (j : Int)) ≤ d ∧ d ≤ 8 - (j : Int) ∧ s3 = .slice B ts.length cb ∧ ts.length + j ≤ 7 ∧
    Hid (TR w wr g A n c (m + 1 + 10 * (7 - j)) B cb ts)) (fun _ _ s5 _ => (intOf s5).toNat)
  case atStart => exact ⟨r, 0, [], _, _, by omega, rfl, rfl, by omega, by omega, rfl, by simp; omega, Lib.hid (T1.out.more (by omega))⟩
  case round =>
    clear T1 hr
    obtain ⟨j, d, ts, B, cb, hj, rfl, rfl, hd1, hd2, rfl, hts, HT⟩ := hrel
    by_cases hj0 : 0 < j
    · go_wp2_with fail
      refine (tok_any g A n c _ d _ HT.out.cur hn (by omega)).mono ?_
      rintro e w2 ⟨o, z, rfl, ho0, ho1, C2, G2⟩
      have T2 := Lib.hid ((HT.out.far hgl G2 C2).grow (below_alloc w2 (.cells #[.int .i64 o, .int .i64 z] 125)))
      have ob := Own.new w2 125 [.int .i64 o, .int .i64 z]
      clear HT C2 G2
      obtain ⟨c0, c1⟩ := ob.two
      have hpr := pops_range o
      have HN1 : Hid (ts.length + 1 ≤ 2097152) := Lib.hid (by omega)
      have hsz := T2.out.gr.size
      clear ob
      go_wp2_with fail
      refine (l03Takes_any o _).mono ?_
      rintro e w4 ⟨rfl, rfl⟩
      obtain ⟨d', hd'⟩ : ∃ d', d - pops o + 1 = d' := ⟨_, rfl⟩
      have hdb : -(8 - ((j : Int) - 1)) ≤ d' ∧ d' ≤ 8 - ((j : Int) - 1) := by omega
      have hdw : -100 ≤ d - pops o ∧ d - pops o ≤ 100 := by omega
      go_wp2_with (at_builtin; refine appTok.own rfl _ (.tmp 25) rfl w.heap.size (.slice B ts.length cb) ts.length (ez ts) rfl (T2.out.grow (below_alloc _ _)).row _ 1 1 [.int .i64 o, .int .i64 z] rfl (new_second w2 _ _ _) rfl (by intro u hu; simp at hu; rcases hu with rfl | rfl <;> rfl) HN1 (Nat.le_trans hsz (below_alloc _ _).size) ?_; intro B8 cb8 w8 hown8 hgrow8 hb8)
      have T8 := Lib.hid (((T2.out.grow (below_alloc _ _)).app hgl hown8 hb8).more (M' := m + 1 + 10 * (7 - (j - 1))) (by omega))
      clear T2 hown8 hgrow8 hb8 c0 c1 hsz
      go_roundw
      case rel => exact ⟨j - 1, d', ts ++ [(o, z)], B8, cb8, by omega, by first | rfl | (congr 1; omega), rfl, by omega, by omega, by simp, by simp; omega, T8⟩
      case measure => simp [intOf]; omega
    · obtain rfl : j = 0 := by omega
      have T3 := Lib.hid (show TR w wr g A n c (m + 80) B cb ts from HT.out.more (by omega))
      have HN1 : Hid (ts.length + 1 ≤ 2097152) := Lib.hid (by omega)
      have hsz := T3.out.gr.size
      clear HT
      by_cases hd0 : d = 0
      · subst hd0
        go_wp2_with (at_builtin; refine appTok.own rfl _ (.tmp 31) rfl w.heap.size (.slice B ts.length cb) ts.length (ez ts) rfl (T3.out.grow (below_alloc _ _)).row _ 1 1 [.int .i64 2, .int .i64 0] rfl (Own.new _ _ _) rfl (by intro u hu; simp at hu; rcases hu with rfl | rfl <;> rfl) HN1 (Nat.le_trans hsz (below_alloc _ _).size) ?_; intro B8 cb8 w8 hown8 hgrow8 hb8)
        have T8 := Lib.hid (((T3.out.grow (below_alloc _ _)).app hgl hown8 hb8).more (M' := m + 100) (by omega))
        clear T3 hown8 hgrow8 hb8
        go_ret
        exact ⟨ts ++ [(2, 0)], B8, cb8, by simp, by simp; omega, T8.out⟩
      · have hd0' : (d == 0) = false := by simpa using hd0
        generalize wr = w3 at *
        go_wp2
        go_loopw [3, 4] (fun s3 s4 wr => ∃ (d : Int) (ts : List (Int × Int)) (B : Option Addr) (cb : Nat), s4 = .int .i64 d ∧ -8 ≤ d ∧ d ≤ 8 ∧ s3 = .slice B ts.length cb ∧ (ts.length : Int) + (if 1 < d then d else 1) ≤ 16 ∧ Hid (∃ M, TR w wr g A n c M B cb ts ∧ (M : Int) + (if 1 < d then d else 1) ≤ m + 90)) (fun _ s4 _ => (intOf s4).toNat)
        case atStart => exact ⟨d, ts, B, cb, rfl, by omega, by omega, rfl, by split <;> omega, Lib.hid ⟨_, T3.out, by split <;> omega⟩⟩
        case round =>
          clear T3 HN1 hts hd1 hd2 hd0 hd0' hsz
          obtain ⟨d, ts, B, cb, rfl, hd1, hd2, rfl, hts, HT⟩ := hrel
          obtain ⟨M, hT, hM⟩ := HT.out
          have T4 := Lib.hid hT
          clear HT hT
          by_cases hd : 1 < d
          · rw [if_pos hd] at hts hM
            go_wp2_with fail
            refine (pick_any g A n c M 7 _ T4.out.cur hn (by omega) (by omega) (by omega)).mono ?_
            rintro e w5 ⟨r5, rfl, hr5, C5, G5⟩
            have T5 := Lib.hid (T4.out.far hgl G5 C5)
            have HN1 : Hid (ts.length + 1 ≤ 2097152) := Lib.hid (by omega)
            have hsz := T5.out.gr.size
            clear T4 C5 G5
            go_wp2_with (at_builtin; refine appTok.own rfl _ (.tmp 42) rfl w.heap.size (.slice B ts.length cb) ts.length (ez ts) rfl (T5.out.grow (below_alloc _ _)).row _ 1 1 [.int .i64 (4 + (r5 : Int)), .int .i64 0] rfl (Own.new _ _ _) rfl (by intro u hu; simp at hu; rcases hu with rfl | rfl <;> rfl) HN1 (Nat.le_trans hsz (below_alloc _ _).size) ?_; intro B8 cb8 w8 hown8 hgrow8 hb8)
            have T8 := Lib.hid ((T5.out.grow (below_alloc _ _)).app hgl hown8 hb8)
            clear T5 hown8 hgrow8 hb8
            go_roundw
            case rel => (repeat apply Exists.intro); refine ⟨?_, rfl⟩; exact ⟨d - 1, ts ++ [(4 + (r5 : Int), 0)], B8, cb8, rfl, by omega, by omega, by simp, by simp only [List.length_append, List.length_singleton]; split <;> omega, Lib.hid ⟨M + 1, T8.out, by split <;> omega⟩⟩
            case measure => simp [intOf]; omega
          · rw [if_neg hd] at hts hM
            go_wp2
            go_ret
            exact ⟨ts, B, cb, rfl, by omega, T4.out.more (by omega)⟩
end Go.Proofs.Ytlmlckgnmkjkdaa

/-
  The cursor's definitions of windows, by walks. By gencurwin.py.
-/
namespace Go.Proofs.Ytlmlckgnmkjkdaa
open Go.RowKit

set_option maxRecDepth 100000 in
set_option maxHeartbeats 4000000 in
theorem win_any (g : Nat) (A : Option Addr) (n c m : Nat) (w : World) (h : Cur w g A n c m) (hn : n ≤ 1048576) (hm : m ≤ 1000000) :
    Calls Try.prog 112 #[.pointer (some ⟨g, 0, none⟩)] w fun e w' => ∃ k s t : Int, e = .returned (.agg #[.int .i64 k, .int .i64 s, .int .i64 t]) ∧ (1 ≤ s ∧ s ≤ 100) ∧ Cur w' g A n c (m + 10) ∧ w.grownBy w' (some g) := by
  have hgl := h.lt
  have H0 := Lib.hid (h.grow (below_alloc w (.cells #[.int .i64 0, .int .i64 0, .int .i64 0] 40)))
  clear h
  go_enter Try.func112, Try.ntmps112
  go_wp2_with fail
  refine (pick_any g A n c m 3 _ H0.out hn (by omega) (by omega) (by omega)).mono ?_
  rintro e w1 ⟨r1, rfl, hr1, hC1, hG1⟩
  have o1 := own_far (Own.new w 40 [.int .i64 0, .int .i64 0, .int .i64 0]) hG1 (by omega)
  have g1 : w.grownBy w1 (some g) := grown_trans (grownBy_of (below_alloc _ _) _) hG1
  have z1 := o1.lt
  clear H0 hG1
  go_wp2_with fail
  refine (pick_any g A n c (m + 1) 4 _ (hC1.grow (below_alloc _ _)) hn (by omega) (by omega) (by omega)).mono ?_
  rintro e w2 ⟨r2, rfl, hr2, hC2, hG2⟩
  have hL := own_far (Own.new w1 3 (iz [1, 5, 10, 100])) hG2 (by omega)
  obtain ⟨v, hv, hvm⟩ := iz_take (zs := [1, 5, 10, 100]) (r := r2) (by simp only [List.length_cons, List.length_nil]; omega)
  have hv2 : 1 ≤ v ∧ v ≤ 100 := by simp at hvm; omega
  have hcell : w2.cell? ⟨w1.heap.size, r2, none⟩ = some (.int .i64 v) := (hL.cell r2).trans hv
  have z2 := hG2.size
  rw [World.size_alloc] at z2
  have P := Lib.hid (show VS w (w2.alloc (.cells #[.int .i64 (1 + (r1 : Int)), .int .i64 v, .int .i64 0] 40)) g A n c (m + 2) w.heap.size w2.heap.size 40 [.int .i64 0, .int .i64 0, .int .i64 0] 40 [.int .i64 (1 + (r1 : Int)), .int .i64 v, .int .i64 0] from
    ⟨(own_far (o1.alloc _) hG2 (by omega)).alloc _, Own.new w2 _ [_, _, _], hC2.grow (below_alloc _ _), grown_trans g1 (grown_trans (World.grownBy_alloc _ _ _) (grown_trans hG2 (grownBy_of (below_alloc _ _) _))), hgl, Nat.le_refl _, by omega⟩)
  clear hL hv hvm o1 g1 hC1 hC2 hG2
  go_wp2_with fail
  refine (once_any g A n c (m + 2) 2 _ P.out.cur hn (by omega) (by omega) (by omega)).mono ?_
  rintro e w3 ⟨b3, rfl, hC3, hG3⟩
  have P3 := Lib.hid (P.out.far hG3 hC3)
  clear hcell P hC3 hG3
  generalize w2.heap.size = B at *
  go_upto_if 14 with (fail)
  go_cut [3] (fun s3 wx => ∃ k' s' : Int, s3 = .pointer (some ⟨B, 0, none⟩) ∧ 1 ≤ s' ∧ s' ≤ 100 ∧ Hid (VS w wx g A n c (m + 4) w.heap.size B 40 [.int .i64 0, .int .i64 0, .int .i64 0] 40 [.int .i64 k', .int .i64 s', .int .i64 0]))
  case first =>
    have f1 := P3.out.b.free 1
    obtain ⟨c0, c1, c2⟩ := P3.out.b.three
    cases b3 with
    | true =>
      go_wp2_with fail
      refine (pick_any g A n c (m + 2 + 1) 12 _ P3.out.cur hn (by omega) (by omega) (by omega)).mono ?_
      rintro e w4 ⟨r4, rfl, hr4, hC4, hG4⟩
      have P4 := Lib.hid (P3.out.far hG4 hC4)
      clear f1 c0 c1 c2
      have f1 := P4.out.b.free 1
      obtain ⟨c0, c1, c2⟩ := P4.out.b.three
      have P5 := Lib.hid (P4.out.set 1 (.int .i64 (1 + (r4 : Int))))
      clear P3 P4 hC4 hG4
      go_wp2_with fail
      go_meet
      case rel => exact ⟨_, _, rfl, by omega, by omega, P5⟩
    | false =>
      go_wp2_with fail
      go_meet
      case rel => exact ⟨_, v, rfl, by omega, by omega, Lib.hid (P3.out.more (by omega))⟩
  case rest =>
    obtain ⟨k', s', rfl, hs1, hs2, P4⟩ := hcut
    clear P3 hv2
    generalize wc = w4 at *
    by_cases hk : k' = 2
    · subst hk
      have f2 := P4.out.b.free 2
      obtain ⟨c0, c1, c2⟩ := P4.out.b.three
      obtain ⟨t', ht⟩ : ∃ t' : Int, (if (1 : Int) < (s' + 7) / 8 then (s' + 7) / 8 else 1) = t' := ⟨_, rfl⟩
      have ht1 : 1 ≤ t' ∧ t' ≤ 100 := by split at ht <;> omega
      have P5 := Lib.hid (P4.out.set 2 (.int .i64 t'))
      clear P4
      go_wp2_with fail
      refine (once_any g A n c (m + 4) 2 _ P5.out.cur hn (by omega) (by omega) (by omega)).mono ?_
      rintro e w5 ⟨b5, rfl, hC5, hG5⟩
      have P6 := Lib.hid (P5.out.far hG5 hC5)
      clear f2 c0 c1 c2 P5 hC5 hG5 ht
      cases b5 with
      | true =>
        obtain ⟨c0, c1, c2⟩ := P6.out.b.three
        have f2 := P6.out.b.free 2
        go_wp2
        go_region_with (go_at_call 86; refine (pick_any g A n c (m + 4 + 1) s' _ (P6.out.cur.grow (Below.refl _ _).drew) hn (by omega) (by omega) (by omega)).mono ?_; rintro e w6 ⟨r6, rfl, hr6, hC6, hG6⟩; have P7 := Lib.hid ((P6.out.grow (Below.refl _ _).drew).far hG6 hC6); obtain ⟨k0, k1, k2⟩ := P7.out.b.three; have f3 := P7.out.b.free 2; have hw : IntKind.i64.wrap (1 + (r6 : Int)) = 1 + (r6 : Int) := (by rw [IntKind.wrap_i64]; omega); obtain ⟨u', hu⟩ : ∃ u' : Int, (if t' < 1 + (r6 : Int) then 1 + (r6 : Int) else t') = u' := ⟨_, rfl⟩; have P8 := Lib.hid (P7.out.set 2 (.int .i64 u')))
        all_goals
          clear f2 f3 c0 c1 c2 k0 k1 k2 P7 P6 hC6 hG6 hu hw
          have r0 := P8.out.r.free 0
          have r1' := (P8.out.setR 0 (.int .i64 (2))).r.free 1
          have r2' := ((P8.out.setR 0 (.int .i64 (2))).setR 1 (.int .i64 (s'))).r.free 2
          obtain ⟨d0, d1, d2⟩ := P8.out.r.three
          obtain ⟨c0, c1, c2⟩ := P8.out.b.three
          have Z := Lib.hid (((P8.out.setR 0 (.int .i64 (2))).setR 1 (.int .i64 (s'))).setR 2 (.int .i64 (u')))
          obtain ⟨e0, e1, e2⟩ := Z.out.r.three
          go_wp2
          refine bodyPost_ret (v := .agg #[.int .i64 (2), .int .i64 (s'), .int .i64 (u')]) (by simp [results, Try.results112, go_sem, e0, e1, e2]) rfl ?_
          exact ⟨_, _, _, rfl, by omega, Z.out.cur.more (by omega), Z.out.gr⟩
      | false =>
        have r0 := P6.out.r.free 0
        have r1' := (P6.out.setR 0 (.int .i64 (2))).r.free 1
        have r2' := ((P6.out.setR 0 (.int .i64 (2))).setR 1 (.int .i64 (s'))).r.free 2
        obtain ⟨d0, d1, d2⟩ := P6.out.r.three
        obtain ⟨c0, c1, c2⟩ := P6.out.b.three
        have Z := Lib.hid (((P6.out.setR 0 (.int .i64 (2))).setR 1 (.int .i64 (s'))).setR 2 (.int .i64 (t')))
        obtain ⟨e0, e1, e2⟩ := Z.out.r.three
        go_wp2
        refine bodyPost_ret (v := .agg #[.int .i64 (2), .int .i64 (s'), .int .i64 (t')]) (by simp [results, Try.results112, go_sem, e0, e1, e2]) rfl ?_
        exact ⟨_, _, _, rfl, by omega, Z.out.cur.more (by omega), Z.out.gr⟩
    · have hk2 : (k' == 2) = false := by simpa using hk
      obtain ⟨c0, c1, c2⟩ := P4.out.b.three
      have r0 := P4.out.r.free 0
      have r1' := (P4.out.setR 0 (.int .i64 (k'))).r.free 1
      have r2' := ((P4.out.setR 0 (.int .i64 (k'))).setR 1 (.int .i64 (s'))).r.free 2
      obtain ⟨d0, d1, d2⟩ := P4.out.r.three
      obtain ⟨c0, c1, c2⟩ := P4.out.b.three
      have Z := Lib.hid (((P4.out.setR 0 (.int .i64 (k'))).setR 1 (.int .i64 (s'))).setR 2 (.int .i64 (0)))
      obtain ⟨e0, e1, e2⟩ := Z.out.r.three
      go_wp2
      refine bodyPost_ret (v := .agg #[.int .i64 (k'), .int .i64 (s'), .int .i64 (0)]) (by simp [results, Try.results112, go_sem, e0, e1, e2]) rfl ?_
      exact ⟨_, _, _, rfl, by omega, Z.out.cur.more (by omega), Z.out.gr⟩

end Go.Proofs.Ytlmlckgnmkjkdaa

/-
  Tokens: marks.
-/
namespace Go.Proofs.Ytlmlckgnmkjkdaa
open Go.RowKit

set_option maxHeartbeats 1000000 in
theorem markTokS_any (v : Value) (base n : Nat) (zs : List Int) (k : Int) (w : World) (hown : w.ownsRow base 125 2 v n (iz zs)) (hz : zs.length = n * 2) (h0 : 0 ≤ k) (h1 : k ≤ 4611686018427387904) (hn : n ≤ 1048576) :
    Calls Try.prog 83 #[v, .int .i64 k] w fun e w' => e = .returned (.int .i64 (k + (n * 2 : Nat))) ∧ w'.ownsRow base 125 2 v n (iz (marks k (n * 2))) ∧ w.grownBy w' v.ownBlock := by
  obtain ⟨A, c, rfl, _⟩ := owns_rd hown
  have HZ := Lib.hid hz
  clear hz
  go_enter Try.func83, Try.ntmps83
  go_wp2
  go_loopw [1, 5] (fun q i wr => ∃ j : Nat, j ≤ n ∧ i = .int .i64 j ∧ q = .int .i64 (k + j * 2) ∧ wr.ownsRow base 125 2 (.slice A n c) n (iz (markTo zs k (j * 2))) ∧ w.grownBy wr (Value.slice A n c).ownBlock) (fun _ i _ => n - (intOf i).toNat)
  case atStart => exact ⟨0, Nat.zero_le _, rfl, by simp, by rw [Nat.zero_mul, markTo_zero]; exact hown, World.grownBy.refl _ _⟩
  case round =>
    obtain ⟨j, hj, rfl, rfl, ho, hg⟩ := hrel
    by_cases hlt : j < n
    · obtain ⟨g, rfl⟩ : ∃ g, A = some ⟨g, 0, none⟩ := by
        rcases ho.2 with ⟨h, h'⟩ | ⟨g, cap, cur, h, _⟩
        · omega
        · injection h with h; exact ⟨g, h⟩
      have hl0 : j * 2 < zs.length := by rw [HZ.out]; omega
      have hl1 : j * 2 + 1 < zs.length := by rw [HZ.out]; omega
      have c0 : wr.cell? ⟨g, j * 2, none⟩ = some (.int .i64 (iat (markTo zs k (j * 2)) (j * 2))) := by
        rw [ho.cellAt (j * 2) (by omega), iz_iat (by rw [markTo_length (by omega)]; exact hl0)]
      have c1 : wr.cell? ⟨g, j * 2 + 1, none⟩ = some (.int .i64 (iat (markTo zs k (j * 2)) (j * 2 + 1))) := by
        rw [ho.cellAt (j * 2 + 1) (by omega), iz_iat (by rw [markTo_length (by omega)]; exact hl1)]
      have f0 := ho.frozenAt (j * 2)
      have f1 := ho.frozenAt (j * 2 + 1)
      have s1 := ho.stored (j * 2) (.int .i64 (k + j * 2))
      have s2 := s1.1.stored (j * 2 + 1) (.int .i64 (k + j * 2 + 1))
      have e1 : (iz (markTo zs k (j * 2))).set (j * 2) (.int .i64 (k + j * 2)) = iz (markTo zs k (j * 2 + 1)) := by
        rw [show (k + j * 2 : Int) = k + (j * 2 : Nat) by omega, iz_set, markTo_set hl0]
      have e2 : (iz (markTo zs k (j * 2 + 1))).set (j * 2 + 1) (.int .i64 (k + j * 2 + 1)) = iz (markTo zs k ((j + 1) * 2)) := by
        rw [show (k + j * 2 + 1 : Int) = k + (j * 2 + 1 : Nat) by omega, iz_set, markTo_set hl1, show (j + 1) * 2 = j * 2 + 1 + 1 by omega]
      rw [e1, e2] at s2
      have HO := Lib.hid s2.1
      have HG := Lib.hid (grownBy_trans hg (grownBy_trans s1.2 s2.2))
      clear s1 s2 e1 e2
      go_wp2
      go_roundw
      case rel =>
        exact ⟨j + 1, by omega, by go_num, by first | rfl | (congr 1; omega), HO.out, HG.out⟩
      case measure => simp [intOf]; omega
    · go_wp2
      go_ret
      have hjn : j = n := by omega
      subst hjn
      refine ⟨ret_int (by omega), ?_, hg⟩
      have := ho
      rw [← HZ.out, markTo_all, HZ.out] at this
      exact this

theorem markTokS_at (v : Value) (lo hi n : Nat) (es : List (Int × Int)) (k : Int) (w : World) (hr : RowAt lo hi w 125 2 v n (ez es)) (h0 : 0 ≤ k) (h1 : k ≤ 4611686018427387904) (hl : es.length = n) (hn : n ≤ 1048576) :
    Calls Try.prog 83 #[v, .int .i64 k] w fun e w' => e = .returned (.int .i64 (k + (n * 2 : Nat))) ∧ RowAt lo hi w' 125 2 v n (iz (marks k (n * 2))) ∧ Only lo hi w w' := by
  have hr' := hr
  rw [ez_flat] at hr'
  exact (markTokS_any v lo n (flat es) k w hr'.1 (by rw [flat_length, hl]) h0 h1 hn).mono fun _ _ ⟨he, ho, hg⟩ => ⟨he, ⟨ho, hr.2⟩, Only.of_row hr hg⟩

end Go.Proofs.Ytlmlckgnmkjkdaa

/-
  What the laws' own helpers on WinDef (a struct of 3 ints) return. By kitgen.py.
-/
namespace Go.Proofs.Ytlmlckgnmkjkdaa
open Go.RowKit
set_option maxHeartbeats 400000 in
theorem toWinDef_any (x0 x1 x2 : Int) (w : World) :
    Calls Try.prog 59 #[.agg #[.int .i64 x0, .int .i64 x1, .int .i64 x2]] w fun e w' => e = .returned (.agg #[.int .i64 x0, .int .i64 x1, .int .i64 x2]) ∧ Below w.heap.size w w' := by
  go_enter Try.func59, Try.ntmps59
  go_wp2
  refine bodyPost_ret (v := .agg #[.int .i64 x0, .int .i64 x1, .int .i64 x2]) (by simp [results, Try.results59, go_sem]) rfl ⟨rfl, ?_⟩
  exact below_trans (below_trans (below_alloc _ _) (below_alloc _ _)) (below_alloc _ _)
end Go.Proofs.Ytlmlckgnmkjkdaa

/-
  What the laws' own helpers on Query (two rows of tokens, a window definition of three ints, two ints) return. WRITTEN BY tools/genkitq.py.
-/
namespace Go.Proofs.Ytlmlckgnmkjkdaa
open Go.RowKit

/-- a query as a value, and as cells -/
abbrev qv (F M : Value) (k s t q kk : Int) : Value := .agg #[F, M, .int .i64 k, .int .i64 s, .int .i64 t, .int .i64 q, .int .i64 kk]
abbrev qc (F M : Value) (k s t q kk : Int) : List Value := [F, M, .int .i64 k, .int .i64 s, .int .i64 t, .int .i64 q, .int .i64 kk]
theorem Own.seven {w : World} {g : Nat} {t : TypeId} {c0 c1 c2 c3 c4 c5 c6 : Value} (h : Own w g t [c0, c1, c2, c3, c4, c5, c6]) :
    w.cell? ⟨g, 0, none⟩ = some c0 ∧ w.cell? ⟨g, 1, none⟩ = some c1 ∧ w.cell? ⟨g, 2, none⟩ = some c2 ∧ w.cell? ⟨g, 3, none⟩ = some c3 ∧ w.cell? ⟨g, 4, none⟩ = some c4 ∧ w.cell? ⟨g, 5, none⟩ = some c5 ∧ w.cell? ⟨g, 6, none⟩ = some c6 :=
  ⟨h.cell 0, h.cell 1, h.cell 2, h.cell 3, h.cell 4, h.cell 5, h.cell 6⟩
theorem toTokS_w (A : Option Addr) (n ca : Nat) (es : List (Int × Int)) (w : World) (hA : Rd w A (ez es)) (hz : es.length = n) (hn : n ≤ 1048576) :
    Calls Try.prog 58 #[.slice A n ca] w fun e w' => ∃ g, e = .returned (.slice (some ⟨g, 0, none⟩) n n) ∧ RowAt w.heap.size w'.heap.size w' 125 2 (.slice (some ⟨g, 0, none⟩) n n) n (ez es) ∧ Below w.heap.size w w' := by
  subst hz
  exact (toTokS_any A ca es w hA hn).mono fun _ _ ⟨g, he, hg, hown, hb⟩ => ⟨g, he, RowAt.of (hown.ownsS hg (by rw [ez_flat, iz_length, flat_length]) hn), hb⟩

set_option maxHeartbeats 400000 in
theorem eqWinDef_same (a b c : Int) (w : World) :
    Calls Try.prog 64 #[.agg #[.int .i64 a, .int .i64 b, .int .i64 c], .agg #[.int .i64 a, .int .i64 b, .int .i64 c]] w fun e w' => e = .returned (.bool true) ∧ Below w.heap.size w w' := by
  have t0 : (a != a) = false := by simp
  have t1 : (b != b) = false := by simp
  have t2 : (c != c) = false := by simp
  go_enter Try.func64, Try.ntmps64
  go_wp2
  go_ret
  exact ⟨rfl, below2 _ _ _⟩

set_option maxHeartbeats 1000000 in
theorem eqQuery_same (k s t q kk : Int) (F F' : Option Addr) (n cf cf' : Nat) (fs : List (Int × Int)) (M M' : Option Addr) (m cm cm' : Nat) (ms : List (Int × Int)) (w : World)
    (hF : Rd w F (ez fs)) (hF' : Rd w F' (ez fs)) (hz : fs.length = n) (hn : n ≤ 1048576) (hM : Rd w M (ez ms)) (hM' : Rd w M' (ez ms)) (hy : ms.length = m) (hm : m ≤ 1048576) :
    Calls Try.prog 20 #[qv (.slice F n cf) (.slice M m cm) k s t q kk, qv (.slice F' n cf') (.slice M' m cm') k s t q kk] w fun e w' => e = .returned (.bool true) ∧ Below w.heap.size w w' := by
  have t0 : (q != q) = false := by simp
  have t1 : (kk != kk) = false := by simp
  have hb := below2 w (.cells (qc (.slice F n cf) (.slice M m cm) k s t q kk).toArray 42) (.cells (qc (.slice F' n cf') (.slice M' m cm') k s t q kk).toArray 42)
  have HF := Lib.hid (fun W (h : Below w.heap.size w W) => hF.below h)
  have HF' := Lib.hid (fun W (h : Below w.heap.size w W) => hF'.below h)
  have HM := Lib.hid (fun W (h : Below w.heap.size w W) => hM.below h)
  have HM' := Lib.hid (fun W (h : Below w.heap.size w W) => hM'.below h)
  have o1 := (Own.new w 42 (qc (.slice F n cf) (.slice M m cm) k s t q kk)).alloc (.cells (qc (.slice F' n cf') (.slice M' m cm') k s t q kk).toArray 42)
  have o2 := new_second w (.cells (qc (.slice F n cf) (.slice M m cm) k s t q kk).toArray 42) 42 (qc (.slice F' n cf') (.slice M' m cm') k s t q kk)
  clear hF hF' hM hM'
  obtain ⟨a0, a1, a2, a3, a4, a5, a6⟩ := o1.seven
  obtain ⟨b0, b1, b2, b3, b4, b5, b6⟩ := o2.seven
  go_enter Try.func20, Try.ntmps20
  go_wp2_with fail
  refine (eqTokS_same F F' n cf cf' fs _ (HF.out _ hb) (HF'.out _ hb) hz hn).mono ?_
  clear a0 a1 a2 a3 a4 a5 a6 b0 b1 b2 b3 b4 b5 b6
  rintro e w1 ⟨rfl, h1⟩
  replace o1 := o1.grow h1
  replace o2 := o2.grow h1
  replace hb := below_trans hb h1
  clear h1
  obtain ⟨a0, a1, a2, a3, a4, a5, a6⟩ := o1.seven
  obtain ⟨b0, b1, b2, b3, b4, b5, b6⟩ := o2.seven
  go_wp2_with fail
  refine (eqTokS_same M M' m cm cm' ms _ (HM.out _ hb) (HM'.out _ hb) hy hm).mono ?_
  clear a0 a1 a2 a3 a4 a5 a6 b0 b1 b2 b3 b4 b5 b6
  rintro e w2 ⟨rfl, h2⟩
  replace o1 := o1.grow h2
  replace o2 := o2.grow h2
  replace hb := below_trans hb h2
  clear h2
  obtain ⟨a0, a1, a2, a3, a4, a5, a6⟩ := o1.seven
  obtain ⟨b0, b1, b2, b3, b4, b5, b6⟩ := o2.seven
  go_wp2_with fail
  refine (eqWinDef_same k s t _).mono ?_
  clear a0 a1 a2 a3 a4 a5 a6 b0 b1 b2 b3 b4 b5 b6
  rintro e w3 ⟨rfl, h3⟩
  replace o1 := o1.grow h3
  replace o2 := o2.grow h3
  replace hb := below_trans hb h3
  clear h3
  obtain ⟨a0, a1, a2, a3, a4, a5, a6⟩ := o1.seven
  obtain ⟨b0, b1, b2, b3, b4, b5, b6⟩ := o2.seven
  clear o1 o2
  go_wp2
  go_ret
  exact ⟨rfl, hb⟩

set_option maxHeartbeats 4000000 in
theorem toQuery_w (k s t q kk : Int) (F : Option Addr) (n cf : Nat) (fs : List (Int × Int)) (M : Option Addr) (m cm : Nat) (ms : List (Int × Int)) (w : World)
    (hF : Rd w F (ez fs)) (hz : fs.length = n) (hn : n ≤ 1048576) (hM : Rd w M (ez ms)) (hy : ms.length = m) (hm : m ≤ 1048576) :
    Calls Try.prog 18 #[qv (.slice F n cf) (.slice M m cm) k s t q kk] w fun e w' => ∃ g1 g2 mid, e = .returned (qv (.slice (some ⟨g1, 0, none⟩) n n) (.slice (some ⟨g2, 0, none⟩) m m) k s t q kk) ∧
      RowAt w.heap.size mid w' 125 2 (.slice (some ⟨g1, 0, none⟩) n n) n (ez fs) ∧ RowAt mid w'.heap.size w' 125 2 (.slice (some ⟨g2, 0, none⟩) m m) m (ez ms) ∧ w.heap.size ≤ mid ∧ mid ≤ w'.heap.size ∧ Below w.heap.size w w' := by
  obtain ⟨o1, o2, o3, hb0, hsz⟩ := box_three (w := w) (c1 := qc (.slice F n cf) (.slice M m cm) k s t q kk) (c2 := qc (.slice none 0 0) (.slice none 0 0) 0 0 0 0 0) (c3 := qc (.slice none 0 0) (.slice none 0 0) 0 0 0 0 0) (t1 := 36) (t2 := 42) (t3 := 42)
  have HSZ := Lib.hid hsz
  clear hsz
  have HF := Lib.hid (fun W (h : Below w.heap.size w W) => hF.below h)
  have HM := Lib.hid (fun W (h : Below w.heap.size w W) => hM.below h)
  clear hF hM
  obtain ⟨a0, a1, a2, a3, a4, a5, a6⟩ := o1.seven
  go_enter Try.func18, Try.ntmps18
  go_wp2_with fail
  clear a0 a1 a2 a3 a4 a5 a6
  refine (toTokS_w F n cf fs _ (HF.out _ hb0) hz hn).mono ?_
  rintro e w1 ⟨g1, rfl, r1, hb⟩
  replace r1 := r1.base (lo' := w.heap.size + 1 + 1 + 1) (by have := HSZ.out; omega)
  have hmid := hb.size
  rw [HSZ.out] at hmid
  replace o1 := o1.grow hb
  replace o2 := o2.grow hb
  replace o3 := o3.grow hb
  replace hb0 := below_trans hb0 hb
  clear hb
  obtain ⟨a0, a1, a2, a3, a4, a5, a6⟩ := o1.seven
  obtain ⟨c0, c1, c2, c3, c4, c5, c6⟩ := o3.seven
  have f0 := o3.free 0
  replace o3 := (o3.set 0 (.slice (some ⟨g1, 0, none⟩) n n))
  have H1 := Lib.hid (o1.far (p := ⟨w.heap.size + 1 + 1, 0, none⟩) (show w.heap.size ≠ w.heap.size + 1 + 1 by omega) (.slice (some ⟨g1, 0, none⟩) n n))
  have H2 := Lib.hid (o2.far (p := ⟨w.heap.size + 1 + 1, 0, none⟩) (show w.heap.size + 1 ≠ w.heap.size + 1 + 1 by omega) (.slice (some ⟨g1, 0, none⟩) n n))
  have H3 := Lib.hid o3
  have HR := Lib.hid (r1.set ⟨w.heap.size + 1 + 1, 0, none⟩ (.slice (some ⟨g1, 0, none⟩) n n) (show w.heap.size + 1 + 1 < w.heap.size + 1 + 1 + 1 by omega))
  have HB := Lib.hid (hb0.setCell (p := ⟨w.heap.size + 1 + 1, 0, none⟩) (show w.heap.size ≤ w.heap.size + 1 + 1 by omega) (.slice (some ⟨g1, 0, none⟩) n n))
  clear o1 o2 o3 r1 hb0
  go_wp2_with fail
  clear a0 a1 a2 a3 a4 a5 a6 c0 c1 c2 c3 c4 c5 c6 f0
  refine (toTokS_w M m cm ms _ (HM.out _ HB.out) hy hm).mono ?_
  rintro e w2 ⟨g2, rfl, r2, hb⟩
  rw [size_set] at r2
  have hmid2 := hb.size
  rw [size_set] at hmid2
  have o1 := H1.out.grow hb
  have o2 := H2.out.grow hb
  have o3 := H3.out.grow hb
  have r1 := HR.out.grow hb
  have hb0 := below_trans HB.out hb
  clear H1 H2 H3 HR HB hb
  obtain ⟨a0, a1, a2, a3, a4, a5, a6⟩ := o1.seven
  obtain ⟨c0, c1, c2, c3, c4, c5, c6⟩ := o3.seven
  have f1 := o3.free 1
  replace o3 := (o3.set 1 (.slice (some ⟨g2, 0, none⟩) m m))
  have H1 := Lib.hid (o1.far (p := ⟨w.heap.size + 1 + 1, 1, none⟩) (show w.heap.size ≠ w.heap.size + 1 + 1 by omega) (.slice (some ⟨g2, 0, none⟩) m m))
  have H2 := Lib.hid (o2.far (p := ⟨w.heap.size + 1 + 1, 1, none⟩) (show w.heap.size + 1 ≠ w.heap.size + 1 + 1 by omega) (.slice (some ⟨g2, 0, none⟩) m m))
  have H3 := Lib.hid o3
  have HR := Lib.hid (r1.set ⟨w.heap.size + 1 + 1, 1, none⟩ (.slice (some ⟨g2, 0, none⟩) m m) (show w.heap.size + 1 + 1 < w.heap.size + 1 + 1 + 1 by omega))
  have HR2 := Lib.hid (r2.set ⟨w.heap.size + 1 + 1, 1, none⟩ (.slice (some ⟨g2, 0, none⟩) m m) (show w.heap.size + 1 + 1 < w1.heap.size by omega))
  have HB := Lib.hid (hb0.setCell (p := ⟨w.heap.size + 1 + 1, 1, none⟩) (show w.heap.size ≤ w.heap.size + 1 + 1 by omega) (.slice (some ⟨g2, 0, none⟩) m m))
  clear o1 o2 o3 r1 r2 hb0
  go_wp2_with fail
  clear a0 a1 a2 a3 a4 a5 a6 c0 c1 c2 c3 c4 c5 c6 f1
  refine (toWinDef_any k s t _).mono ?_
  rintro e w3 ⟨rfl, hb⟩
  have hmid3 := hb.size
  rw [size_set] at hmid3
  have o1 := H1.out.grow hb
  have o2 := H2.out.grow hb
  have o3 := H3.out.grow hb
  have r1 := HR.out.grow hb
  have r2 := HR2.out.grow hb
  have hb0 := below_trans HB.out hb
  clear H1 H2 H3 HR HR2 HB hb
  obtain ⟨a0, a1, a2, a3, a4, a5, a6⟩ := o1.seven
  obtain ⟨b0, b1, b2, b3, b4, b5, b6⟩ := o2.seven
  obtain ⟨c0, c1, c2, c3, c4, c5, c6⟩ := o3.seven
  have f2 := o3.free 2
  have f3 := o3.free 3
  have f4 := o3.free 4
  have f5 := o3.free 5
  have f6 := o3.free 6
  have fb0 := o2.free 0
  have fb1 := o2.free 1
  have fb2 := o2.free 2
  have fb3 := o2.free 3
  have fb4 := o2.free 4
  have fb5 := o2.free 5
  have fb6 := o2.free 6
  have HR := Lib.hid (And.intro (And.intro r1 r2) (And.intro hb0 (And.intro hmid (And.intro hmid2 hmid3))))
  clear o1 o2 o3 r1 r2 hb0 hmid hmid2 hmid3
  go_wp2
  refine bodyPost_ret (v := qv (.slice (some ⟨g1, 0, none⟩) n n) (.slice (some ⟨g2, 0, none⟩) m m) k s t q kk) (by simp [results, Try.results18, go_sem, b0, b1, b2, b3, b4, b5, b6]) rfl ⟨g1, g2, w1.heap.size, rfl, ?_, ?_, ?_, ?_, ?_⟩
  · exact RowAt.base ((((((((((((HR.out.1.1.set ⟨w.heap.size + 1 + 1, 2, none⟩ (.int .i64 k) (show w.heap.size + 1 + 1 < w.heap.size + 1 + 1 + 1 by omega)).set ⟨w.heap.size + 1 + 1, 3, none⟩ (.int .i64 s) (show w.heap.size + 1 + 1 < w.heap.size + 1 + 1 + 1 by omega)).set ⟨w.heap.size + 1 + 1, 4, none⟩ (.int .i64 t) (show w.heap.size + 1 + 1 < w.heap.size + 1 + 1 + 1 by omega)).set ⟨w.heap.size + 1 + 1, 5, none⟩ (.int .i64 q) (show w.heap.size + 1 + 1 < w.heap.size + 1 + 1 + 1 by omega)).set ⟨w.heap.size + 1 + 1, 6, none⟩ (.int .i64 kk) (show w.heap.size + 1 + 1 < w.heap.size + 1 + 1 + 1 by omega)).set ⟨w.heap.size + 1, 0, none⟩ (.slice (some ⟨g1, 0, none⟩) n n) (show w.heap.size + 1 < w.heap.size + 1 + 1 + 1 by omega)).set ⟨w.heap.size + 1, 1, none⟩ (.slice (some ⟨g2, 0, none⟩) m m) (show w.heap.size + 1 < w.heap.size + 1 + 1 + 1 by omega)).set ⟨w.heap.size + 1, 2, none⟩ (.int .i64 k) (show w.heap.size + 1 < w.heap.size + 1 + 1 + 1 by omega)).set ⟨w.heap.size + 1, 3, none⟩ (.int .i64 s) (show w.heap.size + 1 < w.heap.size + 1 + 1 + 1 by omega)).set ⟨w.heap.size + 1, 4, none⟩ (.int .i64 t) (show w.heap.size + 1 < w.heap.size + 1 + 1 + 1 by omega)).set ⟨w.heap.size + 1, 5, none⟩ (.int .i64 q) (show w.heap.size + 1 < w.heap.size + 1 + 1 + 1 by omega)).set ⟨w.heap.size + 1, 6, none⟩ (.int .i64 kk) (show w.heap.size + 1 < w.heap.size + 1 + 1 + 1 by omega)) (by omega)
  · have r := ((((((((((((HR.out.1.2.set ⟨w.heap.size + 1 + 1, 2, none⟩ (.int .i64 k) (show w.heap.size + 1 + 1 < w1.heap.size by have := HR.out.2.2.1; omega)).set ⟨w.heap.size + 1 + 1, 3, none⟩ (.int .i64 s) (show w.heap.size + 1 + 1 < w1.heap.size by have := HR.out.2.2.1; omega)).set ⟨w.heap.size + 1 + 1, 4, none⟩ (.int .i64 t) (show w.heap.size + 1 + 1 < w1.heap.size by have := HR.out.2.2.1; omega)).set ⟨w.heap.size + 1 + 1, 5, none⟩ (.int .i64 q) (show w.heap.size + 1 + 1 < w1.heap.size by have := HR.out.2.2.1; omega)).set ⟨w.heap.size + 1 + 1, 6, none⟩ (.int .i64 kk) (show w.heap.size + 1 + 1 < w1.heap.size by have := HR.out.2.2.1; omega)).set ⟨w.heap.size + 1, 0, none⟩ (.slice (some ⟨g1, 0, none⟩) n n) (show w.heap.size + 1 < w1.heap.size by have := HR.out.2.2.1; omega)).set ⟨w.heap.size + 1, 1, none⟩ (.slice (some ⟨g2, 0, none⟩) m m) (show w.heap.size + 1 < w1.heap.size by have := HR.out.2.2.1; omega)).set ⟨w.heap.size + 1, 2, none⟩ (.int .i64 k) (show w.heap.size + 1 < w1.heap.size by have := HR.out.2.2.1; omega)).set ⟨w.heap.size + 1, 3, none⟩ (.int .i64 s) (show w.heap.size + 1 < w1.heap.size by have := HR.out.2.2.1; omega)).set ⟨w.heap.size + 1, 4, none⟩ (.int .i64 t) (show w.heap.size + 1 < w1.heap.size by have := HR.out.2.2.1; omega)).set ⟨w.heap.size + 1, 5, none⟩ (.int .i64 q) (show w.heap.size + 1 < w1.heap.size by have := HR.out.2.2.1; omega)).set ⟨w.heap.size + 1, 6, none⟩ (.int .i64 kk) (show w.heap.size + 1 < w1.heap.size by have := HR.out.2.2.1; omega))
    simp only [size_set]
    exact ⟨r.1, fun j hj => Nat.lt_of_lt_of_le (r.2 j hj) HR.out.2.2.2.2⟩
  · have := HR.out.2.2.1; omega
  · simp only [size_set]
    have := HR.out.2.2.2
    omega
  · exact ((((((((((((HR.out.2.1.setCell (p := ⟨w.heap.size + 1 + 1, 2, none⟩) (show w.heap.size ≤ w.heap.size + 1 + 1 by omega) (.int .i64 k)).setCell (p := ⟨w.heap.size + 1 + 1, 3, none⟩) (show w.heap.size ≤ w.heap.size + 1 + 1 by omega) (.int .i64 s)).setCell (p := ⟨w.heap.size + 1 + 1, 4, none⟩) (show w.heap.size ≤ w.heap.size + 1 + 1 by omega) (.int .i64 t)).setCell (p := ⟨w.heap.size + 1 + 1, 5, none⟩) (show w.heap.size ≤ w.heap.size + 1 + 1 by omega) (.int .i64 q)).setCell (p := ⟨w.heap.size + 1 + 1, 6, none⟩) (show w.heap.size ≤ w.heap.size + 1 + 1 by omega) (.int .i64 kk)).setCell (p := ⟨w.heap.size + 1, 0, none⟩) (show w.heap.size ≤ w.heap.size + 1 by omega) (.slice (some ⟨g1, 0, none⟩) n n)).setCell (p := ⟨w.heap.size + 1, 1, none⟩) (show w.heap.size ≤ w.heap.size + 1 by omega) (.slice (some ⟨g2, 0, none⟩) m m)).setCell (p := ⟨w.heap.size + 1, 2, none⟩) (show w.heap.size ≤ w.heap.size + 1 by omega) (.int .i64 k)).setCell (p := ⟨w.heap.size + 1, 3, none⟩) (show w.heap.size ≤ w.heap.size + 1 by omega) (.int .i64 s)).setCell (p := ⟨w.heap.size + 1, 4, none⟩) (show w.heap.size ≤ w.heap.size + 1 by omega) (.int .i64 t)).setCell (p := ⟨w.heap.size + 1, 5, none⟩) (show w.heap.size ≤ w.heap.size + 1 by omega) (.int .i64 q)).setCell (p := ⟨w.heap.size + 1, 6, none⟩) (show w.heap.size ≤ w.heap.size + 1 by omega) (.int .i64 kk))

theorem lessT_no {a : Int} {n : Nat} (h : a - n < 0) : lessT a n = -1 := by simp [lessT]; omega
theorem lessT_yes {a : Int} {n : Nat} (h : 0 ≤ a - n) : lessT a n = a - n := by simp [lessT]; omega
set_option maxHeartbeats 400000 in
/-- the measure of a query that fits -/
theorem szQuery_fits (F M : Option Addr) (n cf m cm : Nat) (k s t q kk : Int) (w : World) (h : n + m ≤ 1048576) :
    Calls Try.prog 16 #[qv (.slice F n cf) (.slice M m cm) k s t q kk, .int .i64 1048576] w fun e w' => ∃ z : Int, e = .returned (.int .i64 z) ∧ z = 1048576 - n - m ∧ Below w.heap.size w w' := by
  have e1 : lessT 1048576 n = 1048576 - (n : Int) := lessT_yes (by omega)
  have e2 : lessT (1048576 - (n : Int)) m = 1048576 - (n : Int) - m := lessT_yes (by omega)
  have E1 := Lib.hid e1
  have E2 := Lib.hid e2
  clear e1 e2
  have hp : ¬ 1048576 - (n : Int) < 0 := by omega
  have hp2 : ¬ 1048576 - (n : Int) - m < 0 := by omega
  have o1 := Own.new w 36 (qc (.slice F n cf) (.slice M m cm) k s t q kk)
  have hb := below_alloc w (.cells (qc (.slice F n cf) (.slice M m cm) k s t q kk).toArray 36)
  obtain ⟨a0, a1, a2, a3, a4, a5, a6⟩ := o1.seven
  clear o1
  obtain ⟨z, hz⟩ : ∃ z : Int, 1048576 - (n : Int) = z := ⟨_, rfl⟩
  rw [hz] at E1 E2 hp hp2
  go_enter Try.func16, Try.ntmps16
  go_wp2_with fail
  refine (as_int E1.out (szTokS_any F n cf 1048576 _ (by omega) (by omega) (by omega))).mono ?_
  rintro e _ ⟨rfl, rfl⟩
  go_wp2_with fail
  refine (as_int E2.out (szTokS_any M m cm z _ (by omega) (by omega) (by omega))).mono ?_
  rintro e _ ⟨rfl, rfl⟩
  go_wp2
  go_ret
  exact ⟨z - m, rfl, by omega, hb⟩
set_option maxHeartbeats 400000 in
/-- .. and of one that does not -/
theorem szQuery_big (F M : Option Addr) (n cf m cm : Nat) (k s t q kk : Int) (w : World) (h : ¬ n + m ≤ 1048576) (hn : n ≤ 9223372036854775807) (hm : m ≤ 9223372036854775807) :
    Calls Try.prog 16 #[qv (.slice F n cf) (.slice M m cm) k s t q kk, .int .i64 1048576] w fun e w' => e = .returned (.int .i64 (-1)) ∧ Below w.heap.size w w' := by
  have o1 := Own.new w 36 (qc (.slice F n cf) (.slice M m cm) k s t q kk)
  have hb := below_alloc w (.cells (qc (.slice F n cf) (.slice M m cm) k s t q kk).toArray 36)
  obtain ⟨a0, a1, a2, a3, a4, a5, a6⟩ := o1.seven
  clear o1
  by_cases h1 : n ≤ 1048576
  · obtain ⟨z, hz⟩ : ∃ z : Int, 1048576 - (n : Int) = z := ⟨_, rfl⟩
    have E1 := Lib.hid (show lessT 1048576 n = z by rw [← hz]; exact lessT_yes (by omega))
    have E2 := Lib.hid (show lessT z m = -1 from lessT_no (by omega))
    have hp : ¬ z < 0 := by omega
    have HM := Lib.hid (And.intro hm (show 0 ≤ z ∧ z ≤ 1048576 by omega))
    clear hz h h1 hm
    go_enter Try.func16, Try.ntmps16
    go_wp2_with fail
    refine (as_int E1.out (szTokS_any F n cf 1048576 _ (by omega) (by omega) hn)).mono ?_
    rintro e _ ⟨rfl, rfl⟩
    go_wp2_with fail
    refine (as_int E2.out (szTokS_any M m cm z _ HM.out.2.1 HM.out.2.2 HM.out.1)).mono ?_
    rintro e _ ⟨rfl, rfl⟩
    go_wp2
    go_ret
    exact ⟨rfl, hb⟩
  · have E1 := Lib.hid (show lessT 1048576 n = -1 from lessT_no (by omega))
    have HN := Lib.hid hn
    clear h h1 hn hm
    go_enter Try.func16, Try.ntmps16
    go_wp2_with fail
    refine (as_int E1.out (szTokS_any F n cf 1048576 _ (by omega) (by omega) HN.out)).mono ?_
    rintro e _ ⟨rfl, rfl⟩
    go_wp2
    go_ret
    exact ⟨rfl, hb⟩

set_option maxHeartbeats 400000 in
theorem markQuery_at (F M : Option Addr) (n cf m cm : Nat) (k s t q kk : Int) (lo mid hi : Nat) (fs ms : List (Int × Int)) (j j1 j2 : Int) (w : World)
    (hr : RowAt lo mid w 125 2 (.slice F n cf) n (ez fs)) (hr2 : RowAt mid hi w 125 2 (.slice M m cm) m (ez ms)) (hl : lo ≤ mid) (hh : mid ≤ hi) (hs : hi ≤ w.heap.size) (h0 : 0 ≤ j) (h1 : j ≤ 1048576) (e1 : j + (n * 2 : Nat) = j1) (e2 : j1 + (m * 2 : Nat) = j2)
    (hz : fs.length = n) (hn : n ≤ 1048576) (hy : ms.length = m) (hm : m ≤ 1048576) :
    Calls Try.prog 36 #[qv (.slice F n cf) (.slice M m cm) k s t q kk, .int .i64 j] w fun e w' => e = .returned (.int .i64 j2) ∧ Only lo hi w w' := by
  have o1 := Own.new w 42 (qc (.slice F n cf) (.slice M m cm) k s t q kk)
  have hb := below_alloc w (.cells (qc (.slice F n cf) (.slice M m cm) k s t q kk).toArray 42)
  have HR := Lib.hid (hr.grow hb)
  have HR2 := Lib.hid (hr2.grow hb)
  have HO := Lib.hid (Only.of_below hb lo hi)
  have HS := Lib.hid hs
  have HE := Lib.hid (And.intro e1 e2)
  clear hr hr2 hb e1 e2 hs
  obtain ⟨a0, a1, a2, a3, a4, a5, a6⟩ := o1.seven
  go_enter Try.func36, Try.ntmps36
  go_wp2_with fail
  clear a0 a1 a2 a3 a4 a5 a6
  refine (as_int HE.out.1 (markTokS_at (.slice F n cf) lo mid n fs j _ HR.out h0 (by omega) hz hn)).mono ?_
  rintro e w1 ⟨rfl, _, hO⟩
  have hsz := HS.out
  replace o1 := o1.only hO (.inr (by omega))
  have HR3 := Lib.hid (HR2.out.move (hO.same (.inr (Nat.le_refl _)) (by simp; omega)))
  have HO2 := Lib.hid (Only.trans HO.out (show Only lo hi _ _ from ⟨hO.os, hO.tape, hO.output, hO.size, fun i h1 h2 => hO.block i h1 (by omega)⟩))
  clear hO HR HR2 HO hsz
  obtain ⟨a0, a1, a2, a3, a4, a5, a6⟩ := o1.seven
  clear o1
  go_wp2_with fail
  clear a0 a1 a2 a3 a4 a5 a6
  refine (as_int HE.out.2 (markTokS_at (.slice M m cm) mid hi m ms j1 _ HR3.out (by have := HE.out.1; omega) (by have := HE.out.1; omega) hy hm)).mono ?_
  rintro e w2 ⟨rfl, _, hO⟩
  have HO3 := Lib.hid (Only.trans HO2.out (show Only lo hi _ _ from ⟨hO.os, hO.tape, hO.output, hO.size, fun i h1 h2 => hO.block i h1 (by omega)⟩))
  clear hO HR3 HO2
  go_wp2
  go_ret
  exact ⟨rfl, HO3.out⟩
end Go.Proofs.Ytlmlckgnmkjkdaa

/-
  The cursor's queries.
-/
namespace Go.Proofs.Ytlmlckgnmkjkdaa
open Go.RowKit

abbrev qzero : List Value := qc (.slice none 0 0) (.slice none 0 0) 0 0 0 0 0
/-- the memory of a query that is drawn: its result, its variable (block B, cells ds), its two rows, the cursor -/
structure QX (w W : World) (g : Nat) (A : Option Addr) (n c M B : Nat) (ds : List Value) (F : Option Addr) (cf : Nat) (fs : List (Int × Int)) (P : Option Addr) (cp : Nat) (ps : List (Int × Int)) : Prop where
  r : Own W w.heap.size 42 qzero
  b : Own W B 42 ds
  f : W.ownsRow w.heap.size 125 2 (.slice F fs.length cf) fs.length (ez fs)
  m : W.ownsRow w.heap.size 125 2 (.slice P ps.length cp) ps.length (ez ps)
  lf : fs.length ≤ 20
  lm : ps.length ≤ 20
  cur : Cur W g A n c M
  gr : w.grownBy W (some g)
  hg : g < w.heap.size
  hB : w.heap.size < B
section
variable {w W W' : World} {g n c M M' B cf cp : Nat} {A F P : Option Addr} {ds : List Value} {fs ps : List (Int × Int)}
theorem QX.far (p : QX w W g A n c M B ds F cf fs P cp ps) (hG : W.grownBy W' (some g)) (hC : Cur W' g A n c M') : QX w W' g A n c M' B ds F cf fs P cp ps :=
  ⟨own_far p.r hG (by have := p.hg; omega), own_far p.b hG (by have := p.hg; have := p.hB; omega), owns_far p.f hG (owns_lt p.f p.hg), owns_far p.m hG (owns_lt p.m p.hg), p.lf, p.lm, hC, grownBy_trans p.gr hG, p.hg, p.hB⟩
theorem QX.grow (p : QX w W g A n c M B ds F cf fs P cp ps) (hb : Below W.heap.size W W') : QX w W' g A n c M B ds F cf fs P cp ps := p.far (grownBy_of hb _) (p.cur.grow hb)
theorem QX.more (p : QX w W g A n c M B ds F cf fs P cp ps) (h : M ≤ M') : QX w W g A n c M' B ds F cf fs P cp ps := { p with cur := p.cur.more h }
theorem QX.set (p : QX w W g A n c M B ds F cf fs P cp ps) (j : Nat) (u : Value) : QX w (W.setCell ⟨B, j, none⟩ u) g A n c M B (ds.set j u) F cf fs P cp ps := by
  have hg := p.hg
  have hB := p.hB
  have hG : W.grownBy (W.setCell ⟨B, j, none⟩ u) (some B) := only_set (World.grownBy.refl _ _)
  exact ⟨p.r.far (p := ⟨B, j, none⟩) (by simp only; omega) u, p.b.set j u, owns_far p.f hG (types_farS p.b (by decide) p.f), owns_far p.m hG (types_farS p.b (by decide) p.m), p.lf, p.lm, cur_store p.cur (by omega) u, grown_store p.gr (by omega) u, p.hg, p.hB⟩
/-- the filter's row is another one -/
theorem QX.newF {F' : Option Addr} {cf' : Nat} {fs' : List (Int × Int)} (p : QX w W g A n c M B ds F cf fs P cp ps) (h : TR W W' g A n c M' F' cf' fs') (hl : fs'.length ≤ 20) : QX w W' g A n c M' B ds F' cf' fs' P cp ps :=
  { p.far h.gr h.cur with f := owns_base h.row p.gr.size, lf := hl }
theorem QX.newM {F' : Option Addr} {cf' : Nat} {fs' : List (Int × Int)} (p : QX w W g A n c M B ds F cf fs P cp ps) (h : TR W W' g A n c M' F' cf' fs') (hl : fs'.length ≤ 20) : QX w W' g A n c M' B ds F cf fs F' cf' fs' :=
  { p.far h.gr h.cur with m := owns_base h.row p.gr.size, lm := hl }
abbrev store7 (w : World) (g : Nat) (c0 c1 c2 c3 c4 c5 c6 : Value) : World :=
  ((((((w.setCell ⟨g, 0, none⟩ c0).setCell ⟨g, 1, none⟩ c1).setCell ⟨g, 2, none⟩ c2).setCell ⟨g, 3, none⟩ c3).setCell ⟨g, 4, none⟩ c4).setCell ⟨g, 5, none⟩ c5).setCell ⟨g, 6, none⟩ c6
/-- the variable is copied into the result -/
theorem QX.done {k s t q kk : Int} (p : QX w W g A n c M B (qc (.slice F fs.length cf) (.slice P ps.length cp) k s t q kk) F cf fs P cp ps) :
    Own (store7 W w.heap.size (.slice F fs.length cf) (.slice P ps.length cp) (.int .i64 k) (.int .i64 s) (.int .i64 t) (.int .i64 q) (.int .i64 kk)) w.heap.size 42 (qc (.slice F fs.length cf) (.slice P ps.length cp) k s t q kk) ∧ fs.length ≤ 20 ∧ ps.length ≤ 20 ∧
    (store7 W w.heap.size (.slice F fs.length cf) (.slice P ps.length cp) (.int .i64 k) (.int .i64 s) (.int .i64 t) (.int .i64 q) (.int .i64 kk)).ownsRow w.heap.size 125 2 (.slice F fs.length cf) fs.length (ez fs) ∧
    (store7 W w.heap.size (.slice F fs.length cf) (.slice P ps.length cp) (.int .i64 k) (.int .i64 s) (.int .i64 t) (.int .i64 q) (.int .i64 kk)).ownsRow w.heap.size 125 2 (.slice P ps.length cp) ps.length (ez ps) ∧
    Cur (store7 W w.heap.size (.slice F fs.length cf) (.slice P ps.length cp) (.int .i64 k) (.int .i64 s) (.int .i64 t) (.int .i64 q) (.int .i64 kk)) g A n c M ∧
    w.grownBy (store7 W w.heap.size (.slice F fs.length cf) (.slice P ps.length cp) (.int .i64 k) (.int .i64 s) (.int .i64 t) (.int .i64 q) (.int .i64 kk)) (some g) := by
  have hG : W.grownBy (store7 W w.heap.size (.slice F fs.length cf) (.slice P ps.length cp) (.int .i64 k) (.int .i64 s) (.int .i64 t) (.int .i64 q) (.int .i64 kk)) (some w.heap.size) :=
    only_set (only_set (only_set (only_set (only_set (only_set (only_set (World.grownBy.refl _ _)))))))
  have hg := p.hg
  exact ⟨((((((p.r.set 0 _).set 1 _).set 2 _).set 3 _).set 4 _).set 5 _).set 6 _, p.lf, p.lm, owns_far p.f hG (types_farS p.r (by decide) p.f), owns_far p.m hG (types_farS p.r (by decide) p.m),
    cur_store (cur_store (cur_store (cur_store (cur_store (cur_store (cur_store p.cur hg _) hg _) hg _) hg _) hg _) hg _) hg _,
    grown_store (grown_store (grown_store (grown_store (grown_store (grown_store (grown_store p.gr (Nat.le_refl _) _) (Nat.le_refl _) _) (Nat.le_refl _) _) (Nat.le_refl _) _) (Nat.le_refl _) _) (Nat.le_refl _) _) (Nat.le_refl _) _⟩
end

set_option maxRecDepth 100000 in
set_option maxHeartbeats 8000000 in
theorem query_any (g : Nat) (A : Option Addr) (n c m : Nat) (w : World) (h : Cur w g A n c m) (hn : n ≤ 1048576) (hm : m ≤ 400000) :
    Calls Try.prog 90 #[.pointer (some ⟨g, 0, none⟩)] w fun e w' => ∃ (F : Option Addr) (cf : Nat) (fs : List (Int × Int)) (P : Option Addr) (cp : Nat) (ps : List (Int × Int)) (k s t q kk : Int),
      e = .returned (qv (.slice F fs.length cf) (.slice P ps.length cp) k s t q kk) ∧ fs.length ≤ 20 ∧ ps.length ≤ 20 ∧ w'.ownsRow w.heap.size 125 2 (.slice F fs.length cf) fs.length (ez fs) ∧
      w'.ownsRow w.heap.size 125 2 (.slice P ps.length cp) ps.length (ez ps) ∧ Cur w' g A n c (m + 300) ∧ w.grownBy w' (some g) := by
  have hgl := h.lt
  have hw0 : (((w.alloc (.cells qzero.toArray 42)).alloc (.cells #[.int .i64 0, .int .i64 1] 125)).alloc (.cells #[.int .i64 2, .int .i64 0] 125)).heap.size = w.heap.size + 3 := by simp
  obtain ⟨p1, p2, p3, hb0, _⟩ := box_three (w := w) (c1 := qzero) (c2 := [.int .i64 0, .int .i64 1]) (c3 := [.int .i64 2, .int .i64 0]) (t1 := 42) (t2 := 125) (t3 := 125)
  have C0 := h.grow hb0
  have G0 : w.grownBy _ (some g) := grownBy_of hb0 _
  clear h
  go_enter Try.func90, Try.ntmps90
  go_wp2_with fail
  refine (win_any g A n c m _ C0 hn (by omega)).mono ?_
  rintro e w1 ⟨k, s, t, rfl, -, C1, G1⟩
  replace p1 := own_far p1 G1 (by omega)
  replace p2 := own_far p2 G1 (by omega)
  replace p3 := own_far p3 G1 (by omega)
  replace G0 := grown_trans G0 G1
  have hs1 := G1.size
  rw [hw0] at hs1
  clear C0 G1 hb0
  go_wp2_with fail
  refine (pick_any g A n c _ 6 _ C1 hn (by omega) (by omega) (by omega)).mono ?_
  rintro e w2 ⟨r, rfl, hr, C2, G2⟩
  replace p1 := own_far p1 G2 (by omega)
  replace p2 := own_far p2 G2 (by omega)
  replace p3 := own_far p3 G2 (by omega)
  replace G0 := grown_trans G0 G2
  have hs2 := G2.size
  clear C1 G2
  obtain ⟨q, hq⟩ : ∃ q : Int, 1 + (r : Int) = q := ⟨_, rfl⟩
  have hq6 : 1 ≤ q ∧ q ≤ 6 := by omega
  have Q0 := Lib.hid (show QX w (w2.alloc (.cells (qc (.slice (some ⟨w.heap.size + 1, 0, none⟩) 1 1) (.slice (some ⟨w.heap.size + 1 + 1, 0, none⟩) 1 1) k s t q 0).toArray 42)) g A n c (m + 10 + 1) w2.heap.size
      (qc (.slice (some ⟨w.heap.size + 1, 0, none⟩) 1 1) (.slice (some ⟨w.heap.size + 1 + 1, 0, none⟩) 1 1) k s t q 0) (some ⟨w.heap.size + 1, 0, none⟩) 1 [(0, 1)] (some ⟨w.heap.size + 1 + 1, 0, none⟩) 1 [(2, 0)] from
    ⟨p1.alloc _, Own.new _ _ _, (p2.alloc _).ownsS (n := 1) (s := 2) (by omega) rfl (by decide), (p3.alloc _).ownsS (n := 1) (s := 2) (by omega) rfl (by decide), by decide, by decide, C2.grow (below_alloc _ _), grown_trans G0 (grownBy_of (below_alloc _ _) _), hgl, by omega⟩)
  clear p1 p2 p3 G0 C2 hw0
  generalize (some (⟨w.heap.size + 1, 0, none⟩ : Addr)) = F0 at *
  generalize (some (⟨w.heap.size + 1 + 1, 0, none⟩ : Addr)) = P0 at *
  go_upto_if 16 with (fail)
  generalize w2.heap.size = B at *
  go_cut [3] (fun s3 wx => ∃ kk : Int, s3 = .pointer (some ⟨B, 0, none⟩) ∧ Hid (QX w wx g A n c (m + 20) B (qc (.slice F0 1 1) (.slice P0 1 1) k s t q kk) F0 1 [(0, 1)] P0 1 [(2, 0)]))
  case first =>
    obtain ⟨c0, c1, c2, c3, c4, c5, c6⟩ := Q0.out.b.seven
    by_cases h6 : q = 6
    · have h6b : (q == 6) = true := by simp [h6]
      clear h6
      go_wp2_with fail
      clear c0 c1 c2 c3 c4 c5 c6
      refine (pick_any g A n c _ 4 _ Q0.out.cur hn (by omega) (by omega) (by omega)).mono ?_
      rintro e w3 ⟨r3, rfl, hr3, C3, G3⟩
      have Q1 := Q0.out.far G3 C3
      obtain ⟨c0, c1, c2, c3, c4, c5, c6⟩ := Q1.b.seven
      have f6 := Q1.b.free 6
      have Q2 := Lib.hid (Q1.set 6 (.int .i64 (1 + (r3 : Int))))
      clear Q1 C3 G3
      go_wp2_with fail
      go_meet
      case rel => exact ⟨_, rfl, Lib.hid (Q2.out.more (by omega))⟩
    · have h6b : (q == 6) = false := by simp [h6]
      clear h6
      go_wp2_with fail
      go_meet
      case rel => exact ⟨0, rfl, Lib.hid (Q0.out.more (by omega))⟩
  case rest =>
  obtain ⟨kk, rfl, Q1⟩ := hcut
  generalize wc = w3 at *
  clear Q0 hs1 hs2
  go_wp2_with fail
  refine (once_any g A n c _ 3 _ Q1.out.cur hn (by omega) (by omega) (by omega)).mono ?_
  rintro e w4 ⟨b4, rfl, C4, G4⟩
  have Q2 := Lib.hid (Q1.out.far G4 C4)
  clear Q1 C4 G4
  go_upto_if 22 with (fail)
  go_cut [3] (fun s3 wx => ∃ (F : Option Addr) (cf : Nat) (fs : List (Int × Int)), s3 = .pointer (some ⟨B, 0, none⟩) ∧ Hid (QX w wx g A n c (m + 130) B (qc (.slice F fs.length cf) (.slice P0 1 1) k s t q kk) F cf fs P0 1 [(2, 0)]))
  case first =>
    cases b4 with
    | true =>
      go_wp2_with fail
      refine (expr_any g A n c _ _ Q2.out.cur hn (by omega)).mono ?_
      rintro e w5 ⟨fs, F, cf, rfl, hl, T5⟩
      have Q3 := Q2.out.newF T5 hl
      obtain ⟨c0, c1, c2, c3, c4, c5, c6⟩ := Q3.b.seven
      have f0 := Q3.b.free 0
      have Q4 := Lib.hid (Q3.set 0 (.slice F fs.length cf))
      clear Q2 Q3 T5
      go_wp2_with fail
      go_meet
      case rel => exact ⟨F, cf, fs, rfl, Lib.hid (Q4.out.more (by omega))⟩
    | false =>
      go_wp2_with fail
      go_meet
      case rel => exact ⟨F0, 1, [(0, 1)], rfl, Lib.hid (Q2.out.more (by omega))⟩
  case rest =>
  obtain ⟨F, cf, fs, rfl, Q3⟩ := hcut
  generalize wc = w5 at *
  clear Q2
  go_wp2_with fail
  refine (once_any g A n c _ 3 _ Q3.out.cur hn (by omega) (by omega) (by omega)).mono ?_
  rintro e w6 ⟨b6, rfl, C6, G6⟩
  have Q4 := Lib.hid (Q3.out.far G6 C6)
  clear Q3 C6 G6
  go_upto_if 27 with (fail)
  go_cut [3] (fun s3 wx => ∃ (P : Option Addr) (cp : Nat) (ps : List (Int × Int)), s3 = .pointer (some ⟨B, 0, none⟩) ∧ Hid (QX w wx g A n c (m + 240) B (qc (.slice F fs.length cf) (.slice P ps.length cp) k s t q kk) F cf fs P cp ps))
  case first =>
    cases b6 with
    | true =>
      go_wp2_with fail
      refine (expr_any g A n c _ _ Q4.out.cur hn (by omega)).mono ?_
      rintro e w7 ⟨ps, P, cp, rfl, hl, T5⟩
      have Q5 := Q4.out.newM T5 hl
      obtain ⟨c0, c1, c2, c3, c4, c5, c6⟩ := Q5.b.seven
      have f1 := Q5.b.free 1
      have Q6 := Lib.hid (Q5.set 1 (.slice P ps.length cp))
      clear Q4 Q5 T5
      go_wp2_with fail
      go_meet
      case rel => exact ⟨P, cp, ps, rfl, Lib.hid (Q6.out.more (by omega))⟩
    | false =>
      go_wp2_with fail
      go_meet
      case rel => exact ⟨P0, 1, [(2, 0)], rfl, Lib.hid (Q4.out.more (by omega))⟩
  case rest =>
  obtain ⟨P, cp, ps, rfl, Q5⟩ := hcut
  generalize wc = w7 at *
  clear Q4
  obtain ⟨c0, c1, c2, c3, c4, c5, c6⟩ := Q5.out.b.seven
  go_upto_if 34 with (fail)
  go_cut [3] (fun s3 wx => ∃ (k s t : Int), s3 = .pointer (some ⟨B, 0, none⟩) ∧ Hid (QX w wx g A n c (m + 240) B (qc (.slice F fs.length cf) (.slice P ps.length cp) k s t q kk) F cf fs P cp ps))
  case first =>
    by_cases hs : 20 < s
    · have f2 := Q5.out.b.free 2
      have f3 := Q5.out.b.free 3
      have f4 := Q5.out.b.free 4
      have Q6 := Lib.hid (((Q5.out.set 2 (.int .i64 1)).set 3 (.int .i64 10)).set 4 (.int .i64 0))
      clear Q5
      go_wp2_with fail
      go_meet
      case rel => exact ⟨1, 10, 0, rfl, Q6⟩
    · go_wp2_with fail
      go_meet
      case rel => exact ⟨k, s, t, rfl, Q5⟩
  case rest =>
  clear c0 c1 c2 c3 c4 c5 c6
  obtain ⟨k, s, t, rfl, Q6⟩ := hcut
  generalize wc = w8 at *
  clear Q5
  obtain ⟨c0, c1, c2, c3, c4, c5, c6⟩ := Q6.out.b.seven
  obtain ⟨d0, d1, d2, d3, d4, d5, d6⟩ := Q6.out.r.seven
  have f0 := Q6.out.r.free 0
  have f1 := Q6.out.r.free 1
  have f2 := Q6.out.r.free 2
  have f3 := Q6.out.r.free 3
  have f4 := Q6.out.r.free 4
  have f5 := Q6.out.r.free 5
  have f6 := Q6.out.r.free 6
  have HE := Lib.hid (Q6.out.done)
  clear Q6
  go_wp2
  obtain ⟨e0, e1, e2, e3, e4, e5, e6⟩ := HE.out.1.seven
  refine bodyPost_ret (v := qv (.slice F fs.length cf) (.slice P ps.length cp) k s t q kk) (by simp [results, Try.results90, go_sem, e0, e1, e2, e3, e4, e5, e6]) rfl ?_
  exact ⟨F, cf, fs, P, cp, ps, k, s, t, q, kk, rfl, HE.out.2.1, HE.out.2.2.1, HE.out.2.2.2.1, HE.out.2.2.2.2.1, HE.out.2.2.2.2.2.1.more (by omega), HE.out.2.2.2.2.2.2⟩
end Go.Proofs.Ytlmlckgnmkjkdaa

/-
  A region in whatever order, by an invariant: what the slots hold of the operations that were listed, and what the world holds.
-/
namespace Go.Proofs.Ytlmlckgnmkjkdaa
open Go.RowKit

/-- L, and i too -/
def upd (L : Nat → Bool) (i : Nat) : Nat → Bool := fun j => if j = i then true else L j
theorem upd_at (L : Nat → Bool) (i : Nat) : upd L i i = true := by simp [upd]
theorem upd_ne {L : Nat → Bool} {i j : Nat} (h : j ≠ i) : upd L i j = L j := by simp [upd, h]
/-- how many of the first n are listed -/
def cnt (n : Nat) (L : Nat → Bool) : Nat := ((List.range n).filter L).length
theorem filter_more {l : List Nat} {L : Nat → Bool} {i : Nat} (hn : l.Nodup) (hi : i ∈ l) (hL : L i = false) : (l.filter (upd L i)).length = (l.filter L).length + 1 := by
  induction l with
  | nil => cases hi
  | cons x l ih =>
    rw [List.nodup_cons] at hn
    by_cases e : x = i
    · subst e
      have : l.filter (upd L x) = l.filter L := List.filter_congr fun y hy => upd_ne (by rintro rfl; exact hn.1 hy)
      simp [upd_at, hL, this]
    · have hi' : i ∈ l := by rcases List.mem_cons.1 hi with h | h; exact absurd h.symm e; exact h
      have := ih hn.2 hi'
      rw [List.filter_cons, List.filter_cons, upd_ne e]
      split <;> simp [this]
theorem cnt_upd {n i : Nat} {L : Nat → Bool} (hi : i < n) (hL : L i = false) : cnt n (upd L i) = cnt n L + 1 := filter_more List.nodup_range (List.mem_range.2 hi) hL
theorem cnt_le (n : Nat) (L : Nat → Bool) : cnt n L ≤ n := by
  have := List.length_filter_le L (List.range n)
  simpa [cnt] using this
theorem cnt_lt {n i : Nat} {L : Nat → Bool} (hi : i < n) (hL : L i = false) : cnt n L + 1 ≤ n := by
  rw [← cnt_upd hi hL]; exact cnt_le _ _

/-- each operation waits for earlier ones alone -/
def earlierB (ops : Array Oper) : Bool := (List.range ops.size).all fun i => ((ops[i]?).map fun o => o.after.all fun e => !Region.binds .any e || decide (e.on < i)).getD true
theorem earlierB_spec {ops : Array Oper} (h : earlierB ops = true) {i : Nat} {o : Oper} (hi : ops[i]? = some o) {e} (he : e ∈ o.after) (hb : Region.binds .any e = true) : e.on < i := by
  have hlt : i < ops.size := (Array.getElem?_eq_some_iff.1 hi).1
  have := List.all_eq_true.1 h i (List.mem_range.2 hlt)
  rw [hi] at this
  simp only [Option.map_some, Option.getD_some, Array.all_eq_true_iff_forall_mem, Bool.or_eq_true, Bool.not_eq_true', decide_eq_true_eq] at this
  rcases this e he with h' | h'
  · rw [hb] at h'; cases h'
  · exact h'

section
variable {P : Program} {ops : Array Oper} {Q : Exit → Act → World → Prop}
theorem wpOp_value {i : Nat} {o : Oper} {K : Act → World → Prop} {a : Act} {w w' : World} {v : Value} (hi : ops[i]? = some o) (hg : o.guard = none) (hr : (execOp a.eval o).run P w = .ok (.value v) w') (hK : K (a.put o.dst v) w') : wpOp P ops Q i K a w := by
  unfold wpOp
  have hw : Region.wanted o (yielded ops a.tmps) = true := by simp [Region.wanted, hg]
  simp only [hi, hw, if_true]
  left
  unfold Oper.wp
  rw [hr]
  exact hK
theorem wpOp_skip {i : Nat} {o : Oper} {K : Act → World → Prop} {a : Act} {w w' : World} (hi : ops[i]? = some o) (hg : o.guard = none) (hr : (execOp a.eval o).run P w = .ok .skip w') (hK : K (a.put o.dst undef) w') : wpOp P ops Q i K a w := by
  unfold wpOp
  have hw : Region.wanted o (yielded ops a.tmps) = true := by simp [Region.wanted, hg]
  simp only [hi, hw, if_true]
  left
  unfold Oper.wp
  rw [hr]
  exact hK
theorem wpOp_enter {i : Nat} {o : Oper} {K : Act → World → Prop} {a : Act} {w w' : World} {f : FuncId} {args : Array Value} (hi : ops[i]? = some o) (hg : o.guard = none) (hr : (execOp a.eval o).run P w = .ok (.enter f args) w')
    (hc : Calls P f args w' fun e w'' => ∃ v, e = .returned v ∧ K (a.put o.dst v) w'') : wpOp P ops Q i K a w := by
  unfold wpOp
  have hw : Region.wanted o (yielded ops a.tmps) = true := by simp [Region.wanted, hg]
  simp only [hi, hw, if_true]
  left
  unfold Oper.wp
  rw [hr]
  refine hc.mono ?_
  rintro e w'' ⟨v, rfl, hK⟩
  exact hK

theorem wpAny_inv (Inv : (Nat → Bool) → Act → World → Prop) (he : earlierB ops = true)
    (hstep : ∀ (L : Nat → Bool) (i : Nat) (o : Oper) (a : Act) (w : World), ops[i]? = some o → L i = false → (∀ e ∈ o.after, Region.binds .any e = true → L e.on = true) → Inv L a w → wpOp P ops Q i (Inv (upd L i)) a w)
    (hend : ∀ (L : Nat → Bool) (a : Act) (w : World), (∀ i, i < ops.size → L i = true) → Inv L a w → Q .normal a w) :
    ∀ (fuel : Nat) (listed : Array Bool) (a : Act) (w : World), listed.size = ops.size → ops.size ≤ fuel + cnt ops.size (fun j => listed.getD j false) → Inv (fun j => listed.getD j false) a w → wpAny P .any ops Q fuel listed a w := by
  have none_all : ∀ (listed : Array Bool), listed.size = ops.size → Region.ready .any ops listed = [] → ∀ i, i < ops.size → listed.getD i false = true := by
    intro listed hs hr i
    induction i using Nat.strongRecOn with
    | _ i ih =>
      intro hi
      cases hb : listed.getD i false with
      | true => rfl
      | false =>
        exfalso
        have ho : ops[i]? = some ops[i] := Array.getElem?_eq_getElem hi
        have : i ∈ Region.ready .any ops listed := by
          rw [mem_ready]
          refine ⟨?_, ops[i], ho, fun e hem hbe => ih e.on (earlierB_spec he ho hem hbe) (Nat.lt_trans (earlierB_spec he ho hem hbe) hi)⟩
          rw [Array.getD_eq_getD_getElem?] at hb ⊢
          rw [Array.getElem?_eq_getElem (by omega)] at hb ⊢
          exact hb
        rw [hr] at this
        cases this
  intro fuel
  induction fuel with
  | zero =>
    intro listed a w hs hf hI
    have hall : ∀ i, i < ops.size → listed.getD i false = true := by
      intro i hi
      cases hb : listed.getD i false with
      | true => rfl
      | false => have := cnt_lt (L := fun j => listed.getD j false) hi hb; omega
    refine ⟨?_, hend _ _ _ hall hI⟩
    cases hr : Region.ready .any ops listed with
    | nil => rfl
    | cons i l =>
      exfalso
      have hm : i ∈ Region.ready .any ops listed := by rw [hr]; exact List.mem_cons_self ..
      obtain ⟨h1, o, ho, _⟩ := mem_ready.1 hm
      have hi : i < ops.size := (Array.getElem?_eq_some_iff.1 ho).1
      have h2 := hall i hi
      rw [Array.getD_eq_getD_getElem?, Array.getElem?_eq_getElem (by omega)] at h1 h2
      simp only [Option.getD_some] at h1 h2
      rw [h1] at h2
      cases h2
  | succ fuel ih =>
    intro listed a w hs hf hI
    refine ⟨fun hr => hend _ _ _ (none_all listed hs hr) hI, fun i hm => ?_⟩
    obtain ⟨h1, o, ho, hall⟩ := mem_ready.1 hm
    have hi : i < ops.size := (Array.getElem?_eq_some_iff.1 ho).1
    have h1' : listed.getD i false = false := by
      rw [Array.getD_eq_getD_getElem?, Array.getElem?_eq_getElem (by omega)] at h1 ⊢
      exact h1
    have hfun : (fun j => (listed.setIfInBounds i true).getD j false) = upd (fun j => listed.getD j false) i := by
      funext j
      by_cases e : j = i
      · subst e
        rw [upd_at, Array.getD_eq_getD_getElem?, Array.getElem?_setIfInBounds_self_of_lt (by omega)]
        rfl
      · rw [upd_ne e, Array.getD_eq_getD_getElem?, Array.getElem?_setIfInBounds_ne (fun h => e h.symm), ← Array.getD_eq_getD_getElem?]
    refine wpOp_mono (fun a' w' hI' => ih _ a' w' (by simpa using hs) ?_ ?_) (hstep _ i o a w ho h1' hall hI)
    · rw [hfun, cnt_upd hi h1']; omega
    · rw [hfun]; exact hI'

theorem wp_region_inv {id : Nat} {a : Act} {w : World} (Inv : (Nat → Bool) → Act → World → Prop) (hm : P.follows .mixedOrders = true) (he : earlierB ops = true) (h0 : Inv (fun _ => false) a w.drew)
    (hstep : ∀ (L : Nat → Bool) (i : Nat) (o : Oper) (a : Act) (w : World), ops[i]? = some o → L i = false → (∀ e ∈ o.after, Region.binds .any e = true → L e.on = true) → Inv L a w → wpOp P ops Q i (Inv (upd L i)) a w)
    (hend : ∀ (L : Nat → Bool) (a : Act) (w : World), (∀ i, i < ops.size → L i = true) → Inv L a w → Q .normal a w) : (Code.region id ops true).wp P Q a w := by
  refine wp_region_any hm (wpAny_inv Inv he hstep hend ops.size _ a _ (by simp) (by omega) ?_)
  have : (fun j => (Array.replicate ops.size false).getD j false) = fun _ => false := by
    funext j
    rw [Array.getD_eq_getD_getElem?]
    by_cases h : j < ops.size
    · simp [h]
    · rw [Array.getElem?_eq_none (by simp; omega)]; rfl
  rw [this]
  exact h0
end

/-! ### what the slots hold -/

/-- Blocks other than g and r are as they were. -/
structure Ext (g r : Nat) (w w' : World) : Prop where
  size : w.heap.size ≤ w'.heap.size
  block : ∀ k, k < w.heap.size → k ≠ g → k ≠ r → w'.heap[k]? = w.heap[k]?
theorem Ext.refl (g r : Nat) (w : World) : Ext g r w w := ⟨Nat.le_refl _, fun _ _ _ _ => rfl⟩
theorem Ext.of {g r : Nat} {w w' : World} (h : w.grownBy w' (some g)) : Ext g r w w' := ⟨h.size, fun k hk hg _ => h.block k hk (by simpa using hg)⟩
theorem Ext.below {g r : Nat} {w w' : World} (h : Below w.heap.size w w') : Ext g r w w' := ⟨h.size, fun k hk _ _ => h.block k hk⟩
theorem Ext.set {g r j : Nat} {w : World} (u : Value) : Ext g r w (w.setCell ⟨r, j, none⟩ u) := ⟨by simp, fun k _ _ hr => Below.heap_setCell w ⟨r, j, none⟩ u k (by show k ≠ r; exact hr)⟩

inductive Kd where
  | is (v : Value)
  | nat (N : Nat)
  | int
  | lit (n : Nat)
  | cell
  | row (b s N : Nat)
def Kd.ok (lo : Nat) : Kd → World → Value → Prop
  | .is v, _, u => u = v
  | .nat N, _, u => ∃ r : Nat, r < N ∧ u = .int .i64 r
  | .int, _, u => ∃ z : Int, u = .int .i64 z
  | .lit n, w, u => ∃ h zs, u = .slice (some ⟨h, 0, none⟩) n n ∧ lo ≤ h ∧ zs.length = n ∧ Own w h 3 (iz zs)
  | .cell, w, u => ∃ h j zs, u = .pointer (some ⟨h, j, none⟩) ∧ lo ≤ h ∧ j < zs.length ∧ Own w h 3 (iz zs)
  | .row b s N, _, u => ∃ r : Nat, r < N ∧ u = .pointer (some ⟨b, r * s, none⟩)
theorem Kd.ok.mono {lo g r : Nat} {k : Kd} {w w' : World} {u : Value} (h : k.ok lo w u) (hE : Ext g r w w') (hg : g < lo) (hr : r < lo) : k.ok lo w' u := by
  cases k with
  | is v => exact h
  | nat N => exact h
  | int => exact h
  | lit n =>
    obtain ⟨h, zs, e, hl, hz, ho⟩ := h
    exact ⟨h, zs, e, hl, hz, (hE.block h ho.lt (by omega) (by omega)).trans ho⟩
  | cell =>
    obtain ⟨h, j, zs, e, hl, hz, ho⟩ := h
    exact ⟨h, j, zs, e, hl, hz, (hE.block h ho.lt (by omega) (by omega)).trans ho⟩
  | row b s N => exact h

/-- each operation writes a slot of its own, none of the kept ones -/
def slotsB (ops : Array Oper) (keep : List Nat) (N : Nat) : Bool :=
  (List.range ops.size).all fun i => match (ops[i]?).bind (·.dst) with
    | none => true
    | some d => decide (d < N) && !keep.contains d && (List.range ops.size).all fun j => decide (j = i) || ((ops[j]?).bind (·.dst) != some d)
theorem slotsB_spec {ops : Array Oper} {keep : List Nat} {N : Nat} (h : slotsB ops keep N = true) {i : Nat} {o : Oper} {d : Nat} (hi : ops[i]? = some o) (hd : o.dst = some d) :
    d < N ∧ d ∉ keep ∧ ∀ j o', ops[j]? = some o' → j ≠ i → o'.dst ≠ some d := by
  have hlt : i < ops.size := (Array.getElem?_eq_some_iff.1 hi).1
  have h1 := List.all_eq_true.1 h i (List.mem_range.2 hlt)
  simp only [hi, Option.bind_some, hd, Bool.and_eq_true, decide_eq_true_eq, Bool.not_eq_true', List.all_eq_true, List.mem_range, Bool.or_eq_true] at h1
  refine ⟨h1.1.1, by simpa using h1.1.2, fun j o' hj hne hd' => ?_⟩
  have hjl : j < ops.size := (Array.getElem?_eq_some_iff.1 hj).1
  rcases h1.2 j hjl with e | e
  · exact hne e
  · simp [hj, hd'] at e

structure RInv (ops : Array Oper) (kinds : List Kd) (keep : List (Nat × Value)) (N lo : Nat) (ds : List Deferred) (MEM : (Nat → Bool) → World → Prop) (L : Nat → Bool) (a : Act) (w : World) : Prop where
  size : a.tmps.size = N
  defers : a.defers = ds
  kept : ∀ p ∈ keep, a.tmps[p.1]? = some p.2
  vals : ∀ i o d k, ops[i]? = some o → o.dst = some d → L i = true → kinds[i]? = some k → ∃ v, a.tmps[d]? = some v ∧ k.ok lo w v
  mem : MEM L w
section
variable {ops : Array Oper} {kinds : List Kd} {keep : List (Nat × Value)} {N lo g r : Nat} {ds : List Deferred} {MEM : (Nat → Bool) → World → Prop} {L : Nat → Bool} {a : Act} {w w' : World}
theorem RInv.value (h : RInv ops kinds keep N lo ds MEM L a w) {i : Nat} {o : Oper} {d : Nat} {k : Kd} {v : Value} (hi : ops[i]? = some o) (hd : o.dst = some d) (hk : kinds[i]? = some k) (hb : slotsB ops (keep.map (·.1)) N = true)
    (hv : k.ok lo w' v) (hE : Ext g r w w') (hg : g < lo) (hr : r < lo) (hM : MEM (upd L i) w') : RInv ops kinds keep N lo ds MEM (upd L i) (a.put o.dst v) w' := by
  obtain ⟨hdN, hdk, hdo⟩ := slotsB_spec hb hi hd
  rw [hd]
  refine ⟨?_, h.defers, fun p hp => ?_, fun j o' d' k' hj hd' hL hk' => ?_, hM⟩
  · simp [Act.put, h.size]
  · have hne : d ≠ p.1 := fun e => hdk (by rw [e]; exact List.mem_map_of_mem hp)
    simp only [Act.put]
    rw [Array.getElem?_setIfInBounds_ne hne]
    exact h.kept p hp
  · by_cases e : j = i
    · subst e
      obtain rfl : o = o' := by rw [hi] at hj; injection hj
      obtain rfl : d = d' := by rw [hd] at hd'; injection hd'
      obtain rfl : k = k' := by rw [hk] at hk'; injection hk'
      refine ⟨v, ?_, hv⟩
      simp only [Act.put]
      rw [Array.getElem?_setIfInBounds_self_of_lt (by rw [h.size]; exact hdN)]
    · rw [upd_ne e] at hL
      obtain ⟨u, hu, hok⟩ := h.vals j o' d' k' hj hd' hL hk'
      refine ⟨u, ?_, hok.mono hE hg hr⟩
      have hne : d ≠ d' := fun e' => hdo j o' hj e (by rw [hd', e'])
      simp only [Act.put]
      rw [Array.getElem?_setIfInBounds_ne hne]
      exact hu
theorem RInv.none (h : RInv ops kinds keep N lo ds MEM L a w) {i : Nat} {o : Oper} (hi : ops[i]? = some o) (hd : o.dst = none) (hE : Ext g r w w') (hg : g < lo) (hr : r < lo) (hM : MEM (upd L i) w') (v : Value) : RInv ops kinds keep N lo ds MEM (upd L i) (a.put o.dst v) w' := by
  rw [hd]
  refine ⟨h.size, h.defers, h.kept, fun j o' d' k' hj hd' hL hk' => ?_, hM⟩
  by_cases e : j = i
  · subst e
    obtain rfl : o = o' := by rw [hi] at hj; injection hj
    rw [hd] at hd'; cases hd'
  · rw [upd_ne e] at hL
    obtain ⟨u, hu, hok⟩ := h.vals j o' d' k' hj hd' hL hk'
    exact ⟨u, hu, hok.mono hE hg hr⟩
/-- what slot d holds, once operation j is listed -/
theorem RInv.at (h : RInv ops kinds keep N lo ds MEM L a w) (j : Nat) {o : Oper} {d : Nat} {k : Kd} (hj : ops[j]? = some o) (hd : o.dst = some d) (hk : kinds[j]? = some k) (hL : L j = true) : ∃ v, a.tmps[d]? = some v ∧ k.ok lo w v := h.vals j o d k hj hd hL hk
theorem RInv.held (h : RInv ops kinds keep N lo ds MEM L a w) {s : Nat} {v : Value} (hp : (s, v) ∈ keep) : a.tmps[s]? = some v := h.kept _ hp
theorem eval_of {s : Nat} {v : Value} (h : a.tmps[s]? = some v) : a.eval (.tmp s) = v := by simp [Act.eval, Array.getD_eq_getD_getElem?, h]
end
theorem wp_region_rinv {P : Program} {ops : Array Oper} {Q : Exit → Act → World → Prop} {id : Nat} {a : Act} {w : World} (kinds : List Kd) (keep : List (Nat × Value)) (N lo : Nat) (ds : List Deferred) (MEM : (Nat → Bool) → World → Prop) (hm : P.follows .mixedOrders = true) (he : earlierB ops = true) (hsl : slotsB ops (keep.map (·.1)) N = true)
    (h0 : RInv ops kinds keep N lo ds MEM (fun _ => false) a w.drew)
    (hstep : ∀ (L : Nat → Bool) (i : Nat) (o : Oper) (a : Act) (w : World), ops[i]? = some o → L i = false → (∀ e ∈ o.after, Region.binds .any e = true → L e.on = true) → slotsB ops (keep.map (·.1)) N = true → RInv ops kinds keep N lo ds MEM L a w → wpOp P ops Q i (RInv ops kinds keep N lo ds MEM (upd L i)) a w)
    (hend : ∀ (L : Nat → Bool) (a : Act) (w : World), (∀ i, i < ops.size → L i = true) → RInv ops kinds keep N lo ds MEM L a w → Q .normal a w) : (Code.region id ops true).wp P Q a w :=
  wp_region_inv _ hm he h0 (fun L i o a w h1 h2 h3 h4 => hstep L i o a w h1 h2 h3 hsl h4) hend
/-- a frame, slot by slot -/
theorem act_list {a : Act} {N : Nat} {ds : List Deferred} (hs : a.tmps.size = N) (hd : a.defers = ds) : a = ⟨((List.range N).map fun i => a.eval (.tmp i)).toArray, ds⟩ := by
  obtain ⟨t, d⟩ := a
  simp only at hs hd
  subst hd
  congr 1
  apply Array.ext
  · simp [hs]
  · intro i h1 h2
    simp [Act.eval, h1]
theorem rinv_start {ops : Array Oper} {kinds : List Kd} {keep : List (Nat × Value)} {N lo : Nat} {ds : List Deferred} {MEM : (Nat → Bool) → World → Prop} {a : Act} {w : World} (hs : a.tmps.size = N) (hd : a.defers = ds) (hk : ∀ p ∈ keep, a.tmps[p.1]? = some p.2) (hM : MEM (fun _ => false) w) : RInv ops kinds keep N lo ds MEM (fun _ => false) a w :=
  ⟨hs, hd, hk, (fun _ _ _ _ _ _ h _ => absurd h (by simp)), hM⟩
end Go.Proofs.Ytlmlckgnmkjkdaa

/-
  The cursor's oneWin: the walk. By gencurwin.py.
-/
namespace Go.Proofs.Ytlmlckgnmkjkdaa
open Go.RowKit

set_option maxRecDepth 100000 in
set_option maxHeartbeats 8000000 in
theorem oneWin_any (g : Nat) (A : Option Addr) (n c m : Nat) (w : World) (h : Cur w g A n c m) (hn : n ≤ 1048576) (hm : m ≤ 1000000) :
    Calls Try.prog 89 #[.pointer (some ⟨g, 0, none⟩)] w fun e w' => ∃ a b : Int, e = .returned (.agg #[.int .i64 a, .int .i64 b]) ∧ Cur w' g A n c (m + 50) ∧ w.grownBy w' (some g) := by
  have hgl0 := h.lt
  have H0 := Lib.hid (h.grow (below_alloc w (.cells #[.int .i64 0, .int .i64 0] 68)))
  clear h
  go_enter Try.func89, Try.ntmps89
  go_wp2_with fail
  refine (pick_any g A n c m 60 _ H0.out hn (by omega) (by omega) (by omega)).mono ?_
  rintro e w1 ⟨r1, rfl, hr1, hC1, hG1⟩
  have o1 := own_far (Own.new w 68 [.int .i64 0, .int .i64 0]) hG1 (by omega)
  have g1 : w.grownBy w1 (some g) := grown_trans (grownBy_of (below_alloc _ _) _) hG1
  clear H0 hG1
  go_wp2_with fail
  refine (pick_any g A n c (m + 1) 9 _ hC1 hn (by omega) (by omega) (by omega)).mono ?_
  rintro e w2 ⟨r2, rfl, hr2, hC2, hG2⟩
  have o2 := own_far o1 hG2 (by omega)
  have z1 := o2.lt
  obtain ⟨fw, ha⟩ : ∃ fw : Int, (r1 : Int) = fw := ⟨_, rfl⟩
  obtain ⟨b, hb⟩ : ∃ b : Int, (r1 : Int) + 1 + (r2 : Int) = b := ⟨_, rfl⟩
  have P1 := Lib.hid (show VS w (w2.alloc (.cells #[.int .i64 fw, .int .i64 b] 68)) g A n c (m + 2) w.heap.size w2.heap.size 68 [.int .i64 0, .int .i64 0] 68 [.int .i64 fw, .int .i64 b] from
    ⟨o2.alloc _, Own.new w2 _ [_, _], hC2.grow (below_alloc _ _), grown_trans g1 (grown_trans hG2 (grownBy_of (below_alloc _ _) _)), hgl0, Nat.le_refl _, z1⟩)
  have ha0 : 0 ≤ fw := by omega
  have hb0 : 0 ≤ b := by omega
  have hb1 : b ≤ 100 := by omega
  rw [ha]
  rw [ha] at hb hr1
  clear o1 o2 g1 hC1 hC2 hG2 ha
  go_wp2_with fail
  refine (pick_any g A n c (m + 2) 12 _ P1.out.cur hn (by omega) (by omega) (by omega)).mono ?_
  rintro e v0 ⟨r0, rfl, hr0, hC3, hG3⟩
  have P0 := Lib.hid (P1.out.far hG3 hC3)
  clear P1 hC3 hG3
  generalize w2.heap.size = B at *
  by_cases h0 : r0 = 0
  · subst h0
    go_wp2_with fail
    refine (raw_any g A n c (m + 2 + 1) _ P0.out.cur hn (by omega)).mono ?_
    rintro e w4 ⟨z, rfl, hz1, hz2, hC4, hG4⟩
    have P4 := Lib.hid (P0.out.far hG4 hC4)
    have P5 := Lib.hid (P4.out.set 0 (.int .i64 z))
    have f0 := P4.out.b.free 0
    obtain ⟨c0, c1⟩ := P4.out.b.two
    clear P0 hC4 hG4
    go_upto_region 8 with (fail)
    clear f0 c0 c1 P4
    have r0 := P5.out.r.free 0
    have r1' := (P5.out.setR 0 (.int .i64 (z))).r.free 1
    obtain ⟨d0, d1⟩ := P5.out.r.two
    obtain ⟨c0, c1⟩ := P5.out.b.two
    have Z := Lib.hid ((P5.out.setR 0 (.int .i64 (z))).setR 1 (.int .i64 (b)))
    obtain ⟨e0, e1⟩ := Z.out.r.two
    go_wp2
    refine bodyPost_ret (v := .agg #[.int .i64 (z), .int .i64 (b)]) (by simp [results, Try.results89, go_sem, e0, e1]) rfl ?_
    exact ⟨_, _, rfl, Z.out.cur.more (by omega), Z.out.gr⟩
  have hn0 : ((r0 : Int) == 0) = false := by simp; omega
  by_cases h1 : r0 = 1
  · subst h1
    go_upto_region 7 with (fail)
    have p := P0.out
    have hgl : g < v0.heap.size := p.cur.lt
    have hrl : B < v0.heap.size := p.b.lt
    refine wp_region_rinv [.is (.pointer (some ⟨g, 0, none⟩)), .int, .is (.pointer (some ⟨B, 0, none⟩)), .is (.int .i64 fw), .lit 4, .is (.pointer (some ⟨g, 0, none⟩)), .nat 4, .cell, .int, .is (.pointer (some ⟨B, 1, none⟩)), .int] [(0, .pointer (some ⟨g, 0, none⟩)), (2, .pointer (some ⟨w.heap.size, 0, none⟩)), (4, .pointer (some ⟨B, 0, none⟩))] 34 v0.heap.size []
      (fun L W => ∃ (M : Nat) (x : Int), M ≤ (m + 3) + 2 * cnt 11 L ∧ VS w W g A n c M w.heap.size B 68 [.int .i64 0, .int .i64 0] 68 [.int .i64 fw, .int .i64 x] ∧ v0.heap.size ≤ W.heap.size) (by kernel_rfl) (by kernel_rfl) (by kernel_rfl) ?start ?step ?fin
    case start =>
      refine rinv_start rfl rfl ?_ ⟨(m + 3), _, Nat.le_add_right _ _, p.grow (Below.refl _ _).drew, Nat.le_refl _⟩
      intro p hp
      simp only [List.mem_cons, List.not_mem_nil, or_false] at hp
      rcases hp with rfl | rfl | rfl <;> rfl
    case step =>
      clear p P0
      intro L i o a W hi hLi hdep hsl hI
      have hlt : i < 11 := (Array.getElem?_eq_some_iff.1 hi).1
      have MU : ∀ {i : Nat}, (∃ (M : Nat) (x : Int), M ≤ (m + 3) + 2 * cnt 11 L ∧ VS w W g A n c M w.heap.size B 68 [.int .i64 0, .int .i64 0] 68 [.int .i64 fw, .int .i64 x] ∧ v0.heap.size ≤ W.heap.size) → L i = false → i < 11 → ∃ (M : Nat) (x : Int), M ≤ (m + 3) + 2 * cnt 11 (upd L i) ∧ VS w W g A n c M w.heap.size B 68 [.int .i64 0, .int .i64 0] 68 [.int .i64 fw, .int .i64 x] ∧ v0.heap.size ≤ W.heap.size := by
        rintro i ⟨M, x, hM, hq, hsz⟩ hL hi1
        exact ⟨M, x, by rw [cnt_upd hi1 hL]; omega, hq, hsz⟩
      match i, hlt with
      | 0, _ =>
        obtain rfl := Option.some.inj hi
        have hx := hI.held (s := 0) (v := .pointer (some ⟨g, 0, none⟩)) (by simp)
        exact wpOp_value (v := .pointer (some ⟨g, 0, none⟩)) (w' := W) hi rfl (by simp [execOp, go_sem, hx]) (hI.value hi rfl rfl hsl rfl (Ext.refl g B W) hgl hrl (MU hI.mem hLi (by decide)))
      | 1, _ =>
        obtain rfl := Option.some.inj hi
        have d0 : L 0 = true := hdep { on := 0, ground := .data } (by simp) rfl
        obtain ⟨x, ex, kx⟩ := hI.at 0 (d := 23) (k := .is (.pointer (some ⟨g, 0, none⟩))) rfl rfl rfl d0
        obtain rfl : x = .pointer (some ⟨g, 0, none⟩) := kx
        obtain ⟨M, x, hM, hq, hsz⟩ := hI.mem
        have hcl := cnt_lt (n := 11) (L := L) (by decide) hLi
        refine wpOp_enter (f := 91) (args := #[.pointer (some ⟨g, 0, none⟩)]) (w' := W) hi rfl (by simp [execOp, go_sem, ex]) ?_
        refine (raw_any g A n c M W hq.cur hn (by omega)).mono ?_
        rintro e W' ⟨r, rfl, hr1, hr2, hC, hG⟩
        exact ⟨_, rfl, hI.value hi rfl rfl hsl ⟨r, rfl⟩ (Ext.of hG) hgl hrl ⟨M + 2, x, by rw [cnt_upd (by decide) hLi]; omega, hq.far hG hC, Nat.le_trans hsz hG.size⟩⟩
      | 2, _ =>
        obtain rfl := Option.some.inj hi
        have hx := hI.held (s := 4) (v := .pointer (some ⟨B, 0, none⟩)) (by simp)
        exact wpOp_value (v := .pointer (some ⟨B, 0, none⟩)) (w' := W) hi rfl (by simp [execOp, go_sem, hx]) (hI.value hi rfl rfl hsl rfl (Ext.refl g B W) hgl hrl (MU hI.mem hLi (by decide)))
      | 3, _ =>
        obtain rfl := Option.some.inj hi
        have d2 : L 2 = true := hdep { on := 2, ground := .data } (by simp) rfl
        obtain ⟨x, ex, kx⟩ := hI.at 2 (d := 25) (k := .is (.pointer (some ⟨B, 0, none⟩))) rfl rfl rfl d2
        have hxx := kx
        subst hxx
        obtain ⟨M, x, hM, hq, hsz⟩ := hI.mem
        obtain ⟨c0, c1⟩ := hq.b.two
        exact wpOp_value (v := .int .i64 fw) (w' := W) hi rfl (by simp [execOp, go_sem, ex, c0]) (hI.value hi rfl rfl hsl rfl (Ext.refl g B W) hgl hrl (MU hI.mem hLi (by decide)))
      | 4, _ =>
        obtain rfl := Option.some.inj hi
        have d1 : L 1 = true := hdep { on := 1, ground := .data } (by simp) rfl
        obtain ⟨x0, ex0, kx0⟩ := hI.at 1 (d := 24) (k := .int) rfl rfl rfl d1
        obtain ⟨z0, rfl⟩ := kx0
        have d3 : L 3 = true := hdep { on := 3, ground := .data } (by simp) rfl
        obtain ⟨x1, ex1, kx1⟩ := hI.at 3 (d := 26) (k := .is (.int .i64 fw)) rfl rfl rfl d3
        have hk1 := kx1
        subst hk1
        obtain ⟨M, x, hM, hq, hsz⟩ := hI.mem
        refine wpOp_value (v := .slice (some ⟨W.heap.size, 0, none⟩) 4 4) (w' := W.alloc (.cells #[.int .i64 z0, .int .i64 fw, .int .i64 1100, .int .i64 1101] 3)) hi rfl (by simp [execOp, go_sem, ex0, ex1]) ?_
        exact hI.value hi rfl rfl hsl ⟨W.heap.size, [z0, fw, 1100, 1101], rfl, hsz, rfl, Own.new W _ [.int .i64 z0, .int .i64 fw, .int .i64 1100, .int .i64 1101]⟩ (Ext.below (below_alloc _ _)) hgl hrl ⟨M, x, by rw [cnt_upd (by decide) hLi]; omega, hq.grow (below_alloc _ _), Nat.le_trans hsz (by simp)⟩
      | 5, _ =>
        obtain rfl := Option.some.inj hi
        have hx := hI.held (s := 0) (v := .pointer (some ⟨g, 0, none⟩)) (by simp)
        exact wpOp_value (v := .pointer (some ⟨g, 0, none⟩)) (w' := W) hi rfl (by simp [execOp, go_sem, hx]) (hI.value hi rfl rfl hsl rfl (Ext.refl g B W) hgl hrl (MU hI.mem hLi (by decide)))
      | 6, _ =>
        obtain rfl := Option.some.inj hi
        have d5 : L 5 = true := hdep { on := 5, ground := .data } (by simp) rfl
        obtain ⟨x, ex, kx⟩ := hI.at 5 (d := 28) (k := .is (.pointer (some ⟨g, 0, none⟩))) rfl rfl rfl d5
        obtain rfl : x = .pointer (some ⟨g, 0, none⟩) := kx
        obtain ⟨M, x, hM, hq, hsz⟩ := hI.mem
        have hcl := cnt_lt (n := 11) (L := L) (by decide) hLi
        refine wpOp_enter (f := 86) (args := #[.pointer (some ⟨g, 0, none⟩), .int .i64 4]) (w' := W) hi rfl (by simp [execOp, go_sem, ex]) ?_
        refine (pick_any g A n c M 4 W hq.cur hn (by omega) (by omega) (by omega)).mono ?_
        rintro e W' ⟨r, rfl, hr, hC, hG⟩
        exact ⟨_, rfl, hI.value hi rfl rfl hsl ⟨r, by omega, rfl⟩ (Ext.of hG) hgl hrl ⟨M + 1, x, by rw [cnt_upd (by decide) hLi]; omega, hq.far hG hC, Nat.le_trans hsz hG.size⟩⟩
      | 7, _ =>
        obtain rfl := Option.some.inj hi
        have d4 : L 4 = true := hdep { on := 4, ground := .data } (by simp) rfl
        obtain ⟨x, ex, kx⟩ := hI.at 4 (d := 27) (k := .lit 4) rfl rfl rfl d4
        have d6 : L 6 = true := hdep { on := 6, ground := .data } (by simp) rfl
        obtain ⟨y, ey, ky⟩ := hI.at 6 (d := 29) (k := .nat 4) rfl rfl rfl d6
        obtain ⟨h, zs, rfl, hlo, hzl, ho⟩ := kx
        obtain ⟨r, hr, rfl⟩ := ky
        have hr0 : 0 ≤ (r : Int) ∧ (r : Int) < 4 := by omega
        exact wpOp_value (v := .pointer (some ⟨h, r, none⟩)) (w' := W) hi rfl (by simp [execOp, go_sem, ex, ey, hr0]) (hI.value hi rfl rfl hsl ⟨h, r, zs, rfl, hlo, by omega, ho⟩ (Ext.refl g B W) hgl hrl (MU hI.mem hLi (by decide)))
      | 8, _ =>
        obtain rfl := Option.some.inj hi
        have d7 : L 7 = true := hdep { on := 7, ground := .data } (by simp) rfl
        obtain ⟨x, ex, kx⟩ := hI.at 7 (d := 30) (k := .cell) rfl rfl rfl d7
        obtain ⟨h, j, zs, rfl, hlo, hj, ho⟩ := kx
        have hc : W.cell? ⟨h, j, none⟩ = some (.int .i64 (iat zs j)) := by rw [ho.cell, iz_iat hj]
        exact wpOp_value (v := .int .i64 (iat zs j)) (w' := W) hi rfl (by simp [execOp, go_sem, ex, hc]) (hI.value hi rfl rfl hsl ⟨_, rfl⟩ (Ext.refl g B W) hgl hrl (MU hI.mem hLi (by decide)))
      | 9, _ =>
        obtain rfl := Option.some.inj hi
        have hx := hI.held (s := 4) (v := .pointer (some ⟨B, 0, none⟩)) (by simp)
        exact wpOp_value (v := .pointer (some ⟨B, 1, none⟩)) (w' := W) hi rfl (by simp [execOp, go_sem, hx]) (hI.value hi rfl rfl hsl rfl (Ext.refl g B W) hgl hrl (MU hI.mem hLi (by decide)))
      | 10, _ =>
        obtain rfl := Option.some.inj hi
        have d9 : L 9 = true := hdep { on := 9, ground := .data } (by simp) rfl
        obtain ⟨x, ex, kx⟩ := hI.at 9 (d := 32) (k := .is (.pointer (some ⟨B, 1, none⟩))) rfl rfl rfl d9
        have d8 : L 8 = true := hdep { on := 8, ground := .data } (by simp) rfl
        obtain ⟨y, ey, ky⟩ := hI.at 8 (d := 31) (k := .int) rfl rfl rfl d8
        have hxx := kx
        subst hxx
        obtain ⟨z, rfl⟩ := ky
        obtain ⟨M, x, hM, hq, hsz⟩ := hI.mem
        obtain ⟨c0, c1⟩ := hq.b.two
        have f0 := hq.b.free 1
        refine wpOp_skip (w' := W.setCell ⟨B, 1, none⟩ (.int .i64 z)) hi rfl (by simp [execOp, go_sem, ex, ey, c1, f0]) ?_
        exact hI.none hi rfl (g := g) (r := B) (Ext.set _) hgl hrl ⟨M, z, by rw [cnt_upd (by decide) hLi]; omega, hq.set 1 _, by simpa using hsz⟩ _
    case fin =>
      intro L a W hall hI
      have e0 := hI.held (s := 0) (v := .pointer (some ⟨g, 0, none⟩)) (by simp)
      have e2 := hI.held (s := 2) (v := .pointer (some ⟨w.heap.size, 0, none⟩)) (by simp)
      have e3 := hI.held (s := 4) (v := .pointer (some ⟨B, 0, none⟩)) (by simp)
      obtain ⟨M, x, hM, q, hsz⟩ := hI.mem
      have hcl := cnt_le 11 L
      have ha : a = ⟨#[a.eval (.tmp 0), a.eval (.tmp 1), a.eval (.tmp 2), a.eval (.tmp 3), a.eval (.tmp 4), a.eval (.tmp 5), a.eval (.tmp 6), a.eval (.tmp 7), a.eval (.tmp 8), a.eval (.tmp 9), a.eval (.tmp 10), a.eval (.tmp 11), a.eval (.tmp 12), a.eval (.tmp 13), a.eval (.tmp 14), a.eval (.tmp 15), a.eval (.tmp 16), a.eval (.tmp 17), a.eval (.tmp 18), a.eval (.tmp 19), a.eval (.tmp 20), a.eval (.tmp 21), a.eval (.tmp 22), a.eval (.tmp 23), a.eval (.tmp 24), a.eval (.tmp 25), a.eval (.tmp 26), a.eval (.tmp 27), a.eval (.tmp 28), a.eval (.tmp 29), a.eval (.tmp 30), a.eval (.tmp 31), a.eval (.tmp 32), a.eval (.tmp 33)], []⟩ := act_list hI.size hI.defers
      rw [ha, eval_of e0, eval_of e2, eval_of e3]
      have Q := Lib.hid q
      clear hI ha e0 e2 e3 p hall q P0
      have r0 := Q.out.r.free 0
      have r1' := (Q.out.setR 0 (.int .i64 (fw))).r.free 1
      obtain ⟨d0, d1⟩ := Q.out.r.two
      obtain ⟨c0, c1⟩ := Q.out.b.two
      have Z := Lib.hid ((Q.out.setR 0 (.int .i64 (fw))).setR 1 (.int .i64 (x)))
      obtain ⟨e0, e1⟩ := Z.out.r.two
      go_wp2
      refine bodyPost_ret (v := .agg #[.int .i64 (fw), .int .i64 (x)]) (by simp [results, Try.results89, go_sem, e0, e1]) rfl ?_
      exact ⟨_, _, rfl, Z.out.cur.more (by omega), Z.out.gr⟩
  · have hn1 : ((r0 : Int) == 1) = false := by simp; omega
    go_upto_region 8 with (fail)
    have r0 := P0.out.r.free 0
    have r1' := (P0.out.setR 0 (.int .i64 (fw))).r.free 1
    obtain ⟨d0, d1⟩ := P0.out.r.two
    obtain ⟨c0, c1⟩ := P0.out.b.two
    have Z := Lib.hid ((P0.out.setR 0 (.int .i64 (fw))).setR 1 (.int .i64 (b)))
    obtain ⟨e0, e1⟩ := Z.out.r.two
    go_wp2
    refine bodyPost_ret (v := .agg #[.int .i64 (fw), .int .i64 (b)]) (by simp [results, Try.results89, go_sem, e0, e1]) rfl ?_
    exact ⟨_, _, rfl, Z.out.cur.more (by omega), Z.out.gr⟩
end Go.Proofs.Ytlmlckgnmkjkdaa
