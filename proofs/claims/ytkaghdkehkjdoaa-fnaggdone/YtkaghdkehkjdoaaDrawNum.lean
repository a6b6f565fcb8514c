/-
  What is drawn for the laws of aggregates: lists of numbers.
-/
import Derived.Test.YtkaghdkehkjdoaaOwnsS
import Derived.Test.YtkaghdkehkjdoaaCurB
import Derived.Test.YtkaghdkehkjdoaaCurS
import Derived.Test.YtkaghdkehkjdoaaTopI
import Derived.Test.YtkaghdkehkjdoaaWideA
import Derived.Deep.RegionWith
namespace Go.Proofs.Ytkaghdkehkjdoaa
open Go.RowKit

theorem byt_kept {w w' : World} {A : Option Addr} {n : Nat} (hA : Byt w A n w.heap.size) (hb : Below w.heap.size w w') : Byt w' A n w'.heap.size := fun k hk => by
  obtain ⟨ad, b, e, hl, r⟩ := (hA.below hb) k hk
  exact ⟨ad, b, e, Nat.lt_of_lt_of_le hl hb.size, r⟩
/-- what changed the cursor alone left what was there -/
theorem below_draw {w w1 w2 : World} {g : Nat} (h : Below w.heap.size w w1) (hG : w1.grownBy w2 (some g)) (hg : w.heap.size ≤ g) : Below w.heap.size w w2 := h.grown hG h.size (fun k e => by cases e; exact hg)
theorem cur_low {b w' : World} {g n c M B : Nat} {A : Option Addr} (h : Cur b g A n c M) (k : Below B b w') (hg : g < B) : Cur w' g A n c M := by
  obtain ⟨i, s, ho, hi, hs⟩ := h.ex
  exact ⟨⟨i, s, ho.below k hg, hi, hs⟩, h.byt.below (k.mono (Nat.le_of_lt hg))⟩
theorem low_grown {w b b' : World} {r : Option Nat} (h : w.grownBy b r) (k : Below w.heap.size b b') : w.grownBy b' r :=
  ⟨k.os.trans h.os, k.tape.trans h.tape, k.output.trans h.output, Nat.le_trans h.size k.size, fun i hi hr => (k.block i hi).trans (h.block i hi hr)⟩
/-- a literal of integers: whatever is taken of it is one of them -/
theorem iz_pick {zs : List Int} {r : Nat} (h : r < zs.length) : ∃ v, (iz zs)[r]? = some (.int .i64 v) ∧ v ∈ zs := by
  refine ⟨zs[r], ?_, List.getElem_mem h⟩
  simp [iz, h]
theorem i64_three {a b z v : Int} (h : v ∈ [a, b, z]) (ha : I64 a) (hb : I64 b) (hz : I64 z) : I64 v := by
  simp only [List.mem_cons, List.not_mem_nil, or_false] at h
  rcases h with rfl | rfl | rfl <;> assumption
theorem i64_snoc {ts : List Int} {v : Int} (h : ∀ x ∈ ts, I64 x) (hv : I64 v) : ∀ x ∈ ts ++ [v], I64 x := fun x hx => by
  rcases List.mem_append.1 hx with hx | hx
  · exact h x hx
  · rw [List.mem_singleton.1 hx]; exact hv

set_option maxRecDepth 100000 in
set_option maxHeartbeats 4000000 in
theorem values_any (g : Nat) (A : Option Addr) (n c m : Nat) (w : World) (h : Cur w g A n c m) (hn : n ≤ 1048576) (hm : m ≤ 1000000) :
    Calls Try.prog 61 #[.pointer (some ⟨g, 0, none⟩)] w fun e w' => ∃ (ts : List Int) (A' : Option Addr) (c' : Nat), e = .returned (.slice A' ts.length c') ∧ ts.length ≤ 9 ∧ (∀ x ∈ ts, I64 x) ∧
      w'.ownsRow w.heap.size 3 1 (.slice A' ts.length c') ts.length (iz ts) ∧ Cur w' g A n c (m + 50) ∧ w.grownBy w' (some g) := by
  have hgl := h.lt
  have rowE := owns_empty (size := 1) (base := w.heap.size) (Own.new w 3 []) (Nat.le_refl _)
  have hC0 := h.grow (below_alloc w (.cells #[] 3))
  have hG0 := World.grownBy_alloc w (.cells #[] 3) (some g)
  clear h
  go_enter Try.func61, Try.ntmps61
  go_wp2_with fail
  refine (size_any g A n c m 9 _ hC0 hn (by omega) (by omega)).mono ?_
  rintro e w1 ⟨r, rfl, hr, hC1, hG1⟩
  have row1 := owns_far rowE hG1 (owns_lt rowE hgl)
  have hG := grownBy_trans hG0 hG1
  clear rowE hC0 hG0 hG1
  go_wp2
  go_loopw [3, 4] (fun s3 s4 wr => ∃ (j : Nat) (ts : List Int) (A6 : Option Addr) (c6 : Nat), j ≤ 9 ∧ s4 = .int .i64 (j : Int) ∧ s3 = .slice A6 ts.length c6 ∧ ts.length + j ≤ 9 ∧ Hid (∀ x ∈ ts, I64 x) ∧
    wr.ownsRow w.heap.size 3 1 (.slice A6 ts.length c6) ts.length (iz ts) ∧ Cur wr g A n c (m + 1 + 5 * (9 - j)) ∧ w.grownBy wr (some g)) (fun _ s4 _ => (intOf s4).toNat)
  case atStart => exact ⟨r, [], _, _, hr, rfl, rfl, by simp; omega, Lib.hid (fun x hx => by cases hx), row1, hC1.more (by omega), hG⟩
  case round =>
    clear row1 hC1 hG hr
    obtain ⟨j, ts, A6, c6, hj, rfl, rfl, hts, hI, hrow, hC, hG⟩ := hrel
    by_cases hj0 : 0 < j
    · go_wp2_with fail
      refine (pick_any g A n c (m + 1 + 5 * (9 - j)) 20 _ hC hn (by omega) (by omega) (by omega)).mono ?_
      rintro e w2 ⟨r2, rfl, hr2, hC2, hG2⟩
      go_wp2_with fail
      refine (pick_any g A n c _ 20 _ hC2 hn (by omega) (by omega) (by omega)).mono ?_
      rintro e w3 ⟨r3, rfl, hr3, hC3, hG3⟩
      go_wp2_with fail
      refine (raw_any g A n c _ _ hC3 hn (by omega)).mono ?_
      rintro e w4 ⟨z, rfl, hz1, hz2, hC4, hG4⟩
      have hC4l := hC4.lt
      have hG5 := grownBy_trans (grownBy_trans hG2 hG3) hG4
      clear hC2 hC3 hG2 hG3 hG4
      go_wp2_with fail
      refine (pick_any g A n c _ 3 _ (hC4.grow (below_alloc _ _)) hn (by omega) (by omega) (by omega)).mono ?_
      rintro e w5 ⟨r5, rfl, hr5, hC5, hG6⟩
      have hL := own_far (Own.new w4 3 (iz [(r2 : Int) - 5, (r3 : Int) - 5, z])) hG6 (by omega)
      obtain ⟨v, hv, hvm⟩ := iz_pick (zs := [(r2 : Int) - 5, (r3 : Int) - 5, z]) (r := r5) (by simp only [List.length_cons, List.length_nil]; omega)
      have hcell : w5.cell? ⟨w4.heap.size, r5, none⟩ = some (.int .i64 v) := (hL.cell r5).trans hv
      have hv64 : I64 v := i64_three hvm (by unfold I64; omega) (by unfold I64; omega) ⟨hz1, hz2⟩
      have hG7 := grownBy_trans hG5 (grownBy_trans (World.grownBy_alloc _ _ _) hG6)
      have hrow7 := owns_far hrow hG7 (owns_lt hrow hgl)
      have hG8 := grownBy_trans hG hG7
      have HL1 : Hid (ts.length + 1 ≤ 2097152) := Lib.hid (by omega)
      have hsz := hG8.size
      have hjm : ((j : Int) - 1) = ((j - 1 : Nat) : Int) := by omega
      have hI8 := Lib.hid (i64_snoc hI.out hv64)
      have hC8 := hC5.more (m' := m + 1 + 5 * (9 - (j - 1))) (by omega)
      have hC8l := hC8.lt
      clear hL hv hvm hG5 hG6 hG7 hC4 hC5 hC hrow hI hv64 hG
      go_wp2_with (at_builtin; refine appInt.own rfl _ (.tmp 26) rfl w.heap.size (.slice A6 ts.length c6) ts.length (iz ts) rfl (hrow7.alloc _) w5.heap.size 1 1 [.int .i64 v] rfl (Own.new w5 _ _) rfl (iz_one [v]) HL1 (by simp; omega) ?_)
      intro A8 c8 w8 hown8 hgrow8 hb8
      have hrow8 : w8.ownsRow w.heap.size 3 1 (.slice A8 (ts.length + 1) c8) (ts.length + 1) (iz (ts ++ [v])) := owns_as hown8 (iz_append ts [v]).symm
      have hC9 : Cur w8 g A n c (m + 1 + 5 * (9 - (j - 1))) := cur_low (hC8.grow (below_alloc w5 (.cells #[.int .i64 v] 3))) hb8 hgl
      have hG9 := low_grown (grownBy_trans hG8 (World.grownBy_alloc w5 (.cells #[.int .i64 v] 3) (some g))) hb8
      clear hrow7 hown8 hgrow8 hC8 hG8 hb8 hcell
      go_wp2
      go_roundw
      case rel => exact ⟨j - 1, ts ++ [v], A8, c8, by omega, by go_num, by simp, by simp; omega, hI8, by simpa using hrow8, hC9, hG9⟩
      case measure => simp [intOf]; omega
    · obtain rfl : j = 0 := by omega
      go_wp2
      go_ret
      exact ⟨ts, A6, c6, rfl, by omega, hI.out, hrow, hC.more (by omega), hG⟩

set_option maxHeartbeats 1000000 in
theorem drawAggOf_any (A : Option Addr) (n c : Nat) (w : World) (hA : Byt w A n w.heap.size) (hn : n ≤ 1048576) :
    Calls Try.prog 37 #[.slice A n c] w fun e w' => ∃ (ts : List Int) (A' : Option Addr) (c' : Nat), e = .returned (.slice A' ts.length c') ∧ ts.length ≤ 9 ∧ (∀ x ∈ ts, I64 x) ∧
      w'.ownsRow w.heap.size 3 1 (.slice A' ts.length c') ts.length (iz ts) ∧ Below w.heap.size w w' := by
  go_enter Try.func37, Try.ntmps37
  go_wp2_with fail
  refine (l01Open_any A n c _ hA hn).mono ?_
  rintro e w1 ⟨g, hg, rfl, hC, hB1⟩
  go_wp2_with fail
  refine (values_any g A n c 0 _ hC hn (by omega)).mono ?_
  rintro e w2 ⟨ts, A', c', rfl, hl, h64, hrow, hC2, hG⟩
  have hb := below_draw hB1 hG hg
  replace hrow := owns_base hrow hB1.size
  clear hC hC2 hG hB1
  go_wp2
  go_ret
  exact ⟨ts, A', c', rfl, hl, h64, hrow, hb⟩

set_option maxHeartbeats 400000 in
theorem numbers_any (A : Option Addr) (n c : Nat) (w : World) (hA : Byt w A n w.heap.size) (hn : n ≤ 1048576) :
    Calls Try.prog 12 #[.slice A n c] w fun e w' => ∃ (ts : List Int) (A' : Option Addr) (c' : Nat), e = .returned (.slice A' ts.length c') ∧ ts.length ≤ 9 ∧ (∀ x ∈ ts, I64 x) ∧
      w'.ownsRow w.heap.size 3 1 (.slice A' ts.length c') ts.length (iz ts) ∧ Below w.heap.size w w' := by
  go_enter Try.func12, Try.ntmps12
  go_wp2_with fail
  refine (drawAggOf_any A n c _ hA hn).mono ?_
  rintro e w1 ⟨ts, A', c', rfl, hl, h64, hrow, hb⟩
  go_wp2
  go_ret
  exact ⟨ts, A', c', rfl, hl, h64, hrow, hb⟩

set_option maxHeartbeats 400000 in
theorem bigN_any (A : Option Addr) (n c : Nat) (b : Bool) (w : World) (hb : decide (1048576 < n) = b) (hn : n ≤ 9223372036854775807) :
    Calls Try.prog 11 #[.slice A n c] w fun e w' => e = .returned (.bool b) ∧ w = w' := by
  go_enter Try.func11, Try.ntmps11
  go_wp2
  go_ret
  exact ⟨ret_bool (by rw [← hb]; simp; omega), rfl⟩
theorem add_twice (a : Addr) (i j : Nat) : (a.add i).add j = a.add (i + j) := by
  unfold Addr.add
  repeat' split
  all_goals simp_all <;> omega
set_option maxHeartbeats 1000000 in
theorem restN_any (A : Option Addr) (n c : Nat) (w : World) (hA : Byt w A n w.heap.size) (hn : n ≤ 1048576) (hc : n ≤ c) :
    Calls Try.prog 13 #[.slice A n c] w fun e w' => ∃ A' c', e = .returned (.slice A' (n - n / 2) c') ∧ w = w' ∧ Byt w A' (n - n / 2) w.heap.size := by
  go_enter Try.func13, Try.ntmps13
  go_wp2
  · have h0 : n = 0 := by omega
    subst h0
    go_ret
    exact ⟨A, ⟨0, rfl⟩, rfl, fun k hk => by omega⟩
  · go_ret
    refine ⟨_, ⟨_, rfl⟩, rfl, fun k hk => ?_⟩
    obtain ⟨ad, b, rfl, hl, hb, hcc⟩ := hA (n / 2 + k) (by omega)
    exact ⟨ad.add (n / 2), b, rfl, by rw [add_block]; exact hl, hb, by rw [add_twice]; exact hcc⟩
end Go.Proofs.Ytkaghdkehkjdoaa
