/-
  What is drawn for the laws of 128-bit integers.
-/
import Derived.Test.YtkhboanlccfajaaDoorCurR
import Derived.Test.YtkhboanlccfajaaDoorWideA
import Derived.Deep.DeepCutAuto
import Derived.Deep.RegionWith
namespace Go.Proofs.YtkhboanlccfajaaDoor
open Go.RowKit

theorem big_any (A : Option Addr) (n c : Nat) (b : Bool) (w : World) (hb : decide (1048576 < n) = b) (hn : n ≤ 9223372036854775807) :
    Calls Tryd.prog 5 #[.slice A n c] w fun e w' => e = .returned (.bool b) ∧ w = w' := by
  go_enter Tryd.func5, Tryd.ntmps5
  go_wp2
  go_ret
  exact ⟨ret_bool (by rw [← hb]; simp; omega), rfl⟩

/-- The cursor has drawn a number. -/
def WideDrawn (w : World) (g : Nat) (A : Option Addr) (n c m : Nat) (e : Ending) (w' : World) : Prop := ∃ h l, e = .returned (.agg #[.int .i64 h, .int .u64 l]) ∧ I64 h ∧ U64w l ∧ Cur w' g A n c m ∧ w.grownBy w' (some g)

theorem Cur.set {W : World} {g n c m r j : Nat} {A : Option Addr} (h : Cur W g A n c m) (hr : g < r) (u : Value) : Cur (W.setCell ⟨r, j, none⟩ u) g A n c m := by
  obtain ⟨i, s, ho, hi, hs⟩ := h.ex
  exact ⟨⟨i, s, ho.far (by simp; omega) u, hi, hs⟩, h.byt.below ((Below.refl g W).setCell (by simp; omega) u)⟩
theorem grown_set {w W : World} {g r j : Nat} (h : w.grownBy W (some g)) (hr : w.heap.size ≤ r) (u : Value) : w.grownBy (W.setCell ⟨r, j, none⟩ u) (some g) :=
  ⟨h.os, h.tape, h.output, by simpa using h.size, fun k hk hne => (Below.heap_setCell W ⟨r, j, none⟩ u k (by show k ≠ r; omega)).trans (h.block k hk hne)⟩

/-- How a drawn number stands in memory ahead of the return. -/
structure NumAt (w W : World) (g r v : Nat) (A : Option Addr) (n c m : Nat) (h l : Int) : Prop where
  cur : Cur W g A n c m
  res : ∃ a b, Own W r 26 [a, b]
  num : Own W v 26 [.int .i64 h, .int .u64 l]
  grown : w.grownBy W (some g)
  hi : I64 h
  lo : U64w l
theorem NumAt.more {w W : World} {g r v n c m m' : Nat} {A : Option Addr} {h l : Int} (k : NumAt w W g r v A n c m h l) (hm : m ≤ m') : NumAt w W g r v A n c m' h l := ⟨k.cur.more hm, k.res, k.num, k.grown, k.hi, k.lo⟩

set_option maxHeartbeats 1000000 in
theorem wideNum_any (g : Nat) (A : Option Addr) (n c m : Nat) (w : World) (h : Cur w g A n c m) (hn : n ≤ 1048576) (hm : m ≤ 1000000) :
    Calls Tryd.prog 19 #[.pointer (some ⟨g, 0, none⟩)] w (WideDrawn w g A n c (m + 10)) := by
  have hgw := h.lt
  go_enter Tryd.func19, Tryd.ntmps19
  go_wp2_with fail
  refine (raw_any g A n c m _ (h.grow (below_alloc _ _)) hn (by omega)).mono ?_
  rintro e w1 ⟨x, rfl, x1, x2, hC1, hG1⟩
  have oR := own_far (Own.new w 26 [.int .i64 0, .int .u64 0]) hG1 (by omega)
  have hG1' := grown_trans (World.grownBy_alloc w _ _) hG1
  clear hG1 h
  go_wp2_with fail
  refine (specWideOf_any x _ ⟨x1, x2⟩).mono ?_
  rintro e w2 ⟨rfl, hb2⟩
  replace oR := oR.grow hb2
  have hC2 := hC1.grow hb2
  have hG2 := only_grow hG1' hb2
  clear hC1 hG1' hb2
  go_wp2_with fail
  refine (pick_any g A n c (m + 2) 5 _ (hC2.grow (below_alloc _ _)) hn (by omega) (by omega) (by omega)).mono ?_
  rintro e w4 ⟨k, rfl, hk, hC4, hG4⟩
  have oV := own_far (Own.new w2 26 [.int .i64 (hi x), .int .u64 (lo x)]) hG4 (by have := hC2.lt; omega)
  have oR4 := own_far (oR.alloc (.cells #[.int .i64 (hi x), .int .u64 (lo x)] 26)) hG4 (by omega)
  have hG := grown_trans hG2 (grown_trans (World.grownBy_alloc w2 _ _) hG4)
  have hv : w.heap.size < w2.heap.size := oR.lt
  clear hG4 oR hC2 hG2
  generalize w2.heap.size = v at *
  have hvg : v ≠ g := by omega
  have hrg : w.heap.size ≠ g := by omega
  have HN := Lib.hid (show NumAt w w4 g w.heap.size v A n c (m + 3) (hi x) (lo x) from ⟨hC4, ⟨_, _, oR4⟩, oV, hG, hi_in x, lo_in x⟩)
  have HO := Lib.hid oR4
  clear oR4 hG
  obtain ⟨c0, c1⟩ := oV.two
  have hV := Lib.hid oV
  clear oV
  rcases (show k = 0 ∨ k = 1 ∨ k = 2 ∨ 3 ≤ k by omega) with rfl | rfl | rfl | hk3
  · go_wp2
    clear hk
    go_region_with (first
      | (go_at_call 20; refine (raw_any g A n c (m + 3) _ (HN.out.cur.grow (Below.refl _ _).drew) hn (by omega)).mono ?_; rintro e w5 ⟨y, rfl, y1, y2, hC5, hG5⟩; have hg5 := grown_trans (grownBy_of (Below.refl w4.heap.size w4).drew (some g)) hG5; have hV5 := Lib.hid (own_far hV.out hg5 hvg); have hO5 := Lib.hid (own_far HO.out hg5 hrg); have k0 := hV5.out.two.1; have k1 := hV5.out.two.2)
      | (go_at_call 29; refine (specWideOf_any y _ ⟨y1, y2⟩).mono ?_; rintro e w6 ⟨rfl, hb6⟩; have hV6 := Lib.hid (hV5.out.grow hb6); have l0 := hV6.out.two.1; have l1 := hV6.out.two.2)
      | (go_at_call 13; refine (specWideAdd_any _ _ _ _ x y _ rfl rfl rfl rfl).mono ?_; rintro e w7 ⟨rfl, hb7⟩; have hV7 := Lib.hid (hV6.out.grow hb7); have m0 := hV7.out.two.1; have m1 := hV7.out.two.2; have mf0 := hV7.out.free 0; have mf1 := hV7.out.free 1))
    all_goals
      have hg7 := only_grow (grown_trans HN.out.grown hg5) (below_trans hb6 hb7)
      have hv9 := own_set2 hV7.out (.int .i64 (hi (x + y))) (.int .u64 (lo (x + y)))
      have ho9 := ((((hO5.out.grow hb6).grow hb7).far (p := ⟨v, 0, none⟩) (by simp; omega) (.int .i64 (hi (x + y)))).far (p := ⟨v, 1, none⟩) (by simp; omega) (.int .u64 (lo (x + y))))
      have hc9 := (((hC5.grow (below_trans hb6 hb7)).set (j := 0) (show g < v by omega) (.int .i64 (hi (x + y)))).set (j := 1) (show g < v by omega) (.int .u64 (lo (x + y))))
      have hg9 := grown_set (j := 1) (grown_set (j := 0) hg7 (show w.heap.size ≤ v by omega) (.int .i64 (hi (x + y)))) (show w.heap.size ≤ v by omega) (.int .u64 (lo (x + y)))
      have hh9 := hi_in (x + y)
      have hl9 := lo_in (x + y)
      clear m0 m1 mf0 mf1 c0 c1 k0 k1
      try clear l0 l1
      revert hv9 ho9 hc9 hg9
      generalize (w7.setCell ⟨v, 0, none⟩ (.int .i64 (hi (x + y)))).setCell ⟨v, 1, none⟩ (.int .u64 (lo (x + y))) = w9
      intro hv9 ho9 hc9 hg9
      obtain ⟨p0, p1⟩ := hv9.two
      obtain ⟨r0, r1⟩ := ho9.two
      have rf0 := ho9.free 0
      have rf1 := ho9.free 1
      clear hv9 ho9
      go_wp2
      refine bodyPost_ret (v := .agg #[.int .i64 (hi (x + y)), .int .u64 (lo (x + y))]) (by simp [results, Tryd.results19, go_sem, r0, r1]) rfl ⟨_, _, rfl, hh9, hl9, ?_, ?_⟩
      · exact ((hc9.set hgw _).set hgw _).more (by omega)
      · exact grown_set (grown_set hg9 (Nat.le_refl _) _) (Nat.le_refl _) _
  · clear c0 c1 hk
    go_wp2_with fail
    refine (raw_any g A n c (m + 3) _ HN.out.cur hn (by omega)).mono ?_
    rintro e w5 ⟨y, rfl, y1, y2, hC5, hG5⟩
    have hV5 := own_far hV.out hG5 hvg
    have hO5 := own_far HO.out hG5 hrg
    have hg5 := grown_trans HN.out.grown hG5
    clear hG5
    go_wp2_with fail
    refine (pick_any g A n c (m + 3 + 2) 3 _ (hC5.grow (below_alloc _ _)) hn (by omega) (by omega) (by omega)).mono ?_
    rintro e w6 ⟨r, rfl, hr, hC6, hG6⟩
    have hL6 := own_far (Own.new w5 3 [.int .i64 y, .int .i64 0, .int .i64 (-1)]) hG6 (by have := hC5.lt; omega)
    have hV6 := own_far (hV5.alloc (.cells #[.int .i64 y, .int .i64 0, .int .i64 (-1)] 3)) hG6 hvg
    have hO6 := own_far (hO5.alloc (.cells #[.int .i64 y, .int .i64 0, .int .i64 (-1)] 3)) hG6 hrg
    have hg6 := grown_trans hg5 (grown_trans (World.grownBy_alloc w5 _ _) hG6)
    obtain ⟨z, hz, hz1⟩ : ∃ z, [Value.int .i64 y, .int .i64 0, .int .i64 (-1)][r]? = some (.int .i64 z) ∧ I64 z := by
      rcases (show r = 0 ∨ r = 1 ∨ r = 2 by omega) with rfl | rfl | rfl
      · exact ⟨y, rfl, y1, y2⟩
      · exact ⟨0, rfl, by unfold I64; omega⟩
      · exact ⟨-1, rfl, by unfold I64; omega⟩
    have hcell := (hL6.cell r).trans hz
    have hr3 : (r : Int) < 3 := hr
    have ff0 := hV6.free 0
    obtain ⟨q0, q1⟩ := hV6.two
    have hv9 : Own (w6.setCell ⟨v, 0, none⟩ (.int .i64 z)) v 26 [.int .i64 z, .int .u64 (lo x)] := by simpa using hV6.set 0 (.int .i64 z)
    have ho9 := hO6.far (p := ⟨v, 0, none⟩) (by simp; omega) (.int .i64 z)
    have hc9 := hC6.set (j := 0) (show g < v by omega) (.int .i64 z)
    have hg9 := grown_set (j := 0) hg6 (show w.heap.size ≤ v by omega) (.int .i64 z)
    have hh9 := hz1
    have hl9 := lo_in x
    clear hL6 hV5 hV6 hO5 hO6 hg5 hg6 hC5 hC6 hG6 hz hz1
    obtain ⟨p0, p1⟩ := hv9.two
    obtain ⟨r0, r1⟩ := ho9.two
    have rf0 := ho9.free 0
    have rf1 := ho9.free 1
    clear hv9 ho9
    go_wp2
    refine bodyPost_ret (v := .agg #[.int .i64 z, .int .u64 (lo x)]) (by simp [results, Tryd.results19, go_sem, r0, r1]) rfl ⟨_, _, rfl, hh9, hl9, ?_, ?_⟩
    · exact ((hc9.set hgw _).set hgw _).more (by omega)
    · exact grown_set (grown_set hg9 (Nat.le_refl _) _) (Nat.le_refl _) _
  · clear c0 c1 hk
    go_wp2_with fail
    refine (pick_any g A n c (m + 3) 4 _ (HN.out.cur.grow (below_alloc _ _)) hn (by omega) (by omega) (by omega)).mono ?_
    rintro e w6 ⟨r, rfl, hr, hC6, hG6⟩
    have hL6 := own_far (Own.new w4 24 [.int .u64 0, .int .u64 18446744073709551615, .int .u64 9223372036854775808, .int .u64 9223372036854775807]) hG6 (by have := HN.out.cur.lt; omega)
    have hV6 := own_far (hV.out.alloc (.cells #[.int .u64 0, .int .u64 18446744073709551615, .int .u64 9223372036854775808, .int .u64 9223372036854775807] 24)) hG6 hvg
    have hO6 := own_far (HO.out.alloc (.cells #[.int .u64 0, .int .u64 18446744073709551615, .int .u64 9223372036854775808, .int .u64 9223372036854775807] 24)) hG6 hrg
    have hg6 := grown_trans HN.out.grown (grown_trans (World.grownBy_alloc w4 _ _) hG6)
    obtain ⟨z, hz, hz1⟩ : ∃ z, [Value.int .u64 0, .int .u64 18446744073709551615, .int .u64 9223372036854775808, .int .u64 9223372036854775807][r]? = some (.int .u64 z) ∧ U64w z := by
      rcases (show r = 0 ∨ r = 1 ∨ r = 2 ∨ r = 3 by omega) with rfl | rfl | rfl | rfl
      · exact ⟨0, rfl, by unfold U64w; omega⟩
      · exact ⟨18446744073709551615, rfl, by unfold U64w; omega⟩
      · exact ⟨9223372036854775808, rfl, by unfold U64w; omega⟩
      · exact ⟨9223372036854775807, rfl, by unfold U64w; omega⟩
    have hcell := (hL6.cell r).trans hz
    have hr3 : (r : Int) < 4 := hr
    have ff1 := hV6.free 1
    obtain ⟨q0, q1⟩ := hV6.two
    have hv9 : Own (w6.setCell ⟨v, 1, none⟩ (.int .u64 z)) v 26 [.int .i64 (hi x), .int .u64 z] := by simpa using hV6.set 1 (.int .u64 z)
    have ho9 := hO6.far (p := ⟨v, 1, none⟩) (by simp; omega) (.int .u64 z)
    have hc9 := hC6.set (j := 1) (show g < v by omega) (.int .u64 z)
    have hg9 := grown_set (j := 1) hg6 (show w.heap.size ≤ v by omega) (.int .u64 z)
    have hh9 := hi_in x
    have hl9 := hz1
    clear hL6 hV6 hO6 hg6 hC6 hG6 hz hz1
    obtain ⟨p0, p1⟩ := hv9.two
    obtain ⟨r0, r1⟩ := ho9.two
    have rf0 := ho9.free 0
    have rf1 := ho9.free 1
    clear hv9 ho9
    go_wp2
    refine bodyPost_ret (v := .agg #[.int .i64 (hi x), .int .u64 z]) (by simp [results, Tryd.results19, go_sem, r0, r1]) rfl ⟨_, _, rfl, hh9, hl9, ?_, ?_⟩
    · exact ((hc9.set hgw _).set hgw _).more (by omega)
    · exact grown_set (grown_set hg9 (Nat.le_refl _) _) (Nat.le_refl _) _
  · have k0 : ((k : Int) == 0) = false := by simp; omega
    have k1 : ((k : Int) == 1) = false := by simp; omega
    have k2 : ((k : Int) == 2) = false := by simp; omega
    obtain ⟨r0, r1⟩ := HO.out.two
    have rf0 := HO.out.free 0
    have rf1 := HO.out.free 1
    go_wp2
    refine bodyPost_ret (v := .agg #[.int .i64 (hi x), .int .u64 (lo x)]) (by simp [results, Tryd.results19, go_sem, r0, r1]) rfl ⟨_, _, rfl, hi_in x, lo_in x, ?_, ?_⟩
    · exact ((HN.out.cur.set hgw _).set hgw _).more (by omega)
    · exact grown_set (grown_set HN.out.grown (Nat.le_refl _) _) (Nat.le_refl _) _
end Go.Proofs.YtkhboanlccfajaaDoor
