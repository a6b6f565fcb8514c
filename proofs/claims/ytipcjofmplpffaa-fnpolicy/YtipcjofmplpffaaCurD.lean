/-
  The cursor's badLat.
-/
import Derived.Test.YtipcjofmplpffaaCurC
import Derived.Maps.AppendAt
import Derived.Deep.RegionWith
namespace Go.Proofs.Ytipcjofmplpffaa
open Go.RowKit

/-- Some lattice of at most 9 rows, valid or not, in memory of its own. -/
def LatAny (w : World) (base g : Nat) (v : Value) (N : Int) (xs : List Nat) : Prop :=
  U64 xs ∧ xs.length ≤ 9 ∧ ∃ r, v = .agg #[.int .i64 N, r] ∧ w.ownsRow base 81 1 r xs.length (us xs) ∧ r.ownBlock ≠ some g

theorem LatP.u64 {N : Int} {xs : List Nat} (h : LatP N xs) : U64 xs := fun a ha => by
  have h1 := h.2.1 a ha
  have h2 : 2 ^ xs.length ≤ 2 ^ 16 := Nat.pow_le_pow_right (by omega) h.len.2.2
  omega

def sel3 (r : Nat) (x y z : Int) : Int := if r = 0 then x else if r = 1 then y else z
theorem sel3_at {r : Nat} {x y z : Int} (h : (r : Int) < 3) : [Value.int .i64 x, .int .i64 y, .int .i64 z][r]? = some (.int .i64 (sel3 r x y z)) := by
  have : r = 0 ∨ r = 1 ∨ r = 2 := by omega
  rcases this with rfl | rfl | rfl <;> rfl
theorem lit3_far {w w' : World} {g h r : Nat} {t : TypeId} {x y z : Int} (ho : Own w h t [.int .i64 x, .int .i64 y, .int .i64 z]) (hg : w.grownBy w' (some g)) (hne : g < h) (hr : (r : Int) < 3) : w'.cell? ⟨h, r, none⟩ = some (.int .i64 (sel3 r x y z)) :=
  ((own_far ho hg (by omega)).cell r).trans (sel3_at hr)
theorem arr3_at {r : Nat} (h : (r : Int) < 3) : ∀ x y z : Int, (#[Value.int .i64 x, .int .i64 y, .int .i64 z] : Array Value)[r]? = some (.int .i64 (sel3 r x y z)) := fun x y z => by
  have : r = 0 ∨ r = 1 ∨ r = 2 := by omega
  rcases this with rfl | rfl | rfl <;> rfl
theorem lit3_new (w : World) (r : Nat) (hr : (r : Int) < 3) : ∀ (t : TypeId) (x y z : Int), (w.alloc (.cells #[.int .i64 x, .int .i64 y, .int .i64 z] t)).cell? ⟨w.heap.size, r, none⟩ = some (.int .i64 (sel3 r x y z)) := fun t x y z =>
  ((Own.new w t [.int .i64 x, .int .i64 y, .int .i64 z]).cell r).trans (sel3_at hr)

theorem row_form {w : World} {base : Nat} {t : TypeId} {R : Option Addr} {n cR : Nat} {cs : List Value} (h : w.ownsRow base t 1 (.slice R n cR) n cs) (hn : 0 < n) : ∃ gr, R = some ⟨gr, 0, none⟩ := by
  rcases h.2 with ⟨_, h0⟩ | ⟨g, cap, cur, hv, _⟩
  · omega
  · simp only [Value.slice.injEq, true_and] at hv
    exact ⟨g, hv.1⟩

/-- badLat's memory: the result's box, l's box bx, and l's row. -/
structure Bad (w W : World) (bx g : Nat) (A : Option Addr) (n c M : Nat) (N : Int) (R : Option Addr) (k cR : Nat) (xs : List Nat) : Prop where
  b0 : Own W w.heap.size 26 [.int .i64 0, .slice none 0 0]
  box : Own W bx 26 [.int .i64 N, .slice R k cR]
  row : W.ownsRow (w.heap.size + 1) 81 1 (.slice R k cR) k (us xs)
  len : k = xs.length
  rx : (Value.slice R k cR).ownBlock ≠ some bx
  rg : (Value.slice R k cR).ownBlock ≠ some g
  cur : Cur W g A n c M
  gr : w.grownBy W (some g)
  hbx : w.heap.size < bx
  hg : g < w.heap.size
section
variable {w W W' : World} {bx g n c M M' k cR : Nat} {A R : Option Addr} {N : Int} {xs : List Nat}
theorem Bad.far (h : Bad w W bx g A n c M N R k cR xs) (hg : W.grownBy W' (some g)) (hC : Cur W' g A n c M') : Bad w W' bx g A n c M' N R k cR xs :=
  ⟨own_far h.b0 hg (by have := h.hg; omega), own_far h.box hg (by have := h.hg; have := h.hbx; omega), owns_far h.row hg h.rg, h.len, h.rx, h.rg, hC, grownBy_trans h.gr hg, h.hbx, h.hg⟩
theorem Bad.grow (h : Bad w W bx g A n c M N R k cR xs) (hb : Below W.heap.size W W') : Bad w W' bx g A n c M N R k cR xs :=
  h.far (grownBy_of hb _) (h.cur.grow hb)
theorem Bad.setN (h : Bad w W bx g A n c M N R k cR xs) (N' : Int) : Bad w (W.setCell ⟨bx, 0, none⟩ (.int .i64 N')) bx g A n c M N' R k cR xs := by
  have h1 := h.hbx
  have h2 := h.hg
  refine ⟨h.b0.far (by show w.heap.size ≠ bx; omega) _, ?_, owns_far h.row (only_set (World.grownBy.refl _ _)) h.rx, h.len, h.rx, h.rg, h.cur.set (by show g < bx; omega) _, grown_set h.gr (by show w.heap.size ≤ bx; omega) _, h1, h2⟩
  have := h.box.set 0 (.int .i64 N')
  simpa using this
theorem Bad.setUp (h : Bad w W bx g A n c M N R k cR xs) {R' : Option Addr} {k' cR' : Nat} {xs' : List Nat} (hr : W.ownsRow (w.heap.size + 1) 81 1 (.slice R' k' cR') k' (us xs')) (hl : k' = xs'.length) (hx : (Value.slice R' k' cR').ownBlock ≠ some bx) (hg : (Value.slice R' k' cR').ownBlock ≠ some g) :
    Bad w (W.setCell ⟨bx, 1, none⟩ (.slice R' k' cR')) bx g A n c M N R' k' cR' xs' := by
  have h1 := h.hbx
  have h2 := h.hg
  refine ⟨h.b0.far (by show w.heap.size ≠ bx; omega) _, ?_, owns_far hr (only_set (World.grownBy.refl _ _)) hx, hl, hx, hg, h.cur.set (by show g < bx; omega) _, grown_set h.gr (by show w.heap.size ≤ bx; omega) _, h1, h2⟩
  have := h.box.set 1 (.slice R' k' cR')
  simpa using this
theorem Bad.app (h : Bad w W bx g A n c M N R k cR xs) {R' : Option Addr} {k' cR' : Nat} {xs' : List Nat} (hG : W.grownBy W' (Value.slice R k cR).ownBlock) (hr : W'.ownsRow (w.heap.size + 1) 81 1 (.slice R' k' cR') k' (us xs')) (hl : k' = xs'.length)
    (hw : (Value.slice R' k' cR').ownBlock = (Value.slice R k cR).ownBlock ∨ (Value.slice R' k' cR').ownBlock = some W.heap.size) :
    Bad w (W'.setCell ⟨bx, 1, none⟩ (.slice R' k' cR')) bx g A n c M N R' k' cR' xs' := by
  have h1 := h.hbx
  have h2 := h.hg
  have hx : (Value.slice R' k' cR').ownBlock ≠ some bx := by
    rcases hw with e | e <;> rw [e]
    · exact h.rx
    · have := h.box.lt; simp; omega
  have hgx : (Value.slice R' k' cR').ownBlock ≠ some g := by
    rcases hw with e | e <;> rw [e]
    · exact h.rg
    · have := h.cur.lt; simp; omega
  have hb0 : Own W' w.heap.size 26 [.int .i64 0, .slice none 0 0] := (hG.block w.heap.size h.b0.lt (fun e => owns_lt h.row (by omega) e.symm)).trans h.b0
  have hbx : Own W' bx 26 [.int .i64 N, .slice R k cR] := (hG.block bx h.box.lt (fun e => h.rx e.symm)).trans h.box
  have hcur : Cur W' g A n c M := by
    obtain ⟨i, s, ho, hi, hs⟩ := h.cur.ex
    exact ⟨⟨i, s, (hG.block g h.cur.lt (fun e => h.rg e.symm)).trans ho, hi, hs⟩, h.cur.byt.below ((Below.refl g W).grown hG (Nat.le_of_lt h.cur.lt) (fun k e => by have := (h.row.lt k e).1; omega))⟩
  have hgr : w.grownBy W' (some g) := ⟨hG.os.trans h.gr.os, hG.tape.trans h.gr.tape, hG.output.trans h.gr.output, Nat.le_trans h.gr.size hG.size, fun i hi hne => (hG.block i (Nat.lt_of_lt_of_le hi h.gr.size) (fun e => owns_lt h.row (by omega) e.symm)).trans (h.gr.block i hi hne)⟩
  refine ⟨hb0.far (by show w.heap.size ≠ bx; omega) _, ?_, owns_far hr (only_set (World.grownBy.refl _ _)) hx, hl, hx, hgx, hcur.set (by show g < bx; omega) _, grown_set hgr (by show w.heap.size ≤ bx; omega) _, h1, h2⟩
  have := hbx.set 1 (.slice R' k' cR')
  simpa using this
theorem Bad.put {gr : Nat} (h : Bad w W bx g A n c M N (some ⟨gr, 0, none⟩) k cR xs) (j v : Nat) : Bad w (W.setCell ⟨gr, j, none⟩ (.int .u64 (v : Int))) bx g A n c M N (some ⟨gr, 0, none⟩) k cR (xs.set j v) := by
  have h1 := h.hbx
  have h2 := h.hg
  have h3 := (h.row.lt gr rfl).1
  obtain ⟨r1, r2⟩ := h.row.stored j (.int .u64 (v : Int))
  have hne : gr ≠ bx := fun e => h.rx (by rw [← e]; rfl)
  refine ⟨h.b0.far (by show w.heap.size ≠ gr; omega) _, h.box.far (by show bx ≠ gr; omega) _, by rw [← us_set]; exact r1, by simpa using h.len, h.rx, h.rg, h.cur.set (by show g < gr; omega) _, grown_set h.gr (by show w.heap.size ≤ gr; omega) _, h1, h2⟩
theorem u64_set {xs : List Nat} (h : U64 xs) {j v : Nat} (hv : v < 18446744073709551616) : U64 (xs.set j v) := fun a ha => by
  simp only [List.length_set] at ha
  have := h.at a
  unfold row at this ⊢
  by_cases e : j = a
  · subst e; simp [ha, hv]
  · simpa [List.getElem?_set, e] using this
theorem u64_app {xs : List Nat} (h : U64 xs) {v : Nat} (hv : v < 18446744073709551616) : U64 (xs ++ [v]) := fun a ha => by
  simp only [List.length_append, List.length_cons, List.length_nil] at ha
  have := h.at a
  unfold row at this ⊢
  by_cases e : a < xs.length
  · simpa [List.getElem?_append, e] using this
  · obtain rfl : a = xs.length := by omega
    simp [hv]
/-- what is handed back -/
theorem Bad.ret (h : Bad w W bx g A n c M N R k cR xs) (hu : U64 xs) (hl : k ≤ 9) (hM : M ≤ M') :
    let W2 := (W.setCell ⟨w.heap.size, 0, none⟩ (.int .i64 N)).setCell ⟨w.heap.size, 1, none⟩ (.slice R k cR)
    (W2.cell? ⟨w.heap.size, 0, none⟩ = some (.int .i64 N) ∧ W2.cell? ⟨w.heap.size, 1, none⟩ = some (.slice R k cR)) ∧
      (LatAny W2 w.heap.size g (.agg #[.int .i64 N, .slice R k cR]) N xs ∧ Cur W2 g A n c M' ∧ w.grownBy W2 (some g)) := by
  have h1 := h.hbx
  have h2 := h.hg
  have hE := (h.b0.set 0 (.int .i64 N)).set 1 (.slice R k cR)
  simp only [List.set_cons_succ, List.set_cons_zero] at hE
  have hlt := owns_lt h.row (g := w.heap.size) (by omega)
  refine ⟨hE.two, ⟨hu, by have := h.len; omega, _, rfl, ?_, h.rg⟩, ?_, ?_⟩
  · rw [← h.len]
    exact owns_base (owns_far (owns_far h.row (only_set (World.grownBy.refl W _)) hlt) (only_set (World.grownBy.refl _ _)) hlt) (by omega)
  · exact (((h.cur.more hM).set (p := ⟨w.heap.size, 0, none⟩) h2 _).set (p := ⟨w.heap.size, 1, none⟩) h2 _)
  · exact grown_set (p := ⟨w.heap.size, 1, none⟩) (grown_set (p := ⟨w.heap.size, 0, none⟩) h.gr (Nat.le_refl _) _) (Nat.le_refl _) _
end

set_option maxHeartbeats 4000000 in
set_option maxRecDepth 100000 in
theorem badLat_any (g : Nat) (A : Option Addr) (n c m : Nat) (w : World) (h : Cur w g A n c m) (hn : n ≤ 1048576) (hm : m ≤ 1099511620000) :
    Calls Try.prog 40 #[.pointer (some ⟨g, 0, none⟩)] w fun e w' => ∃ v N xs, e = .returned v ∧ LatAny w' w.heap.size g v N xs ∧ Cur w' g A n c (m + 6) ∧ w.grownBy w' (some g) := by
  have hlt := h.lt
  go_enter Try.func40, Try.ntmps40
  go_wp2_with fail
  refine (lat_any g A n c m _ (h.grow (by first | exact below_alloc _ _ | exact below_trans (below_alloc _ _) (below_alloc _ _))) hn (by omega)).mono ?_
  rintro e w1 ⟨v, N, xs, rfl, ⟨hL, hx8, rr, rfl, hrow, hrg⟩, hC, hG⟩
  obtain ⟨R, cR, rfl, right⟩ := owns_rd hrow
  have hx1 := hL.len.2.1
  have hu := hL.u64
  have hN : 1 ≤ N ∧ N ≤ 16 := ⟨hL.1.1, hL.1.2.1⟩
  have hbad1 : Bad w (w1.alloc (.cells #[.int .i64 N, .slice R xs.length cR] 26)) w1.heap.size g A n c (m + 1) N R xs.length cR xs := by
    refine ⟨(own_far (Own.new w 26 [.int .i64 0, .slice none 0 0]) hG (by omega)).alloc _, Own.new w1 _ _, ?_, rfl, fun he => ?_, hrg, hC.grow (below_alloc _ _), grownBy_trans (grownBy_trans (World.grownBy_alloc w _ _) hG) (World.grownBy_alloc _ _ _), ?_, hlt⟩
    · have := hrow.alloc (.cells #[.int .i64 N, .slice R xs.length cR] 26)
      simpa using this
    · have := (hrow.lt _ he).2; omega
    · have := hG.size; simp at this; omega
  clear hrow hG hC hL hrg h right
  go_wp2_with fail
  refine (pick_any g A n c (m + 1) 12 _ hbad1.cur hn (by omega) (by omega) (by omega)).mono ?_
  rintro e w2 ⟨r, rfl, hr, hC2, hG2⟩
  have hbad := hbad1.far hG2 hC2
  clear hbad1 hC2 hG2 hr
  generalize w1.heap.size = bx at hbad ⊢
  generalize hk : xs.length = k at *
  have Hk := Lib.hid hk
  clear hk
  obtain ⟨c0, c1⟩ := hbad.box.two
  obtain ⟨d0, d1⟩ := hbad.b0.two
  have df0 := hbad.b0.free 0
  have df1 := hbad.b0.free 1
  have bf0 := hbad.box.free 0
  have bf1 := hbad.box.free 1
  have HB := Lib.hid hbad
  clear hbad
  by_cases h0 : r = 0
  · subst h0
    go_wp2_with fail
    clear c1 d0 d1 df0 df1 bf1
    obtain ⟨hN1, hN2⟩ := hN
    go_region_with (first
        | (go_at_call 60; refine (raw_any g A n c (m + 1 + 1) _ (HB.out.cur.grow (Below.refl _ _).drew) hn (by omega)).mono ?_; rintro e w3 ⟨x, rfl, hx1, hx2, hC3, hG3⟩; have hb3 := Lib.hid (HB.out.far (grown_trans (grownBy_of (Below.refl _ _).drew _) hG3) hC3); have k3 := hb3.out.box.two.1)
        | (go_at_call 61; refine (pick_any g A n c (m + 1 + 1 + 2) 3 _ (by first | exact hC3 | exact hC3.grow (below_alloc _ _)) hn (by omega) (by omega) (by omega)).mono ?_; rintro e w4 ⟨r3, rfl, hr3, hC4, hG4⟩; (try (have hlit := lit3_far (Own.new w3 _ _) hG4 hC3.lt hr3)); have hlit' := arr3_at (r := r3) hr3; have hlit'' := fun x y z => sel3_at (x := x) (y := y) (z := z) hr3; have hb4 : Hid (Bad w w4 bx g A n c (m + 1 + 1 + 2 + 1) N R k cR xs) := Lib.hid (by first | exact hb3.out.far hG4 hC4 | exact (hb3.out.grow (below_alloc _ _)).far hG4 hC4); have k4 := hb4.out.box.two.1; have kf4 := hb4.out.box.free 0; have k5 := fun o => (hb4.out.box.alloc o).two.1; have k6 := fun o => (hb4.out.box.alloc o).free 0; have hne4 := World.new_ne w4 _ k4; have hne5 : bx ≠ w4.heap.size := Nat.ne_of_lt hb4.out.box.lt))
    all_goals
      generalize sel3 _ _ _ _ = V
      first
        | (have hq : ∃ o, (w3.alloc o).grownBy w4 (some g) := ⟨_, hG4⟩
           clear hq
           generalize e5 : (w4.setCell ⟨bx, 0, none⟩ (.int .i64 V)) = W5
           have hB5 : Bad w W5 bx g A n c (m + 1 + 1 + 2 + 1) V R k cR xs := e5 ▸ hb4.out.setN V)
        | (generalize e5 : (((w4.alloc (.cells #[.int .i64 x, .int .i64 (IntKind.i64.wrap (N + 1)), .int .i64 (IntKind.i64.wrap (N - 1))] 3)).setCell ⟨bx, 0, none⟩ (.int .i64 V)) : World) = W5
           have hB5 : Bad w W5 bx g A n c (m + 1 + 1 + 2 + 1) V R k cR xs := e5 ▸ (hb4.out.grow (below_alloc _ _)).setN V)
      clear e5 k4 kf4 k5 k6 hne4 hne5 hlit' hlit'' hb4 hb3 k3 hG4 hG3 hC4 hC3 HB c0 bf0
      obtain ⟨c0, c1⟩ := hB5.box.two
      obtain ⟨d0, d1⟩ := hB5.b0.two
      have df0 := hB5.b0.free 0
      have df1 := hB5.b0.free 1
      have HB5 := Lib.hid hB5
      clear hB5
      go_wp2
      obtain ⟨⟨e0, e1⟩, hfin⟩ := HB5.out.ret (M' := m + 6) hu (by omega) (by omega)
      exact bodyPost_ret (v := .agg #[.int .i64 V, .slice R k cR]) (by simp [results, Try.results40, go_sem, e0, e1]) rfl ⟨_, _, _, rfl, hfin⟩
  by_cases h1 : r = 1
  · subst h1
    obtain ⟨gr, rfl⟩ := row_form HB.out.row (by omega)
    go_wp2_with fail
    go_region_with (first
        | (go_at_call_of 61 (Value.int .i64 256); refine (pick_any g A n c (m + 1 + 1 + 1) 256 _ hC3 hn (by omega) (by omega) (by omega)).mono ?_; rintro e w4 ⟨r4, rfl, hr4, hC4, hG4⟩; have hb4 := Lib.hid (hb3.out.far hG4 hC4); have k4 := hb4.out.box.two.2; have k5 : w4.cell? ⟨gr, r3, none⟩ = some (.int .u64 (row xs r3 : Int)) := (hb4.out.row.cellAt r3 (by omega)).trans (us_row (by rw [Hk.out]; omega)); have k6 := hb4.out.row.frozenAt r3)
        | (go_at_call 61; refine (pick_any g A n c (m + 1 + 1) (k : Int) _ (HB.out.cur.grow (Below.refl _ _).drew) hn (by omega) (by omega) (by omega)).mono ?_; rintro e w3 ⟨r3, rfl, hr3, hC3, hG3⟩; have hb3 := Lib.hid (HB.out.far (grown_trans (grownBy_of (Below.refl _ _).drew _) hG3) hC3); have k3 := hb3.out.box.two.2))
    all_goals
      have hwr : IntKind.u64.wrap (r4 : Int) = (r4 : Int) := by rw [IntKind.wrap_u64]; omega
      rw [hwr]
      generalize e5 : (w4.setCell ⟨gr, r3, none⟩ (.int .u64 (r4 : Int))) = W5
      have hB5 : Bad w W5 bx g A n c (m + 1 + 1 + 1 + 1) N (some ⟨gr, 0, none⟩) k cR (xs.set r3 r4) := e5 ▸ hb4.out.put r3 r4
      clear e5 k4 k5 k6 hb4 hb3 k3 hG4 hG3 hC4 hC3 HB c0 c1 d0 d1 df0 df1 bf0 bf1 hwr
      obtain ⟨c0, c1⟩ := hB5.box.two
      obtain ⟨d0, d1⟩ := hB5.b0.two
      have df0 := hB5.b0.free 0
      have df1 := hB5.b0.free 1
      have HB5 := Lib.hid hB5
      clear hB5
      go_wp2
      obtain ⟨⟨e0, e1⟩, hfin⟩ := HB5.out.ret (M' := m + 6) (u64_set hu (by omega)) (by omega) (by omega)
      exact bodyPost_ret (v := .agg #[.int .i64 N, .slice (some ⟨gr, 0, none⟩) k cR]) (by simp [results, Try.results40, go_sem, e0, e1]) rfl ⟨_, _, _, rfl, hfin⟩
  by_cases h2 : r = 2
  · subst h2
    obtain ⟨i0, hi, hz0, hz1', hz2⟩ := info_parts info_u64
    have HI := Lib.hid hi
    have HZ0 := Lib.hid hz0
    have HZ1 := Lib.hid hz1'
    have HZ2 := Lib.hid hz2
    clear hi hz0 hz1' hz2
    have hsz := HB.out.gr.size
    have hrow := HB.out.row
    have hbl := HB.out.box.lt
    have hb1 := HB.out.hbx
    go_wp2_with (at_builtin; refine wpList_append_own_at _ rfl _ _ 24 rfl (w.heap.size + 1) 81 i0 (.int .u64 0) 1 8 Try.underlying24 HI.out HZ0.out HZ1.out HZ2.out rfl (by decide) _ _ _ rfl (hrow.alloc _) ⟨w2.heap.size, 0, none⟩ 1 1 [.int .u64 1] rfl rfl ?c1 ?c2 ?c3 ?c4 ?c5 ?_)
    case c1 =>
      intro j u hj
      match j, hj with
      | 0, hj => simp at hj; subst hj; simp [Addr.add]
    case c2 => intro u hu'; simp at hu'; subst hu'; rfl
    case c3 => unfold maxLen; omega
    case c4 => omega
    case c5 => simp; omega
    intro v' w3 hrow' hgrow _ hwh
    obtain ⟨R', c', rfl, _⟩ := owns_rd hrow'
    have hB4 := (HB.out.grow (below_alloc w2 (.cells #[.int .u64 1] 81))).app (xs' := xs ++ [1]) hgrow (by simpa [us] using hrow') (by simp; rw [Hk.out]) (by simpa using hwh)
    have hbx3 : Own w3 bx 26 [.int .i64 N, .slice R k cR] := (hgrow.block bx (by simp; omega) (fun e => HB.out.rx e.symm)).trans (HB.out.box.alloc _)
    have hb03 : Own w3 w.heap.size 26 [.int .i64 0, .slice none 0 0] := (hgrow.block w.heap.size (by simp; omega) (fun e => owns_lt hrow (by omega) e.symm)).trans (HB.out.b0.alloc _)
    have HB4 := Lib.hid hB4
    clear hB4 hrow' hgrow hwh hrow c0 c1 d0 d1 df0 df1 bf0 bf1
    obtain ⟨c0, c1⟩ := hbx3.two
    have bf1 := hbx3.free 1
    obtain ⟨d0, d1⟩ := hb03.two
    have df0 := hb03.free 0
    have df1 := hb03.free 1
    have hne1 : w.heap.size ≠ bx := by omega
    have hne2 : bx ≠ w.heap.size := by omega
    clear hbx3 hb03
    go_wp2
    obtain ⟨⟨e0, e1⟩, hfin⟩ := HB4.out.ret (M' := m + 6) (u64_app hu (by omega)) (by omega) (by omega)
    exact bodyPost_ret (v := .agg #[.int .i64 N, .slice R' (k + 1) c']) (by simp [results, Try.results40, go_sem, e0, e1]) rfl ⟨_, _, _, rfl, hfin⟩
  have e0 : ((r : Int) == 0) = false := by simp; omega
  have e1 : ((r : Int) == 1) = false := by simp; omega
  have e2 : ((r : Int) == 2) = false := by simp; omega
  go_wp2
  obtain ⟨⟨e0, e1⟩, hfin⟩ := HB.out.ret (M' := m + 6) hu (by omega) (by omega)
  exact bodyPost_ret (v := .agg #[.int .i64 N, .slice R k cR]) (by simp [results, Try.results40, go_sem, e0, e1]) rfl ⟨_, _, _, rfl, hfin⟩

end Go.Proofs.Ytipcjofmplpffaa
