/-
  The cursor's lat.
-/
import Derived.Test.YtipcjofmplpffaaCurB
import Derived.Test.YtipcjofmplpffaaShapes
import Derived.Deep.RegionHeld3
namespace Go.Proofs.Ytipcjofmplpffaa
open Go.RowKit

/-- A valid lattice of at most 8 labels in memory of its own (a block from base on, not g). -/
def LatOwn (w : World) (base g : Nat) (v : Value) (N : Int) (xs : List Nat) : Prop :=
  LatP N xs ∧ xs.length ≤ 8 ∧ ∃ r, v = .agg #[.int .i64 N, r] ∧ w.ownsRow base 81 1 r xs.length (us xs) ∧ r.ownBlock ≠ some g

def latE (j : Nat) : Obj := .cells (ez (shape j)).toArray 100
def latSh (s : Nat) : List Value := (List.range 6).map fun j => Value.slice (some ⟨s + 1 + j, 0, none⟩) (shape j).length (shape j).length
def latSz : List Value := (List.range 6).map fun j => Value.int .i64 (shapeN j : Nat)
def latW (w : World) : World :=
  ((((((((w.alloc (.cells #[.int .i64 0, .slice none 0 0] 26)).alloc (latE 0)).alloc (latE 1)).alloc (latE 2)).alloc (latE 3)).alloc (latE 4)).alloc (latE 5)).alloc
    (.cells (latSh w.heap.size).toArray 98)).alloc (.cells latSz.toArray 3)
theorem own_at {w : World} {t : TypeId} {cs : List Value} {g : Nat} (h : g = w.heap.size) : Own (w.alloc (.cells cs.toArray t)) g t cs := h ▸ Own.new w t cs

/-- what lat's literals look like -/
structure LatW (w W : World) : Prop where
  b0 : Own W w.heap.size 26 [.int .i64 0, .slice none 0 0]
  es : ∀ j, j < 6 → Own W (w.heap.size + 1 + j) 100 (ez (shape j))
  sh : Own W (w.heap.size + 1 + 1 + 1 + 1 + 1 + 1 + 1) 98 (latSh w.heap.size)
  sz : Own W (w.heap.size + 1 + 1 + 1 + 1 + 1 + 1 + 1 + 1) 3 latSz
theorem latW_ok (w : World) : LatW w (latW w) := by
  refine ⟨?_, fun j hj => ?_, ?_, ?_⟩
  · exact ((((((((own_at rfl).alloc _).alloc _).alloc _).alloc _).alloc _).alloc _).alloc _).alloc _
  · match j, hj with
    | 0, _ => exact (((((((own_at (by simp)).alloc _).alloc _).alloc _).alloc _).alloc _).alloc _).alloc _
    | 1, _ => exact ((((((own_at (by simp)).alloc _).alloc _).alloc _).alloc _).alloc _).alloc _
    | 2, _ => exact (((((own_at (by simp)).alloc _).alloc _).alloc _).alloc _).alloc _
    | 3, _ => exact ((((own_at (by simp)).alloc _).alloc _).alloc _).alloc _
    | 4, _ => exact (((own_at (by simp)).alloc _).alloc _).alloc _
    | 5, _ => exact ((own_at (by simp)).alloc _).alloc _
  · exact (own_at (by simp)).alloc _
  · exact own_at (by simp)
theorem latW_below (w : World) : Below w.heap.size w (latW w) :=
  below_trans (below_trans (below_trans (below_trans (below_trans (below_trans (below_trans (below_trans (below_alloc _ _) (below_alloc _ _)) (below_alloc _ _)) (below_alloc _ _)) (below_alloc _ _)) (below_alloc _ _)) (below_alloc _ _)) (below_alloc _ _)) (below_alloc _ _)
theorem LatW.far {w W W' : World} {g : Nat} (h : LatW w W) (hg : W.grownBy W' (some g)) (hlt : g < w.heap.size) : LatW w W' :=
  ⟨own_far h.b0 hg (by omega), fun j hj => own_far (h.es j hj) hg (by omega), own_far h.sh hg (by omega), own_far h.sz hg (by omega)⟩
theorem LatW.grow {w W W' : World} (h : LatW w W) (hb : Below W.heap.size W W') : LatW w W' :=
  ⟨h.b0.grow hb, fun j hj => (h.es j hj).grow hb, h.sh.grow hb, h.sz.grow hb⟩
theorem latSh_at {s r : Nat} (h : r < 6) : (latSh s)[r]? = some (.slice (some ⟨s + 1 + r, 0, none⟩) (shape r).length (shape r).length) := by simp [latSh, h]
theorem latSz_at {r : Nat} (h : r < 6) : latSz[r]? = some (.int .i64 (shapeN r : Nat)) := by simp [latSz, h]

theorem Cur.set {w : World} {g n c m : Nat} {A : Option Addr} (h : Cur w g A n c m) {p : Addr} (hp : g < p.block) (u : Value) : Cur (w.setCell p u) g A n c m := by
  obtain ⟨i, s, ho, hi, hs⟩ := h.ex
  exact ⟨⟨i, s, ho.far (by omega) u, hi, hs⟩, h.byt.below ((Below.refl g w).setCell (by omega) u)⟩
theorem grown_set {w W : World} {r : Option Nat} {p : Addr} (h : w.grownBy W r) (hp : w.heap.size ≤ p.block) (u : Value) : w.grownBy (W.setCell p u) r :=
  ⟨h.os, h.tape, h.output, by simpa using h.size, fun k hk hne => (Below.heap_setCell W p u k (by omega)).trans (h.block k hk hne)⟩
theorem LatOf_shape (r : Nat) (hr : r < 6) (E : Option Addr) (ce : Nat) (w : World) (hE : Rd w E (ez (shape r))) :
    Calls Try.prog 90 #[.int .i64 (shapeN r : Nat), .slice E (shape r).length ce] w fun e w' => ∃ A' c', e = .returned (.tuple #[.agg #[.int .i64 (shapeN r : Nat), .slice A' (shapeRows r).length c'], .bool true]) ∧ w'.ownsRow w.heap.size 81 1 (.slice A' (shapeRows r).length c') (shapeRows r).length (us (shapeRows r)) ∧ Below w.heap.size w w' := by
  have hk := shape_ok r hr
  have hl := (shape_len r hr).2.2.1
  refine (specLatOf_any (shapeN r : Nat) E ce (shape r) w hE (by omega)).mono ?_
  rintro e w' ⟨v, rfl, hrow, hb⟩
  rw [ofXs_yes hk, Int.toNat_natCast, shape_rows r hr] at hrow
  rw [ofN_yes hk, ← tf_yes hk]
  obtain ⟨A', c', rfl, _⟩ := owns_rd hrow
  exact ⟨A', c', rfl, hrow, hb⟩

set_option maxHeartbeats 4000000 in
set_option maxRecDepth 100000 in
theorem lat_any (g : Nat) (A : Option Addr) (n c m : Nat) (w : World) (h : Cur w g A n c m) (hn : n ≤ 1048576) (hm : m ≤ 1099511626000) :
    Calls Try.prog 75 #[.pointer (some ⟨g, 0, none⟩)] w fun e w' => ∃ v N xs, e = .returned v ∧ LatOwn w' w.heap.size g v N xs ∧ Cur w' g A n c (m + 1) ∧ w.grownBy w' (some g) := by
  go_enter Try.func75, Try.ntmps75
  go_wp2_with fail
  change Calls _ _ _ (latW w) _
  have hlt := h.lt
  refine (pick_any g A n c m 6 _ (h.grow (latW_below w)) hn (by omega) (by omega) (by omega)).mono ?_
  rintro e w1 ⟨r, rfl, hr, hC, hG⟩
  have hL := (latW_ok w).far hG hlt
  have hG1 := grownBy_trans (grownBy_of (latW_below w) (some g)) hG
  clear hG
  have hr6 : r < 6 := by omega
  have g1 : ∀ W, Below w1.heap.size w1 W → W.cell? ⟨w.heap.size + 1 + 1 + 1 + 1 + 1 + 1 + 1 + 1, r, none⟩ = some (.int .i64 (shapeN r : Nat)) := fun W hW => ((hL.sz.grow hW).cell r).trans (latSz_at hr6)
  have g2 : ∀ W, Below w1.heap.size w1 W → W.cell? ⟨w.heap.size + 1 + 1 + 1 + 1 + 1 + 1 + 1, r, none⟩ = some (.slice (some ⟨w.heap.size + 1 + r, 0, none⟩) (shape r).length (shape r).length) := fun W hW => ((hL.sh.grow hW).cell r).trans (latSh_at hr6)
  have HB := Lib.hid (fun W (hW : Below w1.heap.size w1 W) => hL.b0.grow hW)
  have HL := Lib.hid (fun W (hW : Below w1.heap.size w1 W) => ((hL.es r hr6).grow hW).rd)
  clear hL
  have hsl := (shape_len r hr6).2.2.1
  generalize hb' : w.heap.size + 1 + r = eb at g2 HL
  clear hb'
  go_wp2_with fail
  go_region_held3 (fun W => Below w1.heap.size w1 W) (first | exact (Below.refl _ _).drew | exact below_trans (by assumption) (by assumption) | exact below_trans (by assumption) (below_alloc _ _) | exact below_trans (below_trans (Below.refl _ _).drew hb6) (below_alloc _ _) | exact below_trans (below_trans (below_trans (Below.refl _ _).drew (below_alloc _ _)) hb6) (below_alloc _ _) | (refine Below.setCell (Below.setCell (by assumption) ?_ _) ?_ _ <;> first | exact Nat.le_refl _ | exact hb6.size | (have := hb6.size; simp at this ⊢; omega)) | (refine Below.setCell (by assumption) ?_ _ <;> first | exact Nat.le_refl _ | exact hb6.size | (have := hb6.size; simp at this ⊢; omega)))
    (first
      | (go_at_call 90; refine (LatOf_shape r hr6 _ _ _ (HL.out _ (by assumption))).mono ?_; rintro e w6 ⟨A', c', rfl, hrow, hb6⟩; try (have qo : Own w6 w1.heap.size 26 [.int .i64 0, .slice none 0 0] := (Own.new w1.drew 26 [.int .i64 0, .slice none 0 0]).grow hb6; have q0 := qo.two.1; have q1 := qo.two.2; have qf0 := qo.free 0; have qf1 := qo.free 1)))
  all_goals
    clear g1 g2 HL hsl
    have hg7 := owns_lt hrow (g := g) (by have := hC.lt; simp; omega)
  · have hH' : Below w1.heap.size w1 (w6.alloc (Obj.cells #[Value.int IntKind.i64 (shapeN r : Nat), Value.slice A' (shapeRows r).length c'] 26)) := by assumption
    have hr8 := owns_base (hrow.alloc (Obj.cells #[Value.int IntKind.i64 (shapeN r : Nat), Value.slice A' (shapeRows r).length c'] 26)) (show w1.heap.size ≤ _ by simp)
    have hO7 := Own.new w6 26 [Value.int IntKind.i64 (shapeN r : Nat), Value.slice A' (shapeRows r).length c']
    have hH := hH'
    clear hb6 hrow
    revert hr8 hO7 hH
    generalize (w6.alloc (Obj.cells #[Value.int IntKind.i64 (shapeN r : Nat), Value.slice A' (shapeRows r).length c'] 26)) = W
    intro hr8 hO7 hH
    clear hH'
    obtain ⟨c0, c1⟩ := hO7.two
    have hb0 := HB.out W hH
    obtain ⟨d0, d1⟩ := hb0.two
    have df0 := hb0.free 0
    have df1 := hb0.free 1
    go_wp2
    have hlt1 := (HB.out w1 (Below.refl _ _)).lt
    have hE := (hb0.set 0 (.int .i64 (shapeN r : Nat))).set 1 (.slice A' (shapeRows r).length c')
    simp only [List.set_cons_succ, List.set_cons_zero] at hE
    obtain ⟨e0, e1⟩ := hE.two
    have hr9 := owns_far (owns_far hr8 (only_set (j := 0) (u := .int .i64 (shapeN r : Nat)) (World.grownBy.refl W _)) (owns_lt hr8 (g := w.heap.size) hlt1)) (only_set (j := 1) (u := .slice A' (shapeRows r).length c') (World.grownBy.refl _ _)) (owns_lt hr8 (g := w.heap.size) hlt1)
    have hC9 := ((hC.grow hH).set (p := ⟨w.heap.size, 0, none⟩) hlt (.int .i64 (shapeN r : Nat))).set (p := ⟨w.heap.size, 1, none⟩) hlt (.slice A' (shapeRows r).length c')
    have hG9 := grown_set (p := ⟨w.heap.size, 1, none⟩) (grown_set (p := ⟨w.heap.size, 0, none⟩) (only_grow hG1 hH) (Nat.le_refl _) (.int .i64 (shapeN r : Nat))) (Nat.le_refl _) (.slice A' (shapeRows r).length c')
    have hl8 := shape_len r hr6
    refine bodyPost_ret (v := .agg #[.int .i64 (shapeN r : Nat), .slice A' (shapeRows r).length c']) (by simp [results, Try.results75, go_sem, e0, e1]) rfl ⟨_, _, _, rfl, ⟨shape_lat r hr6, by omega, _, rfl, owns_base hr9 (by omega), hg7⟩, hC9, hG9⟩
  · have hr7 := owns_far (owns_far hrow (only_set (j := 0) (u := .int .i64 (shapeN r : Nat)) (World.grownBy.refl w6 _)) (owns_lt hrow (g := w1.heap.size) (by simp))) (only_set (j := 1) (u := .slice A' (shapeRows r).length c') (World.grownBy.refl _ _)) (owns_lt hrow (g := w1.heap.size) (by simp))
    have hO7 := (qo.set 0 (.int .i64 (shapeN r : Nat))).set 1 (.slice A' (shapeRows r).length c')
    simp only [List.set_cons_succ, List.set_cons_zero] at hO7
    have hH' : Below w1.heap.size w1 ((w6.setCell { block := w1.heap.size, off := 0 } (Value.int IntKind.i64 (shapeN r : Nat))).setCell { block := w1.heap.size, off := 1 } (Value.slice A' (shapeRows r).length c')) := by assumption
    have hr8 := owns_base hr7 (show w1.heap.size ≤ _ by simp)
    have hH := hH'
    clear q0 q1 qf0 qf1 qo hb6 hrow hr7
    revert hr8 hO7 hH
    generalize ((w6.setCell { block := w1.heap.size, off := 0 } (Value.int IntKind.i64 (shapeN r : Nat))).setCell { block := w1.heap.size, off := 1 } (Value.slice A' (shapeRows r).length c')) = W
    intro hO7 hr8 hH
    clear hH'
    obtain ⟨c0, c1⟩ := hO7.two
    have hb0 := HB.out W hH
    obtain ⟨d0, d1⟩ := hb0.two
    have df0 := hb0.free 0
    have df1 := hb0.free 1
    go_wp2
    have hlt1 := (HB.out w1 (Below.refl _ _)).lt
    have hE := (hb0.set 0 (.int .i64 (shapeN r : Nat))).set 1 (.slice A' (shapeRows r).length c')
    simp only [List.set_cons_succ, List.set_cons_zero] at hE
    obtain ⟨e0, e1⟩ := hE.two
    have hr9 := owns_far (owns_far hr8 (only_set (j := 0) (u := .int .i64 (shapeN r : Nat)) (World.grownBy.refl W _)) (owns_lt hr8 (g := w.heap.size) hlt1)) (only_set (j := 1) (u := .slice A' (shapeRows r).length c') (World.grownBy.refl _ _)) (owns_lt hr8 (g := w.heap.size) hlt1)
    have hC9 := ((hC.grow hH).set (p := ⟨w.heap.size, 0, none⟩) hlt (.int .i64 (shapeN r : Nat))).set (p := ⟨w.heap.size, 1, none⟩) hlt (.slice A' (shapeRows r).length c')
    have hG9 := grown_set (p := ⟨w.heap.size, 1, none⟩) (grown_set (p := ⟨w.heap.size, 0, none⟩) (only_grow hG1 hH) (Nat.le_refl _) (.int .i64 (shapeN r : Nat))) (Nat.le_refl _) (.slice A' (shapeRows r).length c')
    have hl8 := shape_len r hr6
    refine bodyPost_ret (v := .agg #[.int .i64 (shapeN r : Nat), .slice A' (shapeRows r).length c']) (by simp [results, Try.results75, go_sem, e0, e1]) rfl ⟨_, _, _, rfl, ⟨shape_lat r hr6, by omega, _, rfl, owns_base hr9 (by omega), hg7⟩, hC9, hG9⟩

end Go.Proofs.Ytipcjofmplpffaa
