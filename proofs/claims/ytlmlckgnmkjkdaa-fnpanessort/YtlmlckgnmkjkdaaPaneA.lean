/-
  PaneLess, the model's and the program's: what they return. WRITTEN BY tools/genpane.py.
-/
import Derived.Test.YtlmlckgnmkjkdaaCmpOr
import Derived.Test.YtlmlckgnmkjkdaaOwnsS
namespace Go.Proofs.Ytlmlckgnmkjkdaa
open Go.RowKit

/-- a pane as a value, and as cells -/
abbrev pav (q k f t l n : Int) (v : Value) (o : Bool) : Value := .agg #[.int .i64 q, .int .i64 k, .int .i64 f, .int .i64 t, .int .i64 l, .int .i64 n, v, .bool o]
abbrev pac (q k f t l n : Int) (v : Value) (o : Bool) : List Value := [.int .i64 q, .int .i64 k, .int .i64 f, .int .i64 t, .int .i64 l, .int .i64 n, v, .bool o]
theorem Own.eight {w : World} {g : Nat} {t : TypeId} {c0 c1 c2 c3 c4 c5 c6 c7 : Value} (h : Own w g t [c0, c1, c2, c3, c4, c5, c6, c7]) :
    w.cell? ⟨g, 0, none⟩ = some c0 ∧ w.cell? ⟨g, 1, none⟩ = some c1 ∧ w.cell? ⟨g, 2, none⟩ = some c2 ∧ w.cell? ⟨g, 3, none⟩ = some c3 ∧ w.cell? ⟨g, 4, none⟩ = some c4 ∧ w.cell? ⟨g, 5, none⟩ = some c5 ∧ w.cell? ⟨g, 6, none⟩ = some c6 ∧ w.cell? ⟨g, 7, none⟩ = some c7 :=
  ⟨h.cell 0, h.cell 1, h.cell 2, h.cell 3, h.cell 4, h.cell 5, h.cell 6, h.cell 7⟩
def plt (q k f t q' k' f' t' : Int) : Prop := q < q' ∨ q = q' ∧ (k < k' ∨ k = k' ∧ (f < f' ∨ f = f' ∧ t < t'))
theorem dec_tf {p q : Prop} [Decidable p] (h : p ↔ q) : decide p = tf q := by
  by_cases hp : p
  · rw [decide_eq_true hp]; exact tf_yes (h.1 hp)
  · rw [decide_eq_false hp]; exact tf_no (fun x => hp (h.2 x))
theorem boxes_two {w : World} {cs ds : List Value} {t s : TypeId} :
    Own ((w.alloc (.cells cs.toArray t)).alloc (.cells ds.toArray s)) w.heap.size t cs ∧ Own ((w.alloc (.cells cs.toArray t)).alloc (.cells ds.toArray s)) (w.heap.size + 1) s ds ∧ Below w.heap.size w ((w.alloc (.cells cs.toArray t)).alloc (.cells ds.toArray s)) :=
  ⟨(Own.new w t cs).alloc _, new_second w _ s ds, below_trans (below_alloc _ _) (below_alloc _ _)⟩

set_option maxHeartbeats 1000000 in
theorem specPaneLess_any (q k f t l n : Int) (v : Value) (o : Bool) (q' k' f' t' l' n' : Int) (v' : Value) (o' : Bool) (w : World) :
    Calls Try.prog 29 #[pav q k f t l n v o, pav q' k' f' t' l' n' v' o'] w fun e w' => e = .returned (.bool (tf (plt q k f t q' k' f' t'))) ∧ Below w.heap.size w w' := by
  obtain ⟨o1, o2, hb⟩ := boxes_two (w := w) (cs := pac q k f t l n v o) (ds := pac q' k' f' t' l' n' v' o') (t := 31) (s := 31)
  obtain ⟨a0, a1, a2, a3, -, -, -, -⟩ := o1.eight
  obtain ⟨b0, b1, b2, b3, -, -, -, -⟩ := o2.eight
  clear o1 o2
  by_cases h0 : q = q'
  · subst h0
    have t0 : (q != q) = false := by simp
    by_cases h1 : k = k'
    · subst h1
      have t1 : (k != k) = false := by simp
      by_cases h2 : f = f'
      · subst h2
        have t2 : (f != f) = false := by simp
        have H := Lib.hid (dec_tf (show t < t' ↔ plt q k f t q k f t' by unfold plt; omega))
        go_enter Try.func29, Try.ntmps29
        go_wp2
        go_ret
        exact ⟨ret_bool H.out, hb⟩
      · have t2 : (f != f') = true := by simpa using h2
        have H := Lib.hid (dec_tf (show f < f' ↔ plt q k f t q k f' t' by unfold plt; omega))
        clear h2
        go_enter Try.func29, Try.ntmps29
        go_wp2
        go_ret
        exact ⟨ret_bool H.out, hb⟩
    · have t1 : (k != k') = true := by simpa using h1
      have H := Lib.hid (dec_tf (show k < k' ↔ plt q k f t q k' f' t' by unfold plt; omega))
      clear h1
      go_enter Try.func29, Try.ntmps29
      go_wp2
      go_ret
      exact ⟨ret_bool H.out, hb⟩
  · have t0 : (q != q') = true := by simpa using h0
    have H := Lib.hid (dec_tf (show q < q' ↔ plt q k f t q' k' f' t' by unfold plt; omega))
    clear h0
    go_enter Try.func29, Try.ntmps29
    go_wp2
    go_ret
    exact ⟨ret_bool H.out, hb⟩

theorem or_neg {q k f t q' k' f' t' : Int} : orOf [cmpI q q', cmpI k k', cmpI f f', cmpI t t'] < 0 ↔ plt q k f t q' k' f' t' := by
  unfold orOf orOf orOf orOf orOf
  have h0 := @cmpI_zero q q'
  have h1 := @cmpI_zero k k'
  have h2 := @cmpI_zero f f'
  have h3 := @cmpI_zero t t'
  have n0 := @cmpI_neg q q'
  have n1 := @cmpI_neg k k'
  have n2 := @cmpI_neg f f'
  have n3 := @cmpI_neg t t'
  unfold plt
  split
  · split
    · split
      · split <;> omega
      · omega
    · omega
  · omega
theorem rd_four {W : World} {x y z u : Int} (t : TypeId) : Rd (W.alloc (.cells #[.int .i64 x, .int .i64 y, .int .i64 z, .int .i64 u] t)) (some ⟨W.heap.size, 0, none⟩) (iz [x, y, z, u]) :=
  (Own.new W t (iz [x, y, z, u])).rd
theorem cmpOr_four {W : World} {g : Nat} {x y z u : Int} (hR : Rd W (some ⟨g, 0, none⟩) (iz [x, y, z, u])) :
    Calls Try.prog 52 #[.slice (some ⟨g, 0, none⟩) 4 4] W fun e w' => e = .returned (.int .i64 (orOf [x, y, z, u])) ∧ W = w' :=
  cmpOr_any (some ⟨g, 0, none⟩) 4 [x, y, z, u] W hR (by simp)

set_option maxRecDepth 100000 in
set_option maxHeartbeats 2000000 in
theorem implPaneLess_any (q k f t l n : Int) (v : Value) (o : Bool) (q' k' f' t' l' n' : Int) (v' : Value) (o' : Bool) (w : World) :
    Calls Try.prog 15 #[pav q k f t l n v o, pav q' k' f' t' l' n' v' o'] w fun e w' => e = .returned (.bool (tf (plt q k f t q' k' f' t'))) ∧ Below w.heap.size w w' := by
  obtain ⟨o1, o2, hb⟩ := boxes_two (w := w) (cs := pac q k f t l n v o) (ds := pac q' k' f' t' l' n' v' o') (t := 31) (s := 31)
  have O1 := fun u : Bel ((w.alloc (.cells (pac q k f t l n v o).toArray 31)).alloc (.cells (pac q' k' f' t' l' n' v' o').toArray 31)) => (o1.grow u.ok).eight
  have O2 := fun u : Bel ((w.alloc (.cells (pac q k f t l n v o).toArray 31)).alloc (.cells (pac q' k' f' t' l' n' v' o').toArray 31)) => (o2.grow u.ok).eight
  have a0 := fun u => (O1 u).1
  have a1 := fun u => (O1 u).2.1
  have a2 := fun u => (O1 u).2.2.1
  have a3 := fun u => (O1 u).2.2.2.1
  have b0 := fun u => (O2 u).1
  have b1 := fun u => (O2 u).2.1
  have b2 := fun u => (O2 u).2.2.1
  have b3 := fun u => (O2 u).2.2.2.1
  clear O1 O2 o1 o2
  obtain ⟨z, hz⟩ : ∃ z, z = orOf [cmpI q q', cmpI k k', cmpI f f', cmpI t t'] := ⟨_, rfl⟩
  have HZ := Lib.hid hz.symm
  have H := Lib.hid (dec_tf (show z < 0 ↔ plt q k f t q' k' f' t' by rw [hz]; exact or_neg))
  clear hz
  have HC := Lib.hid (fun x y W => compare_any x y W)
  go_enter Try.func15, Try.ntmps15
  go_wp2
  refine wp_region_belt 20 (by kernel_rfl) (by kernel_rfl) ?_
  simp only [List.take_succ_cons, List.take_zero, List.drop_succ_cons, List.drop_zero]
  repeat (go_big_quiet_step ((go_at_call 53; exact bel_of_same _ (HC.out _ _ _))))
  refine wpQuiet_nil ?_
  rintro _ ⟨u, rfl⟩
  clear a0 a1 a2 a3 b0 b1 b2 b3
  have hb2 := below_trans hb u.ok
  go_wp2_with (go_at_call 52; refine (as_int HZ.out (cmpOr_four (rd_four 3))).mono ?_; rintro e w' ⟨rfl, rfl⟩)
  go_ret
  exact ⟨ret_bool H.out, below_trans hb2 (below_alloc _ _)⟩
end Go.Proofs.Ytlmlckgnmkjkdaa
