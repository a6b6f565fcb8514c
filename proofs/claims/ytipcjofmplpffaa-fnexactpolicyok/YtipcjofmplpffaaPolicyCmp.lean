/-
  cmp.Compare, cmp.Or and comparePlaces: what they return.
-/
import Derived.Test.YtipcjofmplpffaaPunctOk
import Derived.Shelf.SlSortCmp.NoneTotal
namespace Go.Proofs.Ytipcjofmplpffaa
open Go.RowKit Go.Lib Go.Sort

def cmpI (x y : Int) : Int := if x < y then -1 else if y < x then 1 else 0
theorem cmpI_range (x y : Int) : -1 ≤ cmpI x y ∧ cmpI x y ≤ 1 := by unfold cmpI; split; omega; split <;> omega

set_option maxHeartbeats 400000 in
theorem isNaN_any (x : Int) (w : World) : Calls Try.prog 95 #[.int .i64 x] w fun e w' => e = .returned (.bool false) ∧ w = w' := by
  have hne : (x != x) = false := by simp
  go_enter Try.func95, Try.ntmps95
  go_wp2
  go_ret
  exact ⟨rfl, rfl⟩

set_option maxHeartbeats 400000 in
theorem compare_any (x y : Int) (w : World) : Calls Try.prog 89 #[.int .i64 x, .int .i64 y] w fun e w' => e = .returned (.int .i64 (cmpI x y)) ∧ w = w' := by
  by_cases h1 : x < y
  · go_enter Try.func89, Try.ntmps89
    go_wp2_with (go_at_call 95; refine (isNaN_any _ _).mono ?_; rintro e w' ⟨rfl, rfl⟩)
    go_ret
    exact ⟨ret_int (by simp [cmpI, h1]), rfl⟩
  · by_cases h2 : y < x
    · go_enter Try.func89, Try.ntmps89
      go_wp2_with (go_at_call 95; refine (isNaN_any _ _).mono ?_; rintro e w' ⟨rfl, rfl⟩)
      go_ret
      exact ⟨ret_int (by simp [cmpI, h1, h2]), rfl⟩
    · go_enter Try.func89, Try.ntmps89
      go_wp2_with (go_at_call 95; refine (isNaN_any _ _).mono ?_; rintro e w' ⟨rfl, rfl⟩)
      go_ret
      exact ⟨ret_int (by unfold cmpI; rw [if_neg (by omega), if_neg (by omega)]), rfl⟩

/-- the first that is not 0 -/
def orOf : List Int → Int
  | [] => 0
  | z :: zs => if z = 0 then orOf zs else z
theorem orOf_step {zs : List Int} {k : Nat} (h : k < zs.length) : orOf (zs.drop k) = if zs.getD k 0 = 0 then orOf (zs.drop (k + 1)) else zs.getD k 0 := by
  rw [List.drop_eq_getElem_cons h]
  simp [orOf, h]

set_option maxHeartbeats 400000 in
theorem cmpOr_any (A : Option Addr) (ca : Nat) (zs : List Int) (w : World) (hA : Rd w A (iz zs)) (hn : zs.length ≤ 1048576) :
    Calls Try.prog 88 #[.slice A zs.length ca] w fun e w' => e = .returned (.int .i64 (orOf zs)) ∧ w = w' := by
  go_enter Try.func88, Try.ntmps88
  go_wp2
  go_loop [8] (fun i => ∃ k : Nat, k ≤ zs.length ∧ i = .int .i64 k ∧ orOf zs = orOf (zs.drop k)) (fun i => zs.length - (intOf i).toNat)
  case atStart => exact ⟨0, Nat.zero_le _, rfl, rfl⟩
  case round =>
    obtain ⟨k, hk, rfl, ho⟩ := hrel
    by_cases hlt : k < zs.length
    · obtain ⟨ad, rfl, hb, hc⟩ := hA k _ (iz_at hlt)
      have HS := Lib.hid (orOf_step hlt)
      generalize zs.getD k 0 = z at *
      by_cases hz : z = 0
      · have tz : (z != 0) = false := by simp [hz]
        have HO := Lib.hid (show orOf zs = orOf (zs.drop (k + 1)) by rw [ho, HS.out, if_pos hz])
        clear ho HS hz
        go_wp2
        go_round
        case rel => exact ⟨k + 1, by omega, by go_num, HO.out⟩
        case measure => simp [intOf]; omega
      · have tz : (z != 0) = true := by simpa using hz
        have HO := Lib.hid (show z = orOf zs by rw [ho, HS.out, if_neg hz])
        clear ho HS hz
        go_wp2
        go_ret
        exact ⟨ret_int HO.out, rfl⟩
    · have hkn : k = zs.length := by omega
      subst hkn
      have HO := Lib.hid (show 0 = orOf zs by rw [ho]; simp [orOf])
      clear ho
      go_wp2
      go_ret
      exact ⟨ret_int HO.out, rfl⟩

def cmpP (p q : Pn) : Int := orOf [cmpI p.1 q.1, cmpI p.2.1 q.2.1, cmpI p.2.2.1 q.2.2.1]
theorem cmpI_zero {x y : Int} : cmpI x y = 0 ↔ x = y := by unfold cmpI; split; omega; split <;> omega
theorem cmpI_neg {x y : Int} : cmpI x y < 0 ↔ x < y := by unfold cmpI; split; omega; split <;> omega
theorem cmpP_neg {p q : Pn} : cmpP p q < 0 ↔ lessP p q := by
  unfold cmpP orOf orOf orOf orOf
  have h1 := @cmpI_zero p.1 q.1
  have h2 := @cmpI_zero p.2.1 q.2.1
  have h3 := @cmpI_zero p.2.2.1 q.2.2.1
  have n1 := @cmpI_neg p.1 q.1
  have n2 := @cmpI_neg p.2.1 q.2.1
  have n3 := @cmpI_neg p.2.2.1 q.2.2.1
  unfold lessP
  split
  · split
    · split <;> omega
    · omega
  · omega
theorem cmpP_nonneg {p q : Pn} : 0 ≤ cmpP p q ↔ ¬ lessP p q := by rw [← cmpP_neg]; omega

/-- A world that is w0 but for draws. -/
structure Drw (w0 : World) where
  w : World
  ok : ∃ q, w = w0.drewN q
instance (w0 : World) : Nonempty (Drw w0) := ⟨⟨w0, 0, rfl⟩⟩
theorem wp_region_drwt {P : Program} {id : Nat} {Q : Exit → Act → World → Prop} {a : Act} {w : World} {l : List Oper} (n : Nat) (hm : P.follows .mixedOrders = true) (hB : Region.lexTailB .any l.toArray n = true)
    (h : wpQuiet P l.toArray (fun w' => ∃ u : Drw w, w' = u.w) (fun a' => ∀ w', (∃ u : Drw w, w' = u.w) → wpList P l.toArray Q (l.drop n) a' w') (l.take n) a) : (Code.region id l.toArray true).wp P Q a w :=
  wp_region_head (C := fun w' => ∃ u : Drw w, w' = u.w) n hm hB ⟨⟨w.drew, 1, rfl⟩, rfl⟩ h
theorem drw_same {P : Program} {f : FuncId} {args : Array Value} {w0 : World} (u : Drw w0) {v : Value}
    (h : Calls P f args u.w fun e w' => e = .returned v ∧ u.w = w') : Calls P f args u.w fun e w'' => e = .returned v ∧ ∃ u' : Drw w0, w'' = u'.w :=
  h.mono fun _ _ ⟨he, hb⟩ => ⟨he, u, hb.symm⟩

theorem cmpOr_three {W : World} {g : Nat} {x y z : Int} (hR : Rd W (some ⟨g, 0, none⟩) (iz [x, y, z])) :
    Calls Try.prog 88 #[.slice (some ⟨g, 0, none⟩) 3 3] W fun e w' => e = .returned (.int .i64 (orOf [x, y, z])) ∧ W = w' :=
  cmpOr_any (some ⟨g, 0, none⟩) 3 [x, y, z] W hR (by simp)
theorem rd_three {W : World} {x y z : Int} (t : TypeId) : Rd (W.alloc (.cells #[.int .i64 x, .int .i64 y, .int .i64 z] t)) (some ⟨W.heap.size, 0, none⟩) (iz [x, y, z]) :=
  (Own.new W t (iz [x, y, z])).rd
theorem grown_three {w v : World} {o1 o2 : Obj} (o3 : Obj) (h : ∃ q, v = ((w.alloc o1).alloc o2).drewN q) : ∃ q os', v.alloc o3 = grow (w.drewN q) os' := by
  obtain ⟨q, rfl⟩ := h
  exact ⟨q, _, by rw [alloc_eq_grow, alloc_eq_grow, alloc_eq_grow, grow_grow]; exact (grow_grow (w.drewN q) _ _)⟩
theorem drw_cells {w : World} {cs ds : List Value} {t s : TypeId} (u : Drw ((w.alloc (.cells cs.toArray t)).alloc (.cells ds.toArray s))) :
    (∀ k, u.w.cell? ⟨w.heap.size, k, none⟩ = cs[k]?) ∧ (∀ k, u.w.cell? ⟨w.heap.size + 1, k, none⟩ = ds[k]?) := by
  obtain ⟨q, e⟩ := u.ok
  obtain ⟨h1, h2, _⟩ := box_two (w := w) (cs := cs) (ds := ds) (t := t) (s := s) (w1 := u.w) (by rw [e]; exact below_drewN (Below.refl _ _) _)
  exact ⟨fun k => h1.cell k, fun k => h2.cell k⟩

set_option maxRecDepth 100000 in
set_option maxHeartbeats 2000000 in
theorem comparePlaces_any (a b c d a' b' c' d' : Int) (w : World) :
    Calls Try.prog 72 #[pv a b c d, pv a' b' c' d'] w fun e w' => e = .returned (.int .i64 (cmpP (a, b, c, d) (a', b', c', d'))) ∧ ∃ q os', w' = grow (w.drewN q) os' := by
  have HC := Lib.hid (fun x y W => compare_any x y W)
  have HD := Lib.hid (show orOf [cmpI a a', cmpI b b', cmpI c c'] = cmpP (a, b, c, d) (a', b', c', d') from rfl)
  have k := fun u : Drw ((w.alloc (.cells #[.int .i64 a, .int .i64 b, .int .i64 c, .int .i64 d] 29)).alloc (.cells #[.int .i64 a', .int .i64 b', .int .i64 c', .int .i64 d'] 29)) => drw_cells (cs := [_, _, _, _]) (ds := [_, _, _, _]) u
  have k0 := fun u => (k u).1 0
  have k1 := fun u => (k u).1 1
  have k2 := fun u => (k u).1 2
  have j0 := fun u => (k u).2 0
  have j1 := fun u => (k u).2 1
  have j2 := fun u => (k u).2 2
  clear k
  simp only [List.getElem?_cons_zero, List.getElem?_cons_succ] at k0 k1 k2 j0 j1 j2
  go_enter Try.func72, Try.ntmps72
  go_wp2
  refine wp_region_drwt 15 (by kernel_rfl) (by kernel_rfl) ?_
  simp only [List.take_succ_cons, List.take_zero, List.drop_succ_cons, List.drop_zero]
  repeat (go_big_quiet_step ((go_at_call 89; exact drw_same _ (HC.out _ _ _))))
  refine wpQuiet_nil ?_
  rintro _ ⟨u, rfl⟩
  clear k0 k1 k2 j0 j1 j2
  go_wp2_with (go_at_call 88; refine (as_int HD.out (cmpOr_three (rd_three 3))).mono ?_; rintro e w' ⟨rfl, rfl⟩)
  go_ret
  exact ⟨rfl, grown_three _ u.ok⟩
end Go.Proofs.Ytipcjofmplpffaa
