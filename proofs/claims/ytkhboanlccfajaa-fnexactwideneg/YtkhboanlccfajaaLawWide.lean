/-
  The laws on WideOf, WideAdd, WideNeg, WideCmp and WideInt: at every number the program answers as the model.
-/
import Derived.Test.YtkhboanlccfajaaWideA
import Derived.Test.YtkhboanlccfajaaBoxTail
import Derived.Deep.RegionHeld3
namespace Go.Proofs.Ytkhboanlccfajaa
open Go.RowKit

theorem grow_keep {w : World} {b : World} (h : Below w.heap.size w b) (o : Obj) : Below w.heap.size w (b.alloc o) := below_trans h (below_alloc _ _)
theorem own_set2 {w : World} {b : Nat} {t : TypeId} {c0 c1 : Value} (h : Own w b t [c0, c1]) (u0 u1 : Value) : Own ((w.setCell ⟨b, 0, none⟩ u0).setCell ⟨b, 1, none⟩ u1) b t [u0, u1] := by
  simpa using (h.set 0 u0).set 1 u1
theorem below_set2 {w w' : World} {b : Nat} (h : Below w.heap.size w w') (hb : w.heap.size ≤ b) (u0 u1 : Value) : Below w.heap.size w ((w'.setCell ⟨b, 0, none⟩ u0).setCell ⟨b, 1, none⟩ u1) :=
  (h.setCell hb _).setCell hb _

set_option maxHeartbeats 1000000 in
theorem fnExactWideOf_walk (n : Int) (w : World) (hn : I64 n) :
    Calls Try.prog 6 #[.int .i64 n] w fun e w' => e = .returned (.bool true) ∧ Below w.heap.size w w' := by
  go_enter Try.func6, Try.ntmps6
  go_wp2_with fail
  refine (specWideOf_any n _ hn).mono ?_
  rintro e w1 ⟨rfl, hb1⟩
  go_wp2_with fail
  refine (implWideOf_any n _ hn).mono ?_
  rintro e w2 ⟨rfl, hb2⟩
  have o2 := (Own.new w1 43 [.int .i64 (hi n), .int .u64 (lo n)]).grow hb2
  have o3 := o2.alloc (.cells #[.int .i64 (hi n), .int .u64 (lo n)] 43)
  replace hb2 := below_trans hb1 (below_trans (below1 _ _) hb2)
  obtain ⟨c0, c1⟩ := o3.two
  go_wp2_with fail
  refine (eqWide_same _ _ _).mono ?_
  rintro e w3 ⟨rfl, hb3⟩
  replace hb3 := below_trans (grow_keep hb2 _) hb3
  clear c0 c1
  go_wp2
  go_ret
  exact ⟨rfl, hb3⟩

set_option maxHeartbeats 1000000 in
theorem fnExactWideAdd_walk (ah al bh bl : Int) (w : World) (h1 : I64 ah) (h2 : U64w al) (h3 : I64 bh) (h4 : U64w bl) :
    Calls Try.prog 7 #[.agg #[.int .i64 ah, .int .u64 al], .agg #[.int .i64 bh, .int .u64 bl]] w fun e w' => e = .returned (.bool true) ∧ Below w.heap.size w w' := by
  obtain ⟨x, hx, e1, e2⟩ := wide_in h1 h2
  obtain ⟨y, hy, e3, e4⟩ := wide_in h3 h4
  have E := Lib.hid (And.intro e1 (And.intro e2 (And.intro e3 e4)))
  clear e1 e2 e3 e4 h1 h2 h3 h4
  have oa := (Own.new w 53 [.int .i64 ah, .int .u64 al]).alloc (.cells #[.int .i64 bh, .int .u64 bl] 53)
  have ob := Own.new (w.alloc (.cells #[.int .i64 ah, .int .u64 al] 53)) 53 [.int .i64 bh, .int .u64 bl]
  rw [show (w.alloc (.cells #[.int .i64 ah, .int .u64 al] 53)).heap.size = w.heap.size + 1 by simp] at ob
  have hbz := below2 w (.cells #[.int .i64 ah, .int .u64 al] 53) (.cells #[.int .i64 bh, .int .u64 bl] 53)
  go_enter Try.func7, Try.ntmps7
  go_wp2
  revert oa ob hbz
  generalize (w.alloc (.cells #[.int .i64 ah, .int .u64 al] 53)).alloc (.cells #[.int .i64 bh, .int .u64 bl] 53) = w0
  intro oa ob hbz
  have HO := Lib.hid (And.intro oa ob)
  clear oa ob
  refine wp_region_box 5 5 43 [.int .i64 0, .int .u64 0] (by kernel_rfl) (by kernel_rfl) rfl rfl rfl rfl (by kernel_rfl) (fun a w => by simp [execOp, go_sem, ptr]) ?_
  apply Exists.intro
  refine And.intro ?walk0 ?rest0
  case walk0 =>
    intro w1 hb1
    have f1 : ∀ u : Bel w1, u.w.cell? ⟨w.heap.size, 0, none⟩ = some (.int .i64 ah) := fun u => ((HO.out.1.grow (hb1)).grow u.ok).two.1
    have f2 : ∀ u : Bel w1, u.w.cell? ⟨w.heap.size, 1, none⟩ = some (.int .u64 al) := fun u => ((HO.out.1.grow (hb1)).grow u.ok).two.2
    have f3 : ∀ u : Bel w1, u.w.cell? ⟨w.heap.size + 1, 0, none⟩ = some (.int .i64 bh) := fun u => ((HO.out.2.grow (hb1)).grow u.ok).two.1
    have f4 : ∀ u : Bel w1, u.w.cell? ⟨w.heap.size + 1, 1, none⟩ = some (.int .u64 bl) := fun u => ((HO.out.2.grow (hb1)).grow u.ok).two.2
    show wpQuiet _ _ _ _ [_, _, _, _, _] _
    repeat (go_big_quiet_step (first | (go_at_call 36; exact bel_of _ (toWide_any _ _ _)) | (go_at_call 35; exact bel_of _ (specWideAdd_any ah al bh bl x y _ E.out.1 E.out.2.1 E.out.2.2.1 E.out.2.2.2))))
    exact wpQuiet_nil rfl
  case rest0 =>
  intro b0 w01 hb0 hO0 hw0
  show wpList _ _ _ [_] _ _
  simp only [Act.put, ptr]
  have ff0 := hO0.free 0
  have ff1 := hO0.free 1
  obtain ⟨c0, c1⟩ := hO0.two
  have hS0 := own_set2 hO0 (.int .i64 (hi (x + y))) (.int .u64 (lo (x + y)))
  have hT0 := below_set2 hw0 hb0 (.int .i64 (hi (x + y))) (.int .u64 (lo (x + y)))
  go_wp2
  clear ff0 ff1 c0 c1 hO0 hw0
  revert hS0 hT0
  generalize (w01.setCell ⟨b0, 0, none⟩ (.int .i64 (hi (x + y)))).setCell ⟨b0, 1, none⟩ (.int .u64 (lo (x + y))) = w2
  intro hS0 hT0
  have HB2 := Lib.hid hT0
  have HS0 := Lib.hid hS0
  clear hS0 hT0
  refine wp_region_box 5 6 43 [.int .i64 0, .int .u64 0] (by kernel_rfl) (by kernel_rfl) rfl rfl rfl rfl (by kernel_rfl) (fun a w => by simp [execOp, go_sem, ptr]) ?_
  apply Exists.intro
  refine And.intro ?walk1 ?rest1
  case walk1 =>
    intro w1 hb1
    have f1 : ∀ u : Bel w1, u.w.cell? ⟨w.heap.size, 0, none⟩ = some (.int .i64 ah) := fun u => ((HO.out.1.grow (below_trans HB2.out hb1)).grow u.ok).two.1
    have f2 : ∀ u : Bel w1, u.w.cell? ⟨w.heap.size, 1, none⟩ = some (.int .u64 al) := fun u => ((HO.out.1.grow (below_trans HB2.out hb1)).grow u.ok).two.2
    have f3 : ∀ u : Bel w1, u.w.cell? ⟨w.heap.size + 1, 0, none⟩ = some (.int .i64 bh) := fun u => ((HO.out.2.grow (below_trans HB2.out hb1)).grow u.ok).two.1
    have f4 : ∀ u : Bel w1, u.w.cell? ⟨w.heap.size + 1, 1, none⟩ = some (.int .u64 bl) := fun u => ((HO.out.2.grow (below_trans HB2.out hb1)).grow u.ok).two.2
    show wpQuiet _ _ _ _ [_, _, _, _, _] _
    repeat (go_big_quiet_step (first | (go_at_call 36; exact bel_of _ (toWide_any _ _ _)) | (go_at_call 30; exact bel_of _ (implWideAdd_any ah al bh bl x y _ E.out.1 E.out.2.1 E.out.2.2.1 E.out.2.2.2))))
    exact wpQuiet_nil rfl
  case rest1 =>
  intro b1 w11 hb1 hO1 hw1
  show wpList _ _ _ [_] _ _
  simp only [Act.put, ptr]
  have ff0 := hO1.free 0
  have ff1 := hO1.free 1
  obtain ⟨c0, c1⟩ := hO1.two
  have hS1 := own_set2 hO1 (.int .i64 (hi (x + y))) (.int .u64 (lo (x + y)))
  have hT1 := below_set2 hw1 hb1 (.int .i64 (hi (x + y))) (.int .u64 (lo (x + y)))
  obtain ⟨g0, g1⟩ := (HS0.out.grow hT1).two
  go_wp2_with fail
  clear ff0 ff1 c0 c1
  refine (eqWide_same _ _ _).mono ?_
  rintro e w5 ⟨rfl, hb5⟩
  replace hb5 := below_trans (below_trans hbz (below_trans HB2.out hT1)) hb5
  clear g0 g1 hS1 hT1 hO1 hw1
  go_wp2
  go_ret
  exact ⟨rfl, hb5⟩

set_option maxHeartbeats 1000000 in
theorem fnExactWideNeg_walk (ah al : Int) (w : World) (h1 : I64 ah) (h2 : U64w al) :
    Calls Try.prog 8 #[.agg #[.int .i64 ah, .int .u64 al]] w fun e w' => e = .returned (.bool true) ∧ Below w.heap.size w w' := by
  obtain ⟨x, hx, e1, e2⟩ := wide_in h1 h2
  have E := Lib.hid (And.intro e1 e2)
  clear e1 e2 h1 h2
  go_enter Try.func8, Try.ntmps8
  go_wp2_with fail
  refine (toWide_any _ _ _).mono ?_
  rintro e w1 ⟨rfl, hb1⟩
  have oa := (Own.new w 53 [.int .i64 ah, .int .u64 al]).grow hb1
  replace hb1 := below_trans (below1 _ _) hb1
  go_wp2_with fail
  refine (specWideNeg_any ah al x _ E.out.1 E.out.2).mono ?_
  rintro e w2 ⟨rfl, hb2⟩
  replace oa := (oa.grow hb2).alloc (.cells #[.int .i64 (hi (-x)), .int .u64 (lo (-x))] 43)
  have os := Own.new w2 43 [.int .i64 (hi (-x)), .int .u64 (lo (-x))]
  replace hb2 := grow_keep (below_trans hb1 hb2) (.cells #[.int .i64 (hi (-x)), .int .u64 (lo (-x))] 43)
  obtain ⟨c0, c1⟩ := oa.two
  go_wp2_with fail
  clear c0 c1
  refine (toWide_any _ _ _).mono ?_
  rintro e w3 ⟨rfl, hb3⟩
  replace os := os.grow hb3
  replace hb3 := below_trans hb2 hb3
  go_wp2_with fail
  refine (implWideNeg_any ah al x _ E.out.1 E.out.2).mono ?_
  rintro e w4 ⟨rfl, hb4⟩
  replace os := (os.grow hb4).alloc (.cells #[.int .i64 (hi (-x)), .int .u64 (lo (-x))] 43)
  replace hb4 := grow_keep (below_trans hb3 hb4) (.cells #[.int .i64 (hi (-x)), .int .u64 (lo (-x))] 43)
  obtain ⟨c0, c1⟩ := os.two
  go_wp2_with fail
  clear c0 c1
  refine (eqWide_same _ _ _).mono ?_
  rintro e w5 ⟨rfl, hb5⟩
  replace hb5 := below_trans hb4 hb5
  clear os oa
  go_wp2
  go_ret
  exact ⟨rfl, hb5⟩

set_option maxHeartbeats 1000000 in
theorem fnExactWideCmp_walk (ah al bh bl : Int) (w : World) (h1 : I64 ah) (h2 : U64w al) (h3 : I64 bh) (h4 : U64w bl) :
    Calls Try.prog 9 #[.agg #[.int .i64 ah, .int .u64 al], .agg #[.int .i64 bh, .int .u64 bl]] w fun e w' => e = .returned (.bool true) ∧ Below w.heap.size w w' := by
  obtain ⟨x, hx, e1, e2⟩ := wide_in h1 h2
  obtain ⟨y, hy, e3, e4⟩ := wide_in h3 h4
  have E := Lib.hid (And.intro e1 (And.intro e2 (And.intro e3 e4)))
  clear e1 e2 e3 e4 h1 h2 h3 h4
  have oa := (Own.new w 53 [.int .i64 ah, .int .u64 al]).alloc (.cells #[.int .i64 bh, .int .u64 bl] 53)
  have ob := Own.new (w.alloc (.cells #[.int .i64 ah, .int .u64 al] 53)) 53 [.int .i64 bh, .int .u64 bl]
  rw [show (w.alloc (.cells #[.int .i64 ah, .int .u64 al] 53)).heap.size = w.heap.size + 1 by simp] at ob
  have hbz := below2 w (.cells #[.int .i64 ah, .int .u64 al] 53) (.cells #[.int .i64 bh, .int .u64 bl] 53)
  go_enter Try.func9, Try.ntmps9
  go_wp2
  revert oa ob hbz
  generalize (w.alloc (.cells #[.int .i64 ah, .int .u64 al] 53)).alloc (.cells #[.int .i64 bh, .int .u64 bl] 53) = w0
  intro oa ob hbz
  have HO := Lib.hid (And.intro oa ob)
  clear oa ob
  have f1 : ∀ uu : Bel w0, uu.w.cell? ⟨w.heap.size, 0, none⟩ = some (.int .i64 ah) := fun uu => (HO.out.1.grow uu.ok).two.1
  have f2 : ∀ uu : Bel w0, uu.w.cell? ⟨w.heap.size, 1, none⟩ = some (.int .u64 al) := fun uu => (HO.out.1.grow uu.ok).two.2
  have f3 : ∀ uu : Bel w0, uu.w.cell? ⟨w.heap.size + 1, 0, none⟩ = some (.int .i64 bh) := fun uu => (HO.out.2.grow uu.ok).two.1
  have f4 : ∀ uu : Bel w0, uu.w.cell? ⟨w.heap.size + 1, 1, none⟩ = some (.int .u64 bl) := fun uu => (HO.out.2.grow uu.ok).two.2
  refine wp_region_bel (by kernel_rfl) (by kernel_rfl) ?_
  repeat (go_big_quiet_step (first | (go_at_call 36; exact bel_of _ (toWide_any _ _ _)) | (go_at_call 39; exact bel_of _ (specWideCmp_any ah al bh bl x y _ hx hy E.out.1 E.out.2.1 E.out.2.2.1 E.out.2.2.2))))
  refine wpQuiet_nil ?_
  rintro _ ⟨u, rfl⟩
  clear f1 f2 f3 f4
  go_wp2
  have f1 : ∀ uu : Bel u.w, uu.w.cell? ⟨w.heap.size, 0, none⟩ = some (.int .i64 ah) := fun uu => ((HO.out.1.grow u.ok).grow uu.ok).two.1
  have f2 : ∀ uu : Bel u.w, uu.w.cell? ⟨w.heap.size, 1, none⟩ = some (.int .u64 al) := fun uu => ((HO.out.1.grow u.ok).grow uu.ok).two.2
  have f3 : ∀ uu : Bel u.w, uu.w.cell? ⟨w.heap.size + 1, 0, none⟩ = some (.int .i64 bh) := fun uu => ((HO.out.2.grow u.ok).grow uu.ok).two.1
  have f4 : ∀ uu : Bel u.w, uu.w.cell? ⟨w.heap.size + 1, 1, none⟩ = some (.int .u64 bl) := fun uu => ((HO.out.2.grow u.ok).grow uu.ok).two.2
  refine wp_region_bel (by kernel_rfl) (by kernel_rfl) ?_
  repeat (go_big_quiet_step (first | (go_at_call 36; exact bel_of _ (toWide_any _ _ _)) | (go_at_call 32; exact bel_of _ (implWideCmp_any ah al bh bl x y _ hx hy E.out.1 E.out.2.1 E.out.2.2.1 E.out.2.2.2))))
  refine wpQuiet_nil ?_
  rintro _ ⟨u2, rfl⟩
  clear f1 f2 f3 f4
  go_wp2
  go_ret
  exact ⟨rfl, below_trans (below_trans hbz u.ok) u2.ok⟩

set_option maxHeartbeats 1000000 in
theorem fnExactWideInt_walk (ah al : Int) (w : World) (h1 : I64 ah) (h2 : U64w al) :
    Calls Try.prog 10 #[.agg #[.int .i64 ah, .int .u64 al]] w fun e w' => e = .returned (.bool true) ∧ Below w.heap.size w w' := by
  obtain ⟨x, hx, e1, e2⟩ := wide_in h1 h2
  have ⟨n, ok, HI, HS⟩ : ∃ n ok, (∀ W, Calls Try.prog 41 #[.agg #[.int .i64 ah, .int .u64 al]] W (IntRes W n ok)) ∧ ∀ W, Calls Try.prog 40 #[.agg #[.int .i64 ah, .int .u64 al]] W (IntRes W n ok) := by
    by_cases h : I64 x
    · exact ⟨x, true, fun W => implWideInt_yes ah al x W h e1 e2, fun W => specWideInt_yes ah al x W h e1 e2⟩
    · exact ⟨0, false, fun W => implWideInt_no ah al x W hx h e1 e2, fun W => specWideInt_no ah al x W hx h e1 e2⟩
  have H1 := Lib.hid HI
  have H2 := Lib.hid HS
  clear e1 e2 h1 h2 HI HS
  go_enter Try.func10, Try.ntmps10
  go_wp2_with fail
  refine (toWide_any _ _ _).mono ?_
  rintro e w1 ⟨rfl, hb1⟩
  have oa := (Own.new w 53 [.int .i64 ah, .int .u64 al]).grow hb1
  replace hb1 := below_trans (below1 _ _) hb1
  go_wp2_with fail
  refine (H2.out _).mono ?_
  rintro e w2 ⟨rfl, hb2⟩
  replace oa := oa.grow hb2
  replace hb2 := below_trans hb1 hb2
  obtain ⟨c0, c1⟩ := oa.two
  go_wp2_with fail
  clear c0 c1
  refine (toWide_any _ _ _).mono ?_
  rintro e w3 ⟨rfl, hb3⟩
  replace hb3 := below_trans hb2 hb3
  go_wp2_with fail
  refine (H1.out _).mono ?_
  rintro e w4 ⟨rfl, hb4⟩
  replace hb4 := below_trans hb3 hb4
  clear oa
  cases ok <;>
  (go_wp2
   go_ret
   exact ⟨rfl, hb4⟩)
end Go.Proofs.Ytkhboanlccfajaa
