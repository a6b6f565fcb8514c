/-
  WinsOf, the program's: what it returns.
-/
import Derived.Test.YtdphbfapccnhlaaSlideIt
import Derived.Deep.RegionHeld3
namespace Go.Proofs.Ytdphbfapccnhlaa
open Go.RowKit

attribute [local go_sem] Oper.semAt_some

set_option maxHeartbeats 1000000 in
theorem slidingWins_any (k s t tm : Int) (w : World) :
    Calls Try.prog 48 #[.agg #[.int .i64 k, .int .i64 s, .int .i64 t], .int .i64 tm] w fun e w' =>
      e = .returned (.func (.func 65) #[] #[.pointer (some ⟨w.heap.size + 1, 0, none⟩), .pointer (some ⟨w.heap.size, 0, none⟩)]) ∧ w' = (w.alloc (.cells #[.int .i64 k, .int .i64 s, .int .i64 t] 25)).alloc (.cells #[.int .i64 tm] 3) := by
  go_enter Try.func48, Try.ntmps48
  go_wp2
  go_ret
  exact ⟨rfl, rfl⟩

theorem slide_stops (n : Nat) (hn : 2 ≤ n) (k : Int) (S D T : Nat) (hD : 1 ≤ D) (hDS : D ≤ S) (hS : S ≤ 100) (hT : T ≤ 1000) (Bt Bd : Nat) (w : World)
    (ht : Own w Bt 3 [.int .i64 (T : Int)]) (hd : Own w Bd 25 [.int .i64 k, .int .i64 (S : Int), .int .i64 (D : Int)]) :
    SeqStopsK Fence.wide n Try.prog 65 #[.pointer (some ⟨Bt, 0, none⟩), .pointer (some ⟨Bd, 0, none⟩)] (fun x : Wn => #[Value.agg #[.int .i64 x.1, .int .i64 x.2]]) (Kp2 Bt Bd) (fun ys => ys = slides S D T) (fun _ => True) (T + 1) w := fun l J Jx W hW hJ _ hY h0 =>
  slide1_in n hn l Bt Bd k S D T hD hDS hS hT J Jx W.heap.size hJ hY W (ht.grow hW) (hd.grow hW) h0
theorem kp2_t {Bt Bd : Nat} {A B C : World} (h : Kp2 Bt Bd A B) (k : Kp2 Bt Bd B C) : Kp2 Bt Bd A C := ⟨k.1.trans h.1, k.2.trans h.2⟩
theorem kp2_b {Bt Bd : Nat} {w : World} (ht : Bt < w.heap.size) (hd : Bd < w.heap.size) (W : World) (l : Nat) (o o' : Obj) (hl : w.heap.size ≤ l) (_ : W.heap[l]? = some o) (_ : o.isCells = false) (_ : o.isWalk = false) : Kp2 Bt Bd W (W.putObj l o') :=
  ⟨World.putObj_heap_other (by omega), World.putObj_heap_other (by omega)⟩
theorem kp2_of {Bt Bd : Nat} {W W' : World} {t d : TypeId} {cs ds : List Value} (h1 : Own W Bt t cs) (h1' : Own W' Bt t cs) (h2 : Own W Bd d ds) (h2' : Own W' Bd d ds) : Kp2 Bt Bd W W' :=
  ⟨(show W'.heap[Bt]? = _ from h1').trans (show W.heap[Bt]? = _ from h1).symm, (show W'.heap[Bd]? = _ from h2').trans (show W.heap[Bd]? = _ from h2).symm⟩
theorem own_own {β : Type} (g : Nat) (t : TypeId) (cs : List Value) : Go.Own (fun (_ : β) W => Own W g t cs) := fun s X Y row hs hg hrow =>
  (hg.block g (Own.lt hs) (fun e' => by obtain ⟨o, ho, hc⟩ := hrow g e'.symm; rw [show X.heap[g]? = _ from hs] at ho; cases ho; cases hc)).trans hs

set_option maxRecDepth 100000 in
set_option maxHeartbeats 4000000 in
theorem implWinsOf_slide (k : Int) (S D T : Nat) (w : World) (hk1 : k ≠ 1) (hk3 : k ≠ 3) (hd : defOk k S D) (ht : isT T) :
    Calls Try.prog 15 #[.agg #[.int .i64 k, .int .i64 (S : Int), .int .i64 (D : Int)], .int .i64 (T : Int)] w (WsRes (slides S D T) w) := by
  have hk2 : k = 2 := by have h1 := hd.1; have h2 := hd.2.1; omega
  have hst := hd.2.2.2.2.2 hk2
  have hs1 := hd.2.2.2.1
  have hD : 1 ≤ D := by omega
  have hDS : D ≤ S := by omega
  have hS : S ≤ 100 := by omega
  have hT : T ≤ 1000 := by have := ht.2; omega
  have HD := Lib.hid hd
  have HT := Lib.hid ht
  have b1 : (k == 1) = false := by simpa using hk1
  have b3 : (k == 3) = false := by simpa using hk3
  clear hst hs1 hd ht hk2 hk1 hk3
  refine (callsIn_wide (n := 9)).1 ?_
  refine callsIn_of_wp_marks Try.func15 rfl trivial ?_ rfl
  simp only [Try.ntmps15, List.size_toArray, List.length_cons, List.length_nil, Nat.reduceAdd, Nat.reduceSub, Array.replicate_succ, Array.replicate_zero, List.push_toArray, List.append_toArray, List.nil_append, List.cons_append]
  refine wpIn_wide.2 ?_
  obtain ⟨k0, k1, k2⟩ := (Own.new w 25 [.int .i64 k, .int .i64 (S : Int), .int .i64 (D : Int)]).three
  go_wp2_with fail
  refine (as_bool (tf_yes HD.out).symm (implWinOk_any k S D _)).mono ?_
  rintro e w1 ⟨rfl, hb1⟩
  obtain ⟨ho, hb⟩ := box_own (cs := [.int .i64 k, .int .i64 (S : Int), .int .i64 (D : Int)]) hb1
  clear hb1 k0 k1 k2
  go_wp2_with fail
  refine (as_bool (tf_yes HT.out).symm (isTime_any T _)).mono ?_
  rintro e _ ⟨rfl, rfl⟩
  obtain ⟨k0, k1, k2⟩ := ho.three
  have hlt := ho.lt
  obtain ⟨m0, m1, m2⟩ := ((ho.alloc (.cells #[] 32)).alloc (.cells #[.slice (some ⟨w1.heap.size, 0, none⟩) 0 0] 28)).three
  go_wp2_with fail
  refine (slidingWins_any k S D T _).mono ?_
  rintro e w2 ⟨rfl, rfl⟩
  clear k0 k1 k2 m0 m1 m2
  go_wp2
  have bO : Boxed ((((w1.alloc (.cells #[] 32)).alloc (.cells #[.slice (some ⟨w1.heap.size, 0, none⟩) 0 0] 28)).alloc (.cells #[.int .i64 k, .int .i64 (S : Int), .int .i64 (D : Int)] 25)).alloc (.cells #[.int .i64 (T : Int)] 3)) (w1.heap.size + 1) 28 (.slice (some ⟨w1.heap.size, 0, none⟩) 0 0) := by
    have h := Boxed.new (w1.alloc (.cells #[] 32)) 28 (.slice (some ⟨w1.heap.size, 0, none⟩) 0 0)
    rw [World.size_alloc] at h
    exact (h.alloc _).alloc _
  have oD : Own ((((w1.alloc (.cells #[] 32)).alloc (.cells #[.slice (some ⟨w1.heap.size, 0, none⟩) 0 0] 28)).alloc (.cells #[.int .i64 k, .int .i64 (S : Int), .int .i64 (D : Int)] 25)).alloc (.cells #[.int .i64 (T : Int)] 3)) (w1.heap.size + 1 + 1) 25 [.int .i64 k, .int .i64 (S : Int), .int .i64 (D : Int)] := by
    have h := Own.new ((w1.alloc (.cells #[] 32)).alloc (.cells #[.slice (some ⟨w1.heap.size, 0, none⟩) 0 0] 28)) 25 [.int .i64 k, .int .i64 (S : Int), .int .i64 (D : Int)]
    rw [World.size_alloc, World.size_alloc] at h
    exact h.alloc _
  have oT : Own ((((w1.alloc (.cells #[] 32)).alloc (.cells #[.slice (some ⟨w1.heap.size, 0, none⟩) 0 0] 28)).alloc (.cells #[.int .i64 k, .int .i64 (S : Int), .int .i64 (D : Int)] 25)).alloc (.cells #[.int .i64 (T : Int)] 3)) (w1.heap.size + 1 + 1 + 1) 3 [.int .i64 (T : Int)] := by
    have h := Own.new (((w1.alloc (.cells #[] 32)).alloc (.cells #[.slice (some ⟨w1.heap.size, 0, none⟩) 0 0] 28)).alloc (.cells #[.int .i64 k, .int .i64 (S : Int), .int .i64 (D : Int)] 25)) 3 [.int .i64 (T : Int)]
    rw [World.size_alloc, World.size_alloc, World.size_alloc] at h
    exact h
  have rO : ((((w1.alloc (.cells #[] 32)).alloc (.cells #[.slice (some ⟨w1.heap.size, 0, none⟩) 0 0] 28)).alloc (.cells #[.int .i64 k, .int .i64 (S : Int), .int .i64 (D : Int)] 25)).alloc (.cells #[.int .i64 (T : Int)] 3)).ownsRow w.heap.size 32 2 (.slice (some ⟨w1.heap.size, 0, none⟩) 0 0) 0 [] :=
    owns_empty ((((Own.new w1 32 []).alloc _).alloc _).alloc _) hb.size
  have hB0 := below_trans hb (below_trans (below_alloc w1 (.cells #[] 32)) (below_trans (below_alloc _ (.cells #[.slice (some ⟨w1.heap.size, 0, none⟩) 0 0] 28)) (below_trans (below_alloc _ (.cells #[.int .i64 k, .int .i64 (S : Int), .int .i64 (D : Int)] 25)) (below_alloc _ (.cells #[.int .i64 (T : Int)] 3)))))
  have hsz : w1.heap.size + 1 + 1 + 1 < ((((w1.alloc (.cells #[] 32)).alloc (.cells #[.slice (some ⟨w1.heap.size, 0, none⟩) 0 0] 28)).alloc (.cells #[.int .i64 k, .int .i64 (S : Int), .int .i64 (D : Int)] 25)).alloc (.cells #[.int .i64 (T : Int)] 3)).heap.size := oT.lt
  generalize (((w1.alloc (.cells #[] 32)).alloc (.cells #[.slice (some ⟨w1.heap.size, 0, none⟩) 0 0] 28)).alloc (.cells #[.int .i64 k, .int .i64 (S : Int), .int .i64 (D : Int)] 25)).alloc (.cells #[.int .i64 (T : Int)] 3) = W0 at *
  obtain ⟨i0, hi, hz0, hz1, hz2⟩ := info_parts info_Win
  refine (wpIn_wide (n := 9)).1 (wpIn_rangeFunc_ownH rfl (by decide) (gf := 65) (lb := #[.pointer (some ⟨w1.heap.size + 1 + 1 + 1, 0, none⟩), .pointer (some ⟨w1.heap.size + 1 + 1, 0, none⟩)]) rfl trivial (enters_of Try.func65 (by kernel_rfl) rfl)
    (slide_stops 8 (by decide) k S D T hD hDS hS hT (w1.heap.size + 1 + 1 + 1) (w1.heap.size + 1 + 1) W0 oT oD) kp2_t (kp2_b (by omega) (by omega)) (Below.refl _ _) (fun _ => rfl)
    (fun pre W => ((∃ v, Boxed W (w1.heap.size + 1) 28 v ∧ W.ownsRow w.heap.size 32 2 v pre.length (ez pre) ∧ True) ∧ Own W (w1.heap.size + 1 + 1 + 1) 3 [.int .i64 (T : Int)] ∧ Own W (w1.heap.size + 1 + 1) 25 [.int .i64 k, .int .i64 (S : Int), .int .i64 (D : Int)]) ∧ Below w.heap.size w W)
    (fun _ _ _ => False)
    (OwnFrom.and (OwnFrom.and (Own.from (holdsRow_own w.heap.size (w1.heap.size + 1) 28 32 2 (fun pre => pre.length) ez (fun _ _ => True)) _) (OwnFrom.and (Go.Own.from (own_own _ _ _) _) (Go.Own.from (own_own _ _ _) _))) (ownFrom_below (Nat.le_refl _) (by have := hB0.size; omega)))
    (fun _ _ _ _ _ hs _ _ => hs)
    ⟨⟨⟨_, bO, rO, trivial⟩, oT, oD⟩, hB0⟩
    (fun x a' W => ∃ Bx, w1.heap.size + 1 + 1 + 1 < Bx ∧ Own W Bx 32 [.int .i64 x.1, .int .i64 x.2] ∧ a' = { tmps := #[.agg #[.int .i64 k, .int .i64 (S : Int), .int .i64 (D : Int)], .int .i64 (T : Int), .pointer (some ⟨w.heap.size, 0, none⟩), undef, .slice none 0 0, .pointer (some ⟨w1.heap.size + 1, 0, none⟩), .pointer (some ⟨Bx, 0, none⟩), .agg #[.int .i64 k, .int .i64 (S : Int), .int .i64 (D : Int)], .bool true, .bool false, .bool false, .int .i64 (T : Int), .bool true, .bool false, .bool false, .pointer (some ⟨w.heap.size, 0, none⟩), .int .i64 k, .bool false, .bool false, undef, undef, undef, undef, undef, undef, undef, undef, undef, undef, .bool false, .bool false, undef, undef, undef, undef, undef, .slice (some ⟨w1.heap.size, 0, none⟩) 0 0, .agg #[.int .i64 k, .int .i64 (S : Int), .int .i64 (D : Int)], .int .i64 (T : Int), .func (.func 65) #[] #[.pointer (some ⟨w1.heap.size + 1 + 1 + 1, 0, none⟩), .pointer (some ⟨w1.heap.size + 1 + 1, 0, none⟩)], .agg #[.int .i64 x.1, .int .i64 x.2], undef, undef, undef, undef, undef], defers := [] })
    (fun x a' _ X Y row hs hg hr => by obtain ⟨Bx, h1, h2, h3⟩ := hs; exact ⟨Bx, h1, own_own Bx _ _ () X Y row h2 hg (fun r e => (hr r e).2), h3⟩)
    ?assign ?body ?done ?stop)
  case assign =>
    rintro l pre x W K ⟨⟨⟨v, bv, rv, _⟩, oT1, oD1⟩, hB1⟩ hK
    gi_wp2
    exact hK _ _ ((KeepsOthers.alloc _ _).from _) (kp2_of oT1 (oT1.alloc _) oD1 (oD1.alloc _)) ⟨⟨⟨v, bv.alloc _, rv.alloc _, trivial⟩, oT1.alloc _, oD1.alloc _⟩, below_trans hB1 (below_alloc _ _)⟩ ⟨W.heap.size, oT1.lt, Own.new W 32 [.int .i64 x.1, .int .i64 x.2], rfl⟩
  case body =>
    rintro l pre x a' W hl ⟨r, hr⟩ ⟨⟨⟨v, bv, rv, _⟩, oT1, oD1⟩, hB1⟩ ⟨Bx, hBx, oX, rfl⟩ hlt
    obtain ⟨A, c, rfl, _⟩ := owns_rd rv
    have hc := bv.cell
    obtain ⟨x0, x1⟩ := oX.two
    have hlen : pre.length ≤ 1001 := by omega
    have hbs := hB1.size
    clear hr
    gi_wp2_with (gi_at_builtin; refine wpListIn_append_own _ rfl _ _ 28 rfl w.heap.size 32 i0 (.agg #[.int .i64 0, .int .i64 0]) 2 16 Try.underlying28 hi hz0 hz1 hz2 rfl (by decide) (.slice A pre.length c) pre.length (ez pre) rfl (rv.alloc _) ⟨W.heap.size, 0, none⟩ 1 1 [.int .i64 x.1, .int .i64 x.2] rfl rfl (news_own (Own.new W 32 [.int .i64 x.1, .int .i64 x.2])) (ez_one [x]) (by unfold maxLen; omega) (by omega) (by simp; omega) ?_; intro v' w2 hown' hgrow _; obtain ⟨g', cap', rfl⟩ := ownsRow_succ hown'; obtain ⟨hv1, hv2, hr2, hk2, hb2⟩ := bv.appended (by decide) rv hbs (by omega) hown' hgrow; have hc1 := hv1.cell; have hf1 := hv1.frozen)
    have hr3 : (w2.setCell ⟨w1.heap.size + 1, 0, none⟩ (.slice (some ⟨g', 0, none⟩) (pre.length + 1) cap')).ownsRow w.heap.size 32 2 (.slice (some ⟨g', 0, none⟩) (pre.length + 1) cap') (pre ++ [x]).length (ez (pre ++ [x])) := by
      rw [List.length_append, ez_append]; exact hr2
    have oT2 := (own_kept (oT1.alloc _) hgrow (Ne.symm (types_farS oT1 (by decide) rv))).far (p := ⟨w1.heap.size + 1, 0, none⟩) (by simp only; omega) (.slice (some ⟨g', 0, none⟩) (pre.length + 1) cap')
    have oD2 := (own_kept (oD1.alloc _) hgrow (Ne.symm (types_farS oD1 (by decide) rv))).far (p := ⟨w1.heap.size + 1, 0, none⟩) (by simp only; omega) (.slice (some ⟨g', 0, none⟩) (pre.length + 1) cap')
    exact ⟨hk2.from _, kp2_of oT1 oT2 oD1 oD2, ⟨⟨⟨_, hv2, hr3, trivial⟩, oT2, oD2⟩, hB1.trans hb2⟩⟩
  case done =>
    rintro D' ys W hD' rfl ⟨⟨⟨v, bv, rv, _⟩, oT1, oD1⟩, hB1⟩ hK
    obtain ⟨A, c, rfl, _⟩ := owns_rd rv
    have hc := bv.cell
    have hbs := hB0.size
    go_wp2
    refine ⟨by simp, .inl ⟨_, _, rfl, run_takeDeferred hK, ?_⟩⟩
    refine ⟨.slice A (slides S D T).length c, ?_, ?_⟩
    · exact results_tmp (show Try.f15.results = #[.tmp 4] from rfl) _ _ _
    exact ws_row rfl (ownsRow_putObj rv _ hK rfl) (hB1.trans (belowK_b (w := w) (Nat.le_refl _) W D' _ _ (by omega) hK rfl rfl))
  case stop =>
    rintro D' c pre W _ _ h _
    exact h.elim

set_option maxRecDepth 100000 in
set_option maxHeartbeats 4000000 in
theorem implWinsOf_any (k s t tm : Int) (w : World) :
    Calls Try.prog 15 #[.agg #[.int .i64 k, .int .i64 s, .int .i64 t], .int .i64 tm] w (WsRes (winsOf k s t tm) w) := by
  by_cases hd : defOk k s t
  · by_cases ht : isT tm
    · by_cases e1 : k = 1
      · subst e1
        have hs := hd.2.2.1
        have hs1 := hd.2.2.2.1
        have ht0 := ht.1
        have ht1 := ht.2
        have HD := Lib.hid hd
        have HT := Lib.hid ht
        have HN := Lib.hid (winsOf_tumble hd ht)
        clear hd ht
        obtain ⟨S, rfl⟩ : ∃ S : Nat, s = (S : Int) := ⟨s.toNat, by omega⟩
        obtain ⟨T, rfl⟩ : ∃ T : Nat, tm = (T : Int) := ⟨tm.toNat, by omega⟩
        simp only [Int.toNat_natCast] at HN
        obtain ⟨F, hF2⟩ : ∃ F : Nat, T / S * S = F := ⟨_, rfl⟩
        have hF := Nat.div_mul_le_self T S
        rw [hF2] at HN hF
        obtain ⟨R, hR⟩ : ∃ R : Nat, T % S = R := ⟨_, rfl⟩
        have hq : (T : Int) % (S : Int) = (R : Int) := by rw [← hR]; exact (Int.natCast_emod T S).symm
        have hsub : (T : Int) - (R : Int) = (F : Int) := by
          have h := Nat.div_add_mod T S
          rw [Nat.mul_comm, hF2, hR] at h
          omega
        have hS0 : ¬ (S : Int) = 0 := by omega
        have hRT : (R : Int) ≤ 1000 := by omega
        clear hF2 hR
        obtain ⟨k0, k1, k2⟩ := (Own.new w 25 [.int .i64 1, .int .i64 (S : Int), .int .i64 t]).three
        go_enter Try.func15, Try.ntmps15
        go_wp2_with fail
        refine (as_bool (tf_yes HD.out).symm (implWinOk_any 1 S t _)).mono ?_
        rintro e w1 ⟨rfl, hb1⟩
        obtain ⟨ho, hb⟩ := box_own (cs := [.int .i64 1, .int .i64 (S : Int), .int .i64 t]) hb1
        clear hb1 k0 k1 k2
        go_wp2_with fail
        refine (as_bool (tf_yes HT.out).symm (isTime_any T _)).mono ?_
        rintro e _ ⟨rfl, rfl⟩
        obtain ⟨k0, k1, k2⟩ := ho.three
        have K1 : ∀ u : Bel w1, u.w.cell? ⟨w.heap.size, 1, none⟩ = some (.int .i64 (S : Int)) := fun u => (ho.grow u.ok).three.2.1
        have hq' : (T : Int).tmod (S : Int) = (R : Int) := by rw [Int.tmod_eq_emod_of_nonneg (by omega)]; exact hq
        have hw : IntKind.i64.wrap ((T : Int) - (R : Int)) = (F : Int) := by rw [hsub]; rw [IntKind.wrap_i64]; omega
        have hF0 : (0 : Int) ≤ (F : Int) := by omega
        have hF1 : (F : Int) ≤ 1000 := by omega
        go_wp2
        refine wp_region_belt 8 (by kernel_rfl) (by kernel_rfl) ?_
        simp only [List.take_succ_cons, List.take_zero, List.drop_succ_cons, List.drop_zero]
        repeat (go_big_quiet_step (fail))
        refine wpQuiet_nil ?_
        rintro _ ⟨u, rfl⟩
        clear hw hq' K1 k0 k1 k2
        go_wp2_with fail
        refine (winFrom_any (F : Int) (S : Int) hF0 hF1 (by omega) hs1 _).mono ?_
        rintro e w2 ⟨rfl, hb2⟩
        replace hb := below_trans hb u.ok
        go_wp2
        go_ret
        exact ws_one (by rw [HN.out, Int.natCast_add]) (below_trans hb hb2).size (Own.new _ _ [_, _]) (below_trans (below_trans hb hb2) (below_alloc _ _))
      · by_cases e3 : k = 3
        · subst e3
          have hs := hd.2.2.1
          have hs1 := hd.2.2.2.1
          have ht0 := ht.1
          have ht1 := ht.2
          have HD := Lib.hid hd
          have HT := Lib.hid ht
          have HN := Lib.hid (winsOf_sess hd ht)
          clear hd ht
          obtain ⟨k0, k1, k2⟩ := (Own.new w 25 [.int .i64 3, .int .i64 s, .int .i64 t]).three
          go_enter Try.func15, Try.ntmps15
          go_wp2_with fail
          refine (as_bool (tf_yes HD.out).symm (implWinOk_any 3 s t _)).mono ?_
          rintro e w1 ⟨rfl, hb1⟩
          obtain ⟨ho, hb⟩ := box_own (cs := [.int .i64 3, .int .i64 s, .int .i64 t]) hb1
          clear hb1 k0 k1 k2
          go_wp2_with fail
          refine (as_bool (tf_yes HT.out).symm (isTime_any tm _)).mono ?_
          rintro e _ ⟨rfl, rfl⟩
          obtain ⟨k0, k1, k2⟩ := ho.three
          go_wp2_with fail
          refine (winFrom_any tm s ht0 ht1 (by omega) hs1 _).mono ?_
          rintro e w2 ⟨rfl, hb2⟩
          go_wp2
          go_ret
          exact ws_one HN.out (below_trans hb hb2).size (Own.new _ _ [_, _]) (below_trans (below_trans hb hb2) (below_alloc _ _))
        · rw [winsOf_slide hd ht e1 e3]
          have h1 := hd.2.2.1
          have h2 := ht.1
          have hst := hd.2.2.2.2.2 (by have h1 := hd.1; have h2 := hd.2.1; omega)
          have := implWinsOf_slide k s.toNat t.toNat tm.toNat w e1 e3 (by rw [Int.toNat_of_nonneg (by omega), Int.toNat_of_nonneg (by omega)]; exact hd) (by rw [Int.toNat_of_nonneg (by omega)]; exact ht)
          rw [Int.toNat_of_nonneg (by omega), Int.toNat_of_nonneg (by omega), Int.toNat_of_nonneg (by omega)] at this
          exact this
    · have HD := Lib.hid hd
      have HN := Lib.hid (winsOf_no (k := k) (s := s) (t := t) (fun h => ht h.2))
      have HT := Lib.hid ht
      clear hd ht
      obtain ⟨k0, k1, k2⟩ := (Own.new w 25 [.int .i64 k, .int .i64 s, .int .i64 t]).three
      go_enter Try.func15, Try.ntmps15
      go_wp2_with fail
      refine (as_bool (tf_yes HD.out).symm (implWinOk_any k s t _)).mono ?_
      rintro e w1 ⟨rfl, hb1⟩
      obtain ⟨ho, hb⟩ := box_own (cs := [.int .i64 k, .int .i64 s, .int .i64 t]) hb1
      go_wp2_with fail
      refine (as_bool (tf_no HT.out).symm (isTime_any tm _)).mono ?_
      rintro e _ ⟨rfl, rfl⟩
      go_wp2
      go_ret
      exact ws_nil HN.out hb
  · have HN := Lib.hid (winsOf_no (tm := tm) (fun h => hd h.1))
    have HD := Lib.hid hd
    clear hd
    obtain ⟨k0, k1, k2⟩ := (Own.new w 25 [.int .i64 k, .int .i64 s, .int .i64 t]).three
    go_enter Try.func15, Try.ntmps15
    go_wp2_with fail
    refine (as_bool (tf_no HD.out).symm (implWinOk_any k s t _)).mono ?_
    rintro e w1 ⟨rfl, hb1⟩
    go_wp2
    go_ret
    exact ws_nil HN.out (box_own (cs := [.int .i64 k, .int .i64 s, .int .i64 t]) hb1).2
end Go.Proofs.Ytdphbfapccnhlaa
