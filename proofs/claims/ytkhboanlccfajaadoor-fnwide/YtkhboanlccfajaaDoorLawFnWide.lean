/-
  laws.FnWide returns true.
-/
import Derived.Test.YtkhboanlccfajaaDoorDrawT
import Derived.Test.YtkhboanlccfajaaDoorTextC
import Derived.Test.YtkhboanlccfajaaDoorBoxTail
import Derived.Deep.RegionHeld3
namespace Go.Proofs.YtkhboanlccfajaaDoor
open Go.RowKit

theorem implWideAdd_turned (x y : Int) (w : World) :
    Calls Tryd.prog 9 #[.agg #[.int .i64 (hi y), .int .u64 (lo y)], .agg #[.int .i64 (hi x), .int .u64 (lo x)]] w (WideRes w (hi (x + y)) (lo (x + y))) := by
  have := implWideAdd_any _ _ _ _ y x w rfl rfl rfl rfl
  rwa [Int.add_comm y x] at this

theorem cmp_cases (x y : Int) (hx : Wr x) (hy : Wr y) : ∃ cv dv : Int, cmp3 x y = cv ∧ cmp3 y x = dv ∧ (((hi x = hi y ∧ lo x = lo y) ∧ cv = 0 ∧ dv = 0) ∨ (¬ (hi x = hi y ∧ lo x = lo y) ∧ cv = -1 ∧ dv = 1) ∨ (¬ (hi x = hi y ∧ lo x = lo y) ∧ cv = 1 ∧ dv = -1)) := by
  refine ⟨_, _, rfl, rfl, ?_⟩
  rw [← eq_words hx hy]
  unfold cmp3
  rcases Int.lt_trichotomy x y with h | h | h
  · right; left; exact ⟨by omega, by rw [if_pos h], by rw [if_neg (by omega), if_neg (by omega)]⟩
  · left; exact ⟨h, by rw [if_neg (by omega), if_pos h], by rw [if_neg (by omega), if_pos h.symm]⟩
  · right; right; exact ⟨by omega, by rw [if_neg (by omega), if_neg (by omega)], by rw [if_pos h]⟩

set_option maxRecDepth 100000 in
set_option maxHeartbeats 4000000 in
theorem fnWide_walk (A : Option Addr) (c n : Nat) (w : World) (hA : Byt w A n w.heap.size) (hn : n ≤ 9223372036854775807) (hc : n ≤ c) :
    Calls Tryd.prog 3 #[.slice A n c] w fun e w' => e = .returned (.bool true) ∧ Below w.heap.size w w' := by
  by_cases hb : 1048576 < n
  · go_enter Tryd.func3, Tryd.ntmps3
    go_wp2_with fail
    refine (big_any A n c true _ (by simpa using hb) hn).mono ?_
    rintro e w' ⟨rfl, rfl⟩
    go_wp2
    go_ret
    exact ⟨rfl, Below.refl _ _⟩
  · go_enter Tryd.func3, Tryd.ntmps3
    go_wp2_with fail
    refine (big_any A n c false _ (by simpa using hb) hn).mono ?_
    rintro e w' ⟨rfl, rfl⟩
    go_wp2_with fail
    refine (drawAdd_any A n c _ hA (by omega)).mono ?_
    rintro e w1 ⟨ah, al, bh, bl, rfl, h1, h2, h3, h4, hb1⟩
    obtain ⟨x, hx, rfl, rfl⟩ := wide_in h1 h2
    obtain ⟨y, hy, rfl, rfl⟩ := wide_in h3 h4
    clear h1 h2 h3 h4
    have oA := (Own.new w1 26 [.int .i64 (hi x), .int .u64 (lo x)]).alloc (.cells #[.int .i64 (hi y), .int .u64 (lo y)] 26)
    have oB := Own.new (w1.alloc (.cells #[.int .i64 (hi x), .int .u64 (lo x)] 26)) 26 [.int .i64 (hi y), .int .u64 (lo y)]
    rw [show (w1.alloc (.cells #[.int .i64 (hi x), .int .u64 (lo x)] 26)).heap.size = w1.heap.size + 1 by simp] at oB
    have hb2 := grow_keep (grow_keep hb1 (.cells #[.int .i64 (hi x), .int .u64 (lo x)] 26)) (.cells #[.int .i64 (hi y), .int .u64 (lo y)] 26)
    have hwa : w.heap.size ≤ w1.heap.size := hb1.size
    go_wp2_with fail
    revert oA oB hb2
    generalize (w1.alloc (.cells #[.int .i64 (hi x), .int .u64 (lo x)] 26)).alloc (.cells #[.int .i64 (hi y), .int .u64 (lo y)] 26) = w2
    generalize w1.heap.size = a at *
    intro oA oB hb2
    have hA2 : Byt w2 A n w2.heap.size := by
      have := hA.below hb2
      exact fun k hk => by obtain ⟨ad, b, e, hl, r⟩ := this k hk; exact ⟨ad, b, e, by have := hb2.size; omega, r⟩
    refine (rest_any A n c _ hA2 (by omega) hc).mono ?_
    rintro e w2' ⟨A', c', rfl, rfl, hA3⟩
    go_wp2_with fail
    refine (drawOf_any A' _ c' _ hA3 (by omega)).mono ?_
    rintro e w3 ⟨k, rfl, hk, hb3⟩
    replace oA := oA.grow hb3
    replace oB := oB.grow hb3
    replace hb2 := below_trans hb2 hb3
    clear hA hA2 hA3 hb3 hb hn hc hb1
    have HX := Lib.hid (And.intro hx (And.intro hy hk))
    clear hx hy hk
    obtain ⟨a0, a1⟩ := oA.two
    obtain ⟨b0, b1⟩ := oB.two
    go_wp2_with fail
    refine (implWideAdd_any _ _ _ _ x y _ rfl rfl rfl rfl).mono ?_
    rintro e w4 ⟨rfl, hb4⟩
    clear a0 a1 b0 b1
    replace oA := (oA.grow hb4).alloc (.cells #[.int .i64 (hi (x + y)), .int .u64 (lo (x + y))] 26)
    replace oB := (oB.grow hb4).alloc (.cells #[.int .i64 (hi (x + y)), .int .u64 (lo (x + y))] 26)
    have oS := Own.new w4 26 [.int .i64 (hi (x + y)), .int .u64 (lo (x + y))]
    have hb5 := grow_keep (below_trans hb2 hb4) (.cells #[.int .i64 (hi (x + y)), .int .u64 (lo (x + y))] 26)
    have hw4 : w.heap.size ≤ w4.heap.size := (below_trans hb2 hb4).size
    clear hb4 hb2
    go_wp2
    revert oA oB oS hb5
    generalize w4.alloc (.cells #[.int .i64 (hi (x + y)), .int .u64 (lo (x + y))] 26) = w5
    generalize w4.heap.size = s at *
    intro oA oB oS hb5
    have HO := Lib.hid (And.intro oA (And.intro oB oS))
    clear oA oB oS
    refine wp_region_box 4 7 26 [.int .i64 0, .int .u64 0] (by kernel_rfl) (by kernel_rfl) rfl rfl rfl rfl (by kernel_rfl) (fun a w => by simp [execOp, go_sem, ptr]) ?_
    apply Exists.intro
    refine And.intro ?walk0 ?rest0
    case walk0 =>
      intro w6 hb6
      have f1 : ∀ u : Bel w6, u.w.cell? ⟨s, 0, none⟩ = some (.int .i64 (hi (x + y))) := fun u => ((HO.out.2.2.grow hb6).grow u.ok).two.1
      have f2 : ∀ u : Bel w6, u.w.cell? ⟨s, 1, none⟩ = some (.int .u64 (lo (x + y))) := fun u => ((HO.out.2.2.grow hb6).grow u.ok).two.2
      have f3 : ∀ u : Bel w6, u.w.cell? ⟨a + 1, 0, none⟩ = some (.int .i64 (hi y)) := fun u => ((HO.out.2.1.grow hb6).grow u.ok).two.1
      have f4 : ∀ u : Bel w6, u.w.cell? ⟨a + 1, 1, none⟩ = some (.int .u64 (lo y)) := fun u => ((HO.out.2.1.grow hb6).grow u.ok).two.2
      show wpQuiet _ _ _ _ [_, _, _, _] _
      repeat (go_big_quiet_step (first | (go_at_call 10; exact bel_of _ (implWideNeg_any _ _ y _ rfl rfl)) | (go_at_call 9; exact bel_of _ (implWideAdd_any _ _ _ _ (x + y) (-y) _ rfl rfl rfl rfl))))
      exact wpQuiet_nil rfl
    case rest0 =>
    intro b6 w6 hbb hO6 hw6
    show wpList _ _ _ [_] _ _
    simp only [Act.put, ptr]
    rw [show x + y + -y = x by omega]
    have ff0 := hO6.free 0
    have ff1 := hO6.free 1
    obtain ⟨c0, c1⟩ := hO6.two
    have oK := own_set2 hO6 (.int .i64 (hi x)) (.int .u64 (lo x))
    have hT := below_set2 hw6 hbb (.int .i64 (hi x)) (.int .u64 (lo x))
    have oA := HO.out.1.grow hT
    have oB := HO.out.2.1.grow hT
    have oS := HO.out.2.2.grow hT
    have hb7 := below_trans hb5 hT
    go_wp2_with fail
    clear ff0 ff1 c0 c1 hO6 hw6 hT HO
    revert oK oA oB oS hb7
    generalize (w6.setCell ⟨b6, 0, none⟩ (.int .i64 (hi x))).setCell ⟨b6, 1, none⟩ (.int .u64 (lo x)) = w7
    intro oK oA oB oS hb7
    refine (implWideOf_any k _ HX.out.2.2).mono ?_
    rintro e w8 ⟨rfl, hb8⟩
    go_wp2_with fail
    refine (implWideInt_yes _ _ k _ HX.out.2.2 rfl rfl).mono ?_
    rintro e w9 ⟨rfl, hb9⟩
    have hb89 := below_trans hb8 hb9
    replace oK := oK.grow hb89
    replace oA := oA.grow hb89
    replace oB := oB.grow hb89
    replace oS := oS.grow hb89
    replace hb7 := below_trans hb7 hb89
    clear hb8 hb9 hb89 hb5
    go_wp2
    have f1 : ∀ u : Bel w9, u.w.cell? ⟨s, 0, none⟩ = some (.int .i64 (hi (x + y))) := fun u => (oS.grow u.ok).two.1
    have f2 : ∀ u : Bel w9, u.w.cell? ⟨s, 1, none⟩ = some (.int .u64 (lo (x + y))) := fun u => (oS.grow u.ok).two.2
    have f3 : ∀ u : Bel w9, u.w.cell? ⟨a + 1, 0, none⟩ = some (.int .i64 (hi y)) := fun u => (oB.grow u.ok).two.1
    have f4 : ∀ u : Bel w9, u.w.cell? ⟨a + 1, 1, none⟩ = some (.int .u64 (lo y)) := fun u => (oB.grow u.ok).two.2
    have f5 : ∀ u : Bel w9, u.w.cell? ⟨a, 0, none⟩ = some (.int .i64 (hi x)) := fun u => (oA.grow u.ok).two.1
    have f6 : ∀ u : Bel w9, u.w.cell? ⟨a, 1, none⟩ = some (.int .u64 (lo x)) := fun u => (oA.grow u.ok).two.2
    have f7 : ∀ u : Bel w9, u.w.cell? ⟨b6, 0, none⟩ = some (.int .i64 (hi x)) := fun u => (oK.grow u.ok).two.1
    have f8 : ∀ u : Bel w9, u.w.cell? ⟨b6, 1, none⟩ = some (.int .u64 (lo x)) := fun u => (oK.grow u.ok).two.2
    refine wp_region_bel (by kernel_rfl) (by kernel_rfl) ?_
    repeat (go_big_quiet_step (first | (go_at_call 10; exact bel_of _ (implWideNeg_any _ _ _ _ rfl rfl)) | (go_at_call 13; exact bel_of _ (specWideAdd_any _ _ _ _ x y _ rfl rfl rfl rfl))))
    refine wpQuiet_nil ?_
    rintro _ ⟨u, rfl⟩
    replace oA := oA.grow u.ok
    replace oB := oB.grow u.ok
    replace oS := oS.grow u.ok
    replace hb7 := below_trans hb7 u.ok
    clear f1 f2 f3 f4 f5 f6 f7 f8 oK
    revert oA oB oS hb7
    generalize u.w = w10
    clear u
    intro oA oB oS hb7
    have HT := Lib.hid (And.intro (fun W => implWideText_any (hi k) (lo k) k W (by have := HX.out.2.2; unfold I64 at this; unfold Wr; omega) rfl rfl) (fun W => specWideText_any (hi k) (lo k) k W (by have := HX.out.2.2; unfold I64 at this; unfold Wr; omega) rfl rfl))
    generalize (⟨(decS k).toArray⟩ : ByteArray) = D at HT
    obtain ⟨cv, dv, hcv, hdv, hcs⟩ := cmp_cases x y HX.out.1 HX.out.2.1
    have HCM := Lib.hid (And.intro hcv hdv)
    clear hcv hdv
    obtain ⟨a0, a1⟩ := oA.two
    obtain ⟨b0, b1⟩ := oB.two
    go_wp2_with fail
    clear a0 a1 b0 b1
    refine (as_int HCM.out.1 (implWideCmp_any _ _ _ _ x y _ HX.out.1 HX.out.2.1 rfl rfl rfl rfl)).mono ?_
    rintro e w11 ⟨rfl, hb11⟩
    replace oA := oA.grow hb11
    replace oB := oB.grow hb11
    replace oS := oS.grow hb11
    replace hb7 := below_trans hb7 hb11
    clear hb11
    go_wp2
    have f1 : ∀ u : Bel w11, u.w.cell? ⟨s, 0, none⟩ = some (.int .i64 (hi (x + y))) := fun u => (oS.grow u.ok).two.1
    have f2 : ∀ u : Bel w11, u.w.cell? ⟨s, 1, none⟩ = some (.int .u64 (lo (x + y))) := fun u => (oS.grow u.ok).two.2
    have f3 : ∀ u : Bel w11, u.w.cell? ⟨a + 1, 0, none⟩ = some (.int .i64 (hi y)) := fun u => (oB.grow u.ok).two.1
    have f4 : ∀ u : Bel w11, u.w.cell? ⟨a + 1, 1, none⟩ = some (.int .u64 (lo y)) := fun u => (oB.grow u.ok).two.2
    have f5 : ∀ u : Bel w11, u.w.cell? ⟨a, 0, none⟩ = some (.int .i64 (hi x)) := fun u => (oA.grow u.ok).two.1
    have f6 : ∀ u : Bel w11, u.w.cell? ⟨a, 1, none⟩ = some (.int .u64 (lo x)) := fun u => (oA.grow u.ok).two.2
    clear oA oB oS
    have HC2 := Lib.hid (fun W => as_int HCM.out.2 (implWideCmp_any (hi y) (lo y) (hi x) (lo x) y x W HX.out.2.1 HX.out.1 rfl rfl rfl rfl))
    have HAT := Lib.hid (fun W => implWideAdd_turned x y W)
    have HOF := Lib.hid (fun W => implWideOf_any k W HX.out.2.2)
    clear HCM HX
    generalize hi (x + y) = sh at *
    generalize lo (x + y) = sl at *
    generalize hi x = xh at *
    generalize lo x = xl at *
    generalize hi y = yh at *
    generalize lo y = yl at *
    generalize hi k = kh at *
    generalize lo k = kl at *
    have hcs' : ((xh = yh ∧ xl = yl) ∧ cv = 0 ∧ dv = 0) ∨ ((¬ xh = yh) ∧ cv = -1 ∧ dv = 1) ∨ ((¬ xh = yh) ∧ cv = 1 ∧ dv = -1) ∨ ((xh = yh ∧ ¬ xl = yl) ∧ cv = -1 ∧ dv = 1) ∨ ((xh = yh ∧ ¬ xl = yl) ∧ cv = 1 ∧ dv = -1) := by
      by_cases h1 : xh = yh
      · by_cases h2 : xl = yl
        · rcases hcs with h | h | h
          · exact .inl h
          · exact absurd ⟨h1, h2⟩ h.1
          · exact absurd ⟨h1, h2⟩ h.1
        · rcases hcs with h | h | h
          · exact absurd h.1.2 h2
          · exact .inr (.inr (.inr (.inl ⟨⟨h1, h2⟩, h.2⟩)))
          · exact .inr (.inr (.inr (.inr ⟨⟨h1, h2⟩, h.2⟩)))
      · rcases hcs with h | h | h
        · exact absurd h.1.1 h1
        · exact .inr (.inl ⟨h1, h.2⟩)
        · exact .inr (.inr (.inl ⟨h1, h.2⟩))
    clear hcs
    rcases hcs' with ⟨⟨rfl, rfl⟩, rfl, rfl⟩ | ⟨hd, rfl, rfl⟩ | ⟨hd, rfl, rfl⟩ | ⟨⟨rfl, hd⟩, rfl, rfl⟩ | ⟨⟨rfl, hd⟩, rfl, rfl⟩
    all_goals
      refine wp_region_bel (by kernel_rfl) (by kernel_rfl) ?_
      repeat (go_big_quiet_step (first | (go_at_call 14; exact bel_of _ (HC2.out _)) | (go_at_call 9; exact bel_of _ (HAT.out _)) | (go_at_call 12; exact bel_of _ (HOF.out _)) | (go_at_call 15; exact bel_of _ (HT.out.1 _)) | (go_at_call 16; exact bel_of _ (HT.out.2 _))))
      refine wpQuiet_nil ?_
      rintro _ ⟨u, rfl⟩
      have hb12 := below_trans hb7 u.ok
      clear f1 f2 f3 f4 f5 f6
      go_wp2
      go_ret
      exact ⟨ret_bool (by simp), hb12⟩
end Go.Proofs.YtkhboanlccfajaaDoor
