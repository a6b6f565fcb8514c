/-
  laws.FnMean returns true.
-/
import Derived.Test.YtkhboanlccfajaaDrawWB
import Derived.Test.YtkhboanlccfajaaLawWideMean
import Derived.Test.YtkhboanlccfajaaBoxTail
namespace Go.Proofs.Ytkhboanlccfajaa
open Go.RowKit

theorem and_pow (N t : Nat) (hN : N < 9223372036854775808) (ht : t ≤ 20) : bits .and .i64 (N : Int) ((2 ^ t : Nat) : Int) = ((bit N t * 2 ^ t : Nat) : Int) := by
  have hk : 2 ^ t ≤ 2 ^ 20 := Nat.pow_le_pow_right (by decide) ht
  have hx : N &&& 2 ^ t ≤ 2 ^ t := Nat.and_le_right
  show IntKind.i64.wrap ((BitVec.ofInt 64 (N : Int) &&& BitVec.ofInt 64 ((2 ^ t : Nat) : Int)).toNat : Int) = _
  rw [BitVec.toNat_and, ofInt_u64 N (by omega), ofInt_u64 (2 ^ t) (by omega), IntKind.wrap_i64]
  rw [show bit N t * 2 ^ t = N &&& 2 ^ t from (nat_bit t N).symm]
  omega

theorem mean_step (m : Int) (N t : Nat) : m * ((N / 2 ^ (t + 1) : Nat) : Int) + m * ((N / 2 ^ (t + 1) : Nat) : Int) + m * ((bit N t : Nat) : Int) = m * ((N / 2 ^ t : Nat) : Int) := by
  rw [bit_step N t]
  rw [← Int.mul_add, ← Int.mul_add]
  congr 1
  omega

set_option maxRecDepth 100000 in
set_option maxHeartbeats 4000000 in
theorem fnMean_walk (A : Option Addr) (c n : Nat) (w : World) (hA : Byt w A n w.heap.size) (hn : n ≤ 9223372036854775807) :
    Calls Try.prog 5 #[.slice A n c] w fun e w' => e = .returned (.bool true) ∧ Below w.heap.size w w' := by
  by_cases hb : 1048576 < n
  · go_enter Try.func5, Try.ntmps5
    go_wp2_with fail
    refine (big_any A n c true _ (by simpa using hb) hn).mono ?_
    rintro e w' ⟨rfl, rfl⟩
    go_wp2
    go_ret
    exact ⟨rfl, Below.refl _ _⟩
  · go_enter Try.func5, Try.ntmps5
    go_wp2_with fail
    refine (big_any A n c false _ (by simpa using hb) hn).mono ?_
    rintro e w' ⟨rfl, rfl⟩
    go_wp2_with fail
    refine (drawMean_any A n c _ hA (by omega)).mono ?_
    rintro e w1 ⟨h, l, k, rfl, hh, hl, hk, hb1⟩
    obtain ⟨x, hx, e1, e2⟩ := wide_in hh hl
    obtain ⟨m, ok, hI, hS, hy, hz⟩ := mean_both h l x k hx e1 e2
    have HI := Lib.hid hI
    have HS := Lib.hid hS
    have HY := Lib.hid (And.intro hy hz)
    have HE := Lib.hid (And.intro e1 (And.intro e2 hx))
    clear hI hS hy hz e1 e2 hx hh hl hk hb hA hn
    have oA := Own.new w1 43 [.int .i64 h, .int .u64 l]
    have hb2 := grow_keep hb1 (.cells #[.int .i64 h, .int .u64 l] 43)
    go_wp2_with fail
    refine (HS.out _).mono ?_
    rintro e w3 ⟨rfl, hb3⟩
    replace oA := oA.grow hb3
    replace hb3 := below_trans hb2 hb3
    obtain ⟨c0, c1⟩ := oA.two
    go_wp2_with fail
    clear c0 c1
    refine (HI.out _).mono ?_
    rintro e w4 ⟨rfl, hb4⟩
    replace oA := oA.grow hb4
    replace hb4 := below_trans hb3 hb4
    cases ok with
    | false =>
      obtain rfl := HY.out.2 rfl
      go_wp2
      go_ret
      exact ⟨rfl, hb4⟩
    | true =>
      obtain ⟨k1, k2, rfl, hm⟩ := HY.out.1 rfl
      obtain ⟨N, rfl⟩ := Int.eq_ofNat_of_zero_le (show 0 ≤ k by omega)
      have hN : N ≤ 1000000 := by omega
      generalize hmd : x / (N : Int) = m at *
      have oL := Own.new w4 43 [.int .i64 0, .int .u64 0]
      have oA5 := oA.alloc (.cells #[.int .i64 0, .int .u64 0] 43)
      have hb5 := grow_keep hb4 (.cells #[.int .i64 0, .int .u64 0] 43)
      have hdl : w1.heap.size < w4.heap.size := oA.lt
      have hdw : w.heap.size ≤ w1.heap.size := hb1.size
      have HM := Lib.hid (And.intro hmd (And.intro hm hN))
      clear hmd hm hN hb4 hb3 hb2 hb1 oA HI HS HY
      generalize hNi : (N : Int) = ni at *
      have HNi := Lib.hid hNi
      clear hNi
      go_wp2
      revert oL oA5 hb5
      generalize w4.alloc (.cells #[.int .i64 0, .int .u64 0] 43) = w5
      intro oL oA5 hb5
      generalize w4.heap.size = dl at *
      generalize w1.heap.size = da at *
      go_loopw [10] (fun i wr => ∃ (t : Nat) (j q : Int), t ≤ 21 ∧ i = .int .i64 j ∧ 0 ≤ j ∧ j ≤ 1048576 ∧ Hid (j = ((2 ^ t / 2 : Nat) : Int) ∧ q = m * ((N / 2 ^ t : Nat) : Int)) ∧ Own wr dl 43 [.int .i64 (hi q), .int .u64 (lo q)] ∧ Own wr da 43 [.int .i64 h, .int .u64 l] ∧ Below w.heap.size w wr) (fun i _ => (intOf i).toNat)
      case atStart => exact ⟨21, 1048576, 0, by omega, rfl, by omega, by omega, Lib.hid ⟨by decide, by rw [Nat.div_eq_of_lt (by have := HM.out.2.2; omega)]; simp⟩, oL, oA5, hb5⟩
      case round =>
        clear oL oA5 hb5
        obtain ⟨t, j, q, ht, rfl, hj0, hj1, hjq, oL, oA, hbr⟩ := hrel
        obtain ⟨c0, c1⟩ := oL.two
        rcases Nat.eq_zero_or_pos t with rfl | ht0
        · obtain rfl : j = 0 := by have := hjq.out.1; simpa using this
          clear c0 c1
          have hqv : q = m * ni := by have := hjq.out.2; rw [← HNi.out]; simpa using this
          have hxm := Int.mul_ediv_add_emod x ni
          have hx0 := Int.emod_nonneg x (show ni ≠ 0 by omega)
          have hx1 := Int.emod_lt_of_pos x (show 0 < ni by omega)
          rw [HM.out.1, Int.mul_comm, ← hqv] at hxm
          have hw1 : Wr q := by
            have h1 := Int.mul_le_mul_of_nonneg_right HM.out.2.1.1 (show 0 ≤ ni by omega)
            have h2 := Int.mul_le_mul_of_nonneg_right HM.out.2.1.2 (show 0 ≤ ni by omega)
            rw [← hqv] at h1 h2
            unfold Wr; omega
          have hw2 : Wr (q + ni) := by
            have h1 := Int.mul_le_mul_of_nonneg_right HM.out.2.1.1 (show 0 ≤ ni by omega)
            have h2 := Int.mul_le_mul_of_nonneg_right HM.out.2.1.2 (show 0 ≤ ni by omega)
            rw [← hqv] at h1 h2
            unfold Wr; omega
          have hc1 : cmp3 q x ≤ 0 := by unfold cmp3; split; omega; rw [if_pos (by omega)]; omega
          have hc2 : cmp3 x (q + ni) < 0 := by unfold cmp3; rw [if_pos (by omega)]; omega
          have HW := Lib.hid (And.intro hw1 hw2)
          have hni : I64 ni := by unfold I64; omega
          have HNN := Lib.hid hni
          clear hqv hxm hx0 hx1 hw1 hw2 hni hjq ht hj0 hj1
          generalize hd1 : cmp3 q x = r1 at hc1
          generalize hd2 : cmp3 x (q + ni) = r2 at hc2
          have HD := Lib.hid (And.intro hd1 hd2)
          clear hd1 hd2
          have HO := Lib.hid (And.intro oL oA)
          clear oL oA
          go_wp2
          refine wp_region_box 4 11 43 [.int .i64 0, .int .u64 0] (by kernel_rfl) (by kernel_rfl) rfl rfl rfl rfl (by kernel_rfl) (fun a w => by simp [execOp, go_sem, ptr]) ?_
          apply Exists.intro
          refine And.intro ?walk0 ?rest0
          case walk0 =>
            intro w6 hb6
            have f1 : ∀ u : Bel w6, u.w.cell? ⟨dl, 0, none⟩ = some (.int .i64 (hi q)) := fun u => ((HO.out.1.grow hb6).grow u.ok).two.1
            have f2 : ∀ u : Bel w6, u.w.cell? ⟨dl, 1, none⟩ = some (.int .u64 (lo q)) := fun u => ((HO.out.1.grow hb6).grow u.ok).two.2
            show wpQuiet _ _ _ _ [_, _, _, _] _
            repeat (go_big_quiet_step (first | (go_at_call 31; exact bel_of _ (implWideOf_any ni _ HNN.out)) | (go_at_call 30; exact bel_of _ (implWideAdd_any _ _ _ _ q ni _ rfl rfl rfl rfl))))
            exact wpQuiet_nil rfl
          case rest0 =>
          intro b6 w6 hbb hO6 hw6
          show wpList _ _ _ [_] _ _
          simp only [Act.put, ptr]
          have ff0 := hO6.free 0
          have ff1 := hO6.free 1
          obtain ⟨c0, c1⟩ := hO6.two
          have hS := own_set2 hO6 (.int .i64 (hi (q + ni))) (.int .u64 (lo (q + ni)))
          have hT := below_set2 hw6 hbb (.int .i64 (hi (q + ni))) (.int .u64 (lo (q + ni)))
          have oL6 := HO.out.1.grow hT
          have oA6 := HO.out.2.grow hT
          have hb7 := below_trans hbr hT
          obtain ⟨g0, g1⟩ := oL6.two
          obtain ⟨p0, p1⟩ := oA6.two
          go_wp2_with fail
          clear ff0 ff1 c0 c1 hO6 hw6 g0 g1 p0 p1
          revert hS hT oL6 oA6 hb7
          generalize (w6.setCell ⟨b6, 0, none⟩ (.int .i64 (hi (q + ni)))).setCell ⟨b6, 1, none⟩ (.int .u64 (lo (q + ni))) = w7
          intro hS hT oL6 oA6 hb7
          refine (as_int HD.out.1 (implWideCmp_any _ _ _ _ q x _ HW.out.1 HE.out.2.2 rfl rfl HE.out.1 HE.out.2.1)).mono ?_
          rintro e w8 ⟨rfl, hb8⟩
          have hS8 := hS.grow hb8
          have oA8 := oA6.grow hb8
          obtain ⟨g0, g1⟩ := hS8.two
          obtain ⟨p0, p1⟩ := oA8.two
          clear hS oL6 oA6
          go_wp2_with fail
          refine (as_int HD.out.2 (implWideCmp_any _ _ _ _ x (q + ni) _ HE.out.2.2 HW.out.2 HE.out.1 HE.out.2.1 rfl rfl)).mono ?_
          rintro e w9 ⟨rfl, hb9⟩
          replace hb9 := below_trans (below_trans hb7 hb8) hb9
          clear g0 g1 p0 p1 hS8 oA8
          go_wp2
          go_ret
          exact ⟨ret_bool (by simp), hb9⟩
        · obtain ⟨s, rfl⟩ : ∃ s, t = s + 1 := ⟨t - 1, by omega⟩
          have hjs : j = ((2 ^ s : Nat) : Int) := by rw [hjq.out.1, Nat.pow_succ]; omega
          have hpos : 0 < 2 ^ s := Nat.pos_of_ne_zero (by simp)
          have hjp : 0 < j := by omega
          have hand : bits .and .i64 ni j = ((bit N s * 2 ^ s : Nat) : Int) := by rw [← HNi.out, hjs]; exact and_pow N s (by have := HM.out.2.2; omega) (by omega)
          have hst := mean_step m N s
          have hbit := bitN_lt N s
          have HJ := Lib.hid (show j / 2 = ((2 ^ s / 2 : Nat) : Int) by rw [hjs]; omega)
          have hj2 : j / 2 < j := by omega
          rcases (show bit N s = 0 ∨ bit N s = 1 by omega) with hb0 | hb1
          · rw [hb0, Nat.zero_mul] at hand
            rw [hb0] at hst
            have HQ := Lib.hid (show q + q = m * ((N / 2 ^ s : Nat) : Int) by rw [hjq.out.2, ← hst]; simp)
            have hand' : bits .and .i64 ni j = 0 := hand
            clear hand hst hbit hb0 hjs hpos
            go_wp2_with fail
            refine (implWideAdd_any _ _ _ _ q q _ rfl rfl rfl rfl).mono ?_
            rintro e w6 ⟨rfl, hb6⟩
            have oL6 := oL.grow hb6
            have oA6 := (oA.grow hb6).far (p := ⟨dl, 0, none⟩) (by simp; omega) (.int .i64 (hi (q + q))) |>.far (p := ⟨dl, 1, none⟩) (by simp; omega) (.int .u64 (lo (q + q)))
            have hb7 := below_set2 (below_trans hbr hb6) (show w.heap.size ≤ dl by omega) (.int .i64 (hi (q + q))) (.int .u64 (lo (q + q)))
            have oL7 := own_set2 oL6 (.int .i64 (hi (q + q))) (.int .u64 (lo (q + q)))
            obtain ⟨d0, d1⟩ := oL6.two
            have ff0 := oL6.free 0
            have ff1 := oL6.free 1
            clear c0 c1 oL oA oL6 hbr
            go_wp2
            go_roundw
            case rel => exact ⟨s, j / 2, q + q, by omega, rfl, by omega, by omega, Lib.hid ⟨HJ.out, HQ.out⟩, oL7, oA6, hb7⟩
            case measure => simp [intOf]; omega
          · rw [hb1, Nat.one_mul, ← hjs] at hand
            rw [hb1] at hst
            have HQ := Lib.hid (show q + q + m = m * ((N / 2 ^ s : Nat) : Int) by rw [hjq.out.2, ← hst]; simp)
            have hjn : (j != 0) = true := by simp; omega
            clear hst hbit hb1 hjs hpos
            go_wp2_with fail
            refine (implWideAdd_any _ _ _ _ q q _ rfl rfl rfl rfl).mono ?_
            rintro e w6 ⟨rfl, hb6⟩
            have oL6 := oL.grow hb6
            have oA7 := (oA.grow hb6).far (p := ⟨dl, 0, none⟩) (by simp; omega) (.int .i64 (hi (q + q))) |>.far (p := ⟨dl, 1, none⟩) (by simp; omega) (.int .u64 (lo (q + q)))
            have hb7 := below_set2 (below_trans hbr hb6) (show w.heap.size ≤ dl by omega) (.int .i64 (hi (q + q))) (.int .u64 (lo (q + q)))
            have oL7 := own_set2 oL6 (.int .i64 (hi (q + q))) (.int .u64 (lo (q + q)))
            obtain ⟨d0, d1⟩ := oL6.two
            have ff0 := oL6.free 0
            have ff1 := oL6.free 1
            clear c0 c1 oL oA oL6 hbr
            go_wp2
            clear d0 d1 ff0 ff1
            revert oA7 hb7 oL7
            generalize (w6.setCell ⟨dl, 0, none⟩ (.int .i64 (hi (q + q)))).setCell ⟨dl, 1, none⟩ (.int .u64 (lo (q + q))) = w7
            intro oA7 hb7 oL7
            have HI64 := Lib.hid HM.out.2.1
            have f0 : ∀ u : Bel w7, u.w.cell? ⟨dl, 0, none⟩ = some (.int .i64 (hi (q + q))) := fun u => (oL7.grow u.ok).two.1
            have f1 : ∀ u : Bel w7, u.w.cell? ⟨dl, 1, none⟩ = some (.int .u64 (lo (q + q))) := fun u => (oL7.grow u.ok).two.2
            refine wp_region_belt 4 (by kernel_rfl) (by kernel_rfl) ?_
            show wpQuiet _ _ _ _ [_, _, _, _] _
            repeat (go_big_quiet_step (first | (go_at_call 31; exact bel_of _ (implWideOf_any m _ HI64.out)) | (go_at_call 30; exact bel_of _ (implWideAdd_any _ _ _ _ (q + q) m _ rfl rfl rfl rfl))))
            refine wpQuiet_nil ?_
            rintro _ ⟨u, rfl⟩
            clear f0 f1
            have oL8 := oL7.grow u.ok
            have oA9 := ((oA7.grow u.ok).far (p := ⟨dl, 0, none⟩) (by simp; omega) (.int .i64 (hi (q + q + m)))).far (p := ⟨dl, 1, none⟩) (by simp; omega) (.int .u64 (lo (q + q + m)))
            have hb9 := below_set2 (below_trans hb7 u.ok) (show w.heap.size ≤ dl by omega) (.int .i64 (hi (q + q + m))) (.int .u64 (lo (q + q + m)))
            have oL9 := own_set2 oL8 (.int .i64 (hi (q + q + m))) (.int .u64 (lo (q + q + m)))
            obtain ⟨d0, d1⟩ := oL8.two
            have ff0 := oL8.free 0
            have ff1 := oL8.free 1
            clear oL8 oL7 oA7
            show wpList _ _ _ [_] _ _
            go_wp2
            go_roundw
            case rel => exact ⟨s, j / 2, q + q + m, by omega, rfl, by omega, by omega, Lib.hid ⟨HJ.out, HQ.out⟩, oL9, oA9, hb9⟩
            case measure => simp [intOf]; omega
end Go.Proofs.Ytkhboanlccfajaa
