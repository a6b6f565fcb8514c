/-
  What is drawn for the law on 128-bit integers; the later half of the bytes.
-/
import Derived.Test.YtkhboanlccfajaaDoorDrawW
import Derived.Deep.RegionWith
namespace Go.Proofs.YtkhboanlccfajaaDoor
open Go.RowKit

theorem below_only_new' {w w1 w2 : World} {g : Nat} (h : Below w.heap.size w w1) (hg : w1.grownBy w2 (some g)) (hge : w.heap.size ≤ g) : Below w.heap.size w w2 :=
  h.grown hg h.size (fun k e => by cases e; exact hge)

set_option maxHeartbeats 1000000 in
theorem drawOf_any (A : Option Addr) (n c : Nat) (w : World) (hA : Byt w A n w.heap.size) (hn : n ≤ 1048576) :
    Calls Tryd.prog 7 #[.slice A n c] w fun e w' => ∃ k, e = .returned (.int .i64 k) ∧ I64 k ∧ Below w.heap.size w w' := by
  go_enter Tryd.func7, Tryd.ntmps7
  go_wp2_with fail
  refine (l01Open_any A n c _ hA hn).mono ?_
  rintro e w1 ⟨g, hg, rfl, hC, hB1⟩
  go_wp2_with fail
  refine (raw_any g A n c 0 _ hC hn (by omega)).mono ?_
  rintro e w2 ⟨y, rfl, y1, y2, hC2, hG2⟩
  have hb2 := below_only_new' hB1 hG2 hg
  go_wp2
  go_ret
  exact ⟨y, rfl, ⟨y1, y2⟩, hb2⟩

theorem add_two (ad : Addr) (a k : Nat) : (ad.add a).add k = ad.add (a + k) := by
  unfold Addr.add
  repeat' split
  all_goals simp_all <;> omega

set_option maxHeartbeats 1000000 in
theorem rest_any (A : Option Addr) (n c : Nat) (w : World) (hA : Byt w A n w.heap.size) (hn : n ≤ 1048576) (hc : n ≤ c) :
    Calls Tryd.prog 8 #[.slice A n c] w fun e w' => ∃ A' c', e = .returned (.slice A' (n - n / 2) c') ∧ w = w' ∧ Byt w A' (n - n / 2) w.heap.size := by
  go_enter Tryd.func8, Tryd.ntmps8
  go_wp2
  · have h0 : n = 0 := by omega
    subst h0
    go_ret
    exact ⟨A, ⟨0, rfl⟩, rfl, fun k hk => by omega⟩
  · go_ret
    refine ⟨_, ⟨_, rfl⟩, rfl, fun k hk => ?_⟩
    obtain ⟨ad, b, rfl, hl, hb, hcc⟩ := hA (n / 2 + k) (by omega)
    exact ⟨ad.add (n / 2), b, rfl, by rw [add_block]; exact hl, hb, by rw [add_two]; exact hcc⟩

set_option maxHeartbeats 2000000 in
theorem drawAdd_any (A : Option Addr) (n c : Nat) (w : World) (hA : Byt w A n w.heap.size) (hn : n ≤ 1048576) :
    Calls Tryd.prog 6 #[.slice A n c] w fun e w' => ∃ h l h2 l2, e = .returned (.tuple #[.agg #[.int .i64 h, .int .u64 l], .agg #[.int .i64 h2, .int .u64 l2]]) ∧ I64 h ∧ U64w l ∧ I64 h2 ∧ U64w l2 ∧ Below w.heap.size w w' := by
  go_enter Tryd.func6, Tryd.ntmps6
  go_wp2_with fail
  have hz2 := below2 w (.cells #[.int .i64 0, .int .u64 0] 26) (.cells #[.int .i64 0, .int .u64 0] 26)
  have oA := (Own.new w 26 [.int .i64 0, .int .u64 0]).alloc (.cells #[.int .i64 0, .int .u64 0] 26)
  have oB := Own.new (w.alloc (.cells #[.int .i64 0, .int .u64 0] 26)) 26 [.int .i64 0, .int .u64 0]
  rw [show (w.alloc (.cells #[.int .i64 0, .int .u64 0] 26)).heap.size = w.heap.size + 1 by simp] at oB
  have hs : ((w.alloc (.cells #[.int .i64 0, .int .u64 0] 26)).alloc (.cells #[.int .i64 0, .int .u64 0] 26)).heap.size = w.heap.size + 2 := by simp
  revert hz2 oA oB hs
  generalize (w.alloc (.cells #[.int .i64 0, .int .u64 0] 26)).alloc (.cells #[.int .i64 0, .int .u64 0] 26) = w0
  intro hz2 oA oB hs
  refine (l01Open_any A n c _ (by have := hA.below hz2; exact fun k hk => by obtain ⟨ad, b, e, hl, r⟩ := this k hk; exact ⟨ad, b, e, by omega, r⟩) hn).mono ?_
  rintro e w1 ⟨g, hg, rfl, hC, hB1⟩
  rw [hs] at hg
  replace oA := oA.grow hB1
  replace oB := oB.grow hB1
  have hb1 := below_trans hz2 hB1
  clear hB1 hz2 hA hs
  go_wp2_with fail
  refine (wideNum_any g A n c 0 _ hC hn (by omega)).mono ?_
  rintro e w2 ⟨h, l, rfl, hh, hl, hC2, hG2⟩
  replace oA := own_far oA hG2 (by omega)
  replace oB := own_far oB hG2 (by omega)
  replace hb1 := below_only_new' hb1 hG2 (by omega)
  clear hC hG2
  go_wp2_with fail
  refine (wideNum_any g A n c _ _ hC2 hn (by omega)).mono ?_
  rintro e w3 ⟨h2, l2, rfl, hh2, hl2, hC3, hG3⟩
  replace oA := own_far oA hG3 (by omega)
  replace oB := own_far oB hG3 (by omega)
  replace hb1 := below_only_new' hb1 hG3 (by omega)
  clear hC2 hC3 hG3
  have oA2 := own_set2 oA (.int .i64 h) (.int .u64 l)
  have oB2 := (oB.far (p := ⟨w.heap.size, 0, none⟩) (by simp) (.int .i64 h)).far (p := ⟨w.heap.size, 1, none⟩) (by simp) (.int .u64 l)
  have oA3 := (oA2.far (p := ⟨w.heap.size + 1, 0, none⟩) (by simp) (.int .i64 h2)).far (p := ⟨w.heap.size + 1, 1, none⟩) (by simp) (.int .u64 l2)
  have oB3 := own_set2 oB2 (.int .i64 h2) (.int .u64 l2)
  have hb2 := below_set2 (below_set2 hb1 (Nat.le_refl _) (.int .i64 h) (.int .u64 l)) (show w.heap.size ≤ w.heap.size + 1 by omega) (.int .i64 h2) (.int .u64 l2)
  obtain ⟨a0, a1⟩ := oA.two
  obtain ⟨b0, b1⟩ := oB2.two
  have af0 := oA.free 0
  have af1 := oA.free 1
  have bf0 := oB2.free 0
  have bf1 := oB2.free 1
  have r0 := oA3.two.1
  have r1 := oA3.two.2
  have s0 := oB3.two.1
  have s1 := oB3.two.2
  go_wp2
  exact bodyPost_ret (v := .tuple #[.agg #[.int .i64 h, .int .u64 l], .agg #[.int .i64 h2, .int .u64 l2]]) (by simp [results, Tryd.results6, go_sem, r0, r1, s0, s1]) rfl ⟨h, l, h2, l2, rfl, hh, hl, hh2, hl2, hb2⟩
end Go.Proofs.YtkhboanlccfajaaDoor
