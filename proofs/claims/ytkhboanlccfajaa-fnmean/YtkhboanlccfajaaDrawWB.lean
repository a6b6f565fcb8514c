/-
  What is drawn for the law on means.
-/
import Derived.Test.YtkhboanlccfajaaDrawW
import Derived.IntWalk
namespace Go.Proofs.Ytkhboanlccfajaa
open Go.RowKit

theorem below_only_new {w w1 w2 : World} {g : Nat} (h : Below w.heap.size w w1) (hg : w1.grownBy w2 (some g)) (hge : w.heap.size ≤ g) : Below w.heap.size w w2 :=
  h.grown hg h.size (fun k e => by cases e; exact hge)

/-- the counts that one is taken of -/
def lit7 (p y : Int) : List Value := [.int .i64 1, .int .i64 2, .int .i64 3, .int .i64 (1 + p), .int .i64 1000000, .int .i64 1000001, .int .i64 y]
theorem lit7_at {p y : Int} {r : Nat} (hr : (r : Int) < 7) (hp : 0 ≤ p ∧ p < 200) (hy : I64 y) : ∃ z, (lit7 p y)[r]? = some (.int .i64 z) ∧ [Value.int .i64 1, .int .i64 2, .int .i64 3, .int .i64 (1 + p), .int .i64 1000000, .int .i64 1000001, .int .i64 y][r]? = some (.int .i64 z) ∧ #[Value.int .i64 1, .int .i64 2, .int .i64 3, .int .i64 (1 + p), .int .i64 1000000, .int .i64 1000001, .int .i64 y][r]? = some (.int .i64 z) ∧ I64 z := by
  rcases (show r = 0 ∨ r = 1 ∨ r = 2 ∨ r = 3 ∨ r = 4 ∨ r = 5 ∨ r = 6 by omega) with rfl | rfl | rfl | rfl | rfl | rfl | rfl
  · exact ⟨1, rfl, rfl, rfl, by unfold I64; omega⟩
  · exact ⟨2, rfl, rfl, rfl, by unfold I64; omega⟩
  · exact ⟨3, rfl, rfl, rfl, by unfold I64; omega⟩
  · exact ⟨1 + p, rfl, rfl, rfl, by unfold I64; omega⟩
  · exact ⟨1000000, rfl, rfl, rfl, by unfold I64; omega⟩
  · exact ⟨1000001, rfl, rfl, rfl, by unfold I64; omega⟩
  · exact ⟨y, rfl, rfl, rfl, hy⟩

set_option maxHeartbeats 2000000 in
theorem drawMean_any (A : Option Addr) (n c : Nat) (w : World) (hA : Byt w A n w.heap.size) (hn : n ≤ 1048576) :
    Calls Try.prog 27 #[.slice A n c] w fun e w' => ∃ h l k, e = .returned (.tuple #[.agg #[.int .i64 h, .int .u64 l], .int .i64 k]) ∧ I64 h ∧ U64w l ∧ I64 k ∧ Below w.heap.size w w' := by
  go_enter Try.func27, Try.ntmps27
  go_wp2_with fail
  refine (l01Open_any A n c _ (by have := hA.below (below_alloc w (.cells #[.int .i64 0, .int .u64 0] 43)); exact fun k hk => by obtain ⟨ad, b, e, hl, r⟩ := this k hk; exact ⟨ad, b, e, by simp; omega, r⟩) hn).mono ?_
  rintro e w1 ⟨g, hg, rfl, hC, hB1⟩
  obtain ⟨hO, hB⟩ := box_own (cs := [.int .i64 0, .int .u64 0]) hB1
  simp only [World.size_alloc] at hg
  clear hB1 hA
  have hgr : w.heap.size ≠ g := by omega
  have HO := Lib.hid hO
  have HB := Lib.hid hB
  have HC := Lib.hid hC
  have HH := Lib.hid hn
  clear hO hB hC hn
  go_wp2_with fail
  go_region_with (first
    | (go_at_call 59; refine (wideNum_any g A n c 0 _ (HC.out.grow (Below.refl _ _).drew) HH.out (by omega)).mono ?_; rintro e w3 ⟨h, l, rfl, hh, hl, hC3, hG3⟩; have hg3 := Lib.hid (grown_trans (grownBy_of (Below.refl w1.heap.size w1).drew (some g)) hG3); have hO3 := Lib.hid (own_far HO.out hg3.out hgr); clear hG3)
    | (go_at_call 60; have hx5 := hC5; refine (pick_any g A n c (0 + 10 + 1 + 2) 7 _ (by first | exact hC5 | exact hC5.grow (below_alloc _ _)) HH.out (by omega) (by omega) (by omega)).mono ?_; rintro e w6 ⟨r, rfl, hr, hC6, hG6⟩; obtain ⟨z, hz, hzl, hz', hzI⟩ := lit7_at hr ⟨hp0, hp⟩ ⟨y1, y2⟩; (try have hcell : w6.cell? ⟨w5.heap.size, r, none⟩ = some (.int .i64 z) := ((own_far (Own.new w5 3 (lit7 p y)) hG6 (by have := hC5.lt; omega)).cell r).trans hz); have hO6 := Lib.hid (by first | exact own_far hO5.out hG6 hgr | exact own_far (hO5.out.alloc _) hG6 hgr : Own w6 w.heap.size 43 [.int .i64 0, .int .u64 0]); have o60 := hO6.out.two.1; have o61 := hO6.out.two.2; have of60 := hO6.out.free 0; have of61 := hO6.out.free 1; have p60 := fun o => (hO6.out.alloc o).two.1; have p61 := fun o => (hO6.out.alloc o).two.2; have pf60 := fun o => (hO6.out.alloc o).free 0; have pf61 := fun o => (hO6.out.alloc o).free 1; have a6 : ¬ w6.heap.size = w.heap.size := Nat.ne_of_gt hO6.out.lt; have a6' : ¬ w.heap.size = w6.heap.size := Nat.ne_of_lt hO6.out.lt; have a5 : ¬ w5.heap.size = w.heap.size := Nat.ne_of_gt hO5.out.lt; have a5' : ¬ w.heap.size = w5.heap.size := Nat.ne_of_lt hO5.out.lt; have HG6 := Lib.hid hG6; have HC6 := Lib.hid hC6; clear hG6 hC6 hz)
    | (go_at_call 60; refine (pick_any g A n c (0 + 10) 200 _ hC3 HH.out (by omega) (by omega) (by omega)).mono ?_; rintro e w4 ⟨p', rfl, hp, hC4, hG4⟩; have hg4 := Lib.hid hG4; have hO4 := Lib.hid (own_far hO3.out hG4 hgr); generalize hpi : (p' : Int) = p at hp ⊢; have hp0 : 0 ≤ p := hpi ▸ Int.natCast_nonneg p'; have hsum : IntKind.i64.wrap (1 + p) = 1 + p := IntWalk.i64_in _ ⟨by omega, by omega⟩; clear hG4 hpi)
    | (go_at_call 61; refine (raw_any g A n c (0 + 10 + 1) _ hC4 HH.out (by omega)).mono ?_; rintro e w5 ⟨y, rfl, y1, y2, hC5, hG5⟩; have hg5 := Lib.hid hG5; have hO5 := Lib.hid (own_far hO4.out hG5 hgr); clear hG5))
  all_goals
    have hb5 := below_only_new (below_only_new (below_only_new HB.out hg3.out (by omega)) hg4.out (by omega)) hg5.out (by omega)
    have hb6 : Below w.heap.size w w6 := by
      first
      | exact below_only_new hb5 HG6.out (by omega)
      | exact below_only_new (grow_keep hb5 _) HG6.out (by omega)
    clear hb5
    have s0 := fun o => ((own_set2 hO6.out (.int .i64 h) (.int .u64 l)).alloc o).two.1
    have s1 := fun o => ((own_set2 hO6.out (.int .i64 h) (.int .u64 l)).alloc o).two.2
    go_wp2
    refine bodyPost_ret (v := .tuple #[.agg #[.int .i64 h, .int .u64 l], .int .i64 z]) (by simp [results, Try.results27, go_sem, o60, o61, p60, p61, s0, s1]) rfl ⟨h, l, z, rfl, hh, hl, hzI, ?_⟩
    first
    | exact below_set2 hb6 (Nat.le_refl _) _ _
    | exact below_set2 (grow_keep hb6 _) (Nat.le_refl _) _ _
    | exact grow_keep (below_set2 hb6 (Nat.le_refl _) _ _) _
end Go.Proofs.Ytkhboanlccfajaa
