/-
  What is drawn for the laws of lattices; laws.big.
-/
import Derived.Test.YtandibofnpndlaaCurD
namespace Go.Proofs.Ytandibofnpndlaa
open Go.RowKit

/-- Some lattice in memory of its own, handed back. -/
def LatNew (w w' : World) (r : Value) (xs : List Nat) : Prop := U64 xs ∧ xs.length ≤ 9 ∧ w'.ownsRow w.heap.size 67 1 r xs.length (us xs) ∧ Below w.heap.size w w'

theorem big_any (A : Option Addr) (n c : Nat) (b : Bool) (w : World) (hb : decide (1048576 < n) = b) (hn : n ≤ 9223372036854775807) :
    Calls Try.prog 15 #[.slice A n c] w fun e w' => e = .returned (.bool b) ∧ w = w' := by
  go_enter Try.func15, Try.ntmps15
  go_wp2
  go_ret
  exact ⟨ret_bool (by rw [← hb]; simp; omega), rfl⟩

theorem below_only_new {w w1 w2 : World} {g : Nat} (h : Below w.heap.size w w1) (hg : w1.grownBy w2 (some g)) (hge : w.heap.size ≤ g) : Below w.heap.size w w2 :=
  h.grown hg h.size (fun k e => by cases e; exact hge)

set_option maxHeartbeats 1000000 in
theorem drawDown_any (A : Option Addr) (n c : Nat) (w : World) (hA : Byt w A n w.heap.size) (hn : n ≤ 1048576) :
    Calls Try.prog 30 #[.slice A n c] w fun e w' => ∃ N r xs a, e = .returned (.tuple #[.agg #[.int .i64 N, r], .int .i64 a]) ∧ LatNew w w' r xs := by
  go_enter Try.func30, Try.ntmps30
  go_wp2_with fail
  refine (l01Open_any A n c _ (by have := hA.below (below_alloc w (.cells #[.int .i64 0, .slice none 0 0] 26)); exact fun k hk => by obtain ⟨ad, b, e, hl, r⟩ := this k hk; exact ⟨ad, b, e, by simp; omega, r⟩) hn).mono ?_
  rintro e w1 ⟨g, hg, rfl, hC, hB1⟩
  obtain ⟨hO, hB⟩ := box_own (cs := [.int .i64 0, .slice none 0 0]) hB1
  simp only [World.size_alloc] at hg
  clear hB1
  go_wp2_with fail
  refine (badLat_any g A n c 0 _ hC hn (by omega)).mono ?_
  rintro e w2 ⟨v, N, xs, rfl, ⟨hu, hx, r, rfl, hrow, hrg⟩, hC2, hG2⟩
  obtain ⟨R, cR, rfl, _⟩ := owns_rd hrow
  have hO2 := own_far hO hG2 (by omega)
  have hB2 := below_only_new hB hG2 (by omega)
  have hgl := hC.lt
  have hsz := hO.lt
  clear hO hB hG2 hC
  go_wp2_with fail
  have hL3 := Own.new w2 26 [.int .i64 N, .slice R xs.length cR]
  have hO3 := hO2.alloc (.cells #[.int .i64 N, .slice R xs.length cR] 26)
  have hr3 := hrow.alloc (.cells #[.int .i64 N, .slice R xs.length cR] 26)
  have hB3 := below_trans hB2 (below_alloc w2 (.cells #[.int .i64 N, .slice R xs.length cR] 26))
  have hC3 := hC2.grow (below_alloc w2 (.cells #[.int .i64 N, .slice R xs.length cR] 26))
  have hlt2 := hC2.lt
  clear hO2 hrow hB2 hC2
  revert hL3 hO3 hr3 hB3 hC3
  generalize w2.alloc (.cells #[.int .i64 N, .slice R xs.length cR] 26) = w3
  generalize w2.heap.size = lx at *
  intro hL3 hO3 hr3 hB3 hC3
  generalize hm : xs.length = m at *
  obtain ⟨c0, c1⟩ := hL3.two
  have HL3 := Lib.hid hL3
  have HO3 := Lib.hid hO3
  have HR3 := Lib.hid hr3
  have HB3 := Lib.hid hB3
  clear hL3 hO3 hr3 hB3
  go_region_with (go_at_call 66; refine (label_any g A n c (0 + 6) N _ _ (hC3.grow (Below.refl _ _).drew) hn (by omega)).mono ?_; rintro e w4 ⟨a, rfl, ha1, ha2, hC4, hG4⟩; have hg4 := grown_trans (grownBy_of (Below.refl w3.heap.size w3).drew (some g)) hG4; have hL4 := Lib.hid (own_far HL3.out hg4 (by omega)); have hO4 := Lib.hid (own_far HO3.out hg4 (by omega)); have k0 := hL4.out.two.1; have k1 := hL4.out.two.2; have q0 := hO4.out.two.1; have q1 := hO4.out.two.2; have f0 := hO4.out.free 0; have f1 := hO4.out.free 1)
  all_goals
    have hE := (hO4.out.set 0 (.int .i64 N)).set 1 (.slice R m cR)
    simp only [List.set_cons_succ, List.set_cons_zero] at hE
    obtain ⟨e0, e1⟩ := hE.two
    have hr4 := owns_far HR3.out hg4 hrg
    have hlt4 := owns_lt hr4 (g := w.heap.size) hsz
    have hr5 := owns_far (owns_far hr4 (only_set (j := 0) (u := .int .i64 N) (World.grownBy.refl w4 _)) hlt4) (only_set (j := 1) (u := .slice R m cR) (World.grownBy.refl _ _)) hlt4
    have hB4 := below_only_new HB3.out hg4 (by omega)
    have HE0 := Lib.hid e0
    have HE1 := Lib.hid e1
    clear hE e0 e1 q0 q1 f0 f1 k0 k1
    go_wp2
    have e0 := HE0.out
    have e1 := HE1.out
    subst hm
    exact bodyPost_ret (v := .tuple #[.agg #[.int .i64 N, .slice R xs.length cR], .int .i64 a]) (by simp [results, Try.results30, go_sem, e0, e1]) rfl ⟨_, _, xs, _, rfl, hu, hx, owns_base hr5 (by omega), (hB4.setCell (Nat.le_refl _) _).setCell (Nat.le_refl _) _⟩

end Go.Proofs.Ytandibofnpndlaa
