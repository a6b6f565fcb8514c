/-
  What is drawn for FnLatEdges.
-/
import Derived.Test.YtandibofnpndlaaDraw
namespace Go.Proofs.Ytandibofnpndlaa
open Go.RowKit

set_option maxHeartbeats 1000000 in
theorem drawEdges_any (A : Option Addr) (n c : Nat) (w : World) (hA : Byt w A n w.heap.size) (hn : n ≤ 1048576) :
    Calls Try.prog 16 #[.slice A n c] w fun e w' => ∃ N r xs, e = .returned (.agg #[.int .i64 N, r]) ∧ LatNew w w' r xs := by
  go_enter Try.func16, Try.ntmps16
  go_wp2_with fail
  refine (l01Open_any A n c _ (by have := hA.below (below_alloc w (.cells #[.int .i64 0, .slice none 0 0] 26)); exact fun k hk => by obtain ⟨ad, b, e, hl, r⟩ := this k hk; exact ⟨ad, b, e, by simp; omega, r⟩) hn).mono ?_
  rintro e w1 ⟨g, hg, rfl, hC, hB1⟩
  obtain ⟨hO, hB⟩ := box_own (cs := [.int .i64 0, .slice none 0 0]) hB1
  simp only [World.size_alloc] at hg
  clear hB1
  go_wp2_with fail
  refine (badLat_any g A n c 0 _ hC hn (by omega)).mono ?_
  rintro e w2 ⟨v, N, xs, rfl, ⟨hu, hx, r, rfl, hrow, hrg⟩, hC2, hG2⟩
  obtain ⟨R, cR, rfl, _⟩ := owns_rd hrow
  have hO2 := own_far hO hG2 (by omega)
  have hB2 := below_only_new hB hG2 (by omega)
  have hsz := hO.lt
  clear hO hB hG2 hC hC2
  obtain ⟨c0, c1⟩ := hO2.two
  have f0 := hO2.free 0
  have f1 := hO2.free 1
  have hne : (Value.slice R xs.length cR).ownBlock ≠ some w.heap.size := owns_lt hrow hsz
  go_wp2
  refine bodyPost_ret (v := .agg #[.int .i64 N, .slice R xs.length cR]) (by simp [results, Try.results16, go_sem, c0, c1]) rfl ⟨N, _, xs, rfl, hu, hx, ?_, ?_⟩
  · have h1 := only_set (j := 0) (u := .int .i64 N) (World.grownBy.refl w2 (some w.heap.size))
    have h2 := only_set (j := 1) (u := .slice R xs.length cR) h1
    exact owns_base (owns_far hrow h2 hne) (by omega)
  · exact (hB2.setCell (by simp) _).setCell (by simp) _
end Go.Proofs.Ytandibofnpndlaa
