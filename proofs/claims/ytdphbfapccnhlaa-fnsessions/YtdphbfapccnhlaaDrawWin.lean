/-
  What is drawn for the laws of windows.
-/
import Derived.Test.YtdphbfapccnhlaaCurBadW
import Derived.Test.YtdphbfapccnhlaaCurSess
import Derived.Test.YtdphbfapccnhlaaIntsKit
namespace Go.Proofs.Ytdphbfapccnhlaa
open Go.RowKit

theorem byt_grown {w w' : World} {A : Option Addr} {n : Nat} (hA : Byt w A n w.heap.size) (hb : Below w.heap.size w w') : Byt w' A n w'.heap.size := fun k hk => by
  obtain ⟨ad, b, e, hl, r⟩ := (hA.below hb) k hk
  exact ⟨ad, b, e, Nat.lt_of_lt_of_le hl hb.size, r⟩
/-- what changed the cursor alone left what was there -/
theorem below_cur {w w1 w2 : World} {g : Nat} (h : Below w.heap.size w w1) (hG : w1.grownBy w2 (some g)) (hg : w.heap.size ≤ g) : Below w.heap.size w w2 := h.grown hG h.size (fun k e => by cases e; exact hg)

set_option maxRecDepth 100000 in
set_option maxHeartbeats 4000000 in
theorem drawWinsOf_any (A : Option Addr) (n c : Nat) (w : World) (hA : Byt w A n w.heap.size) (hn : n ≤ 1048576) :
    Calls Try.prog 14 #[.slice A n c] w fun e w' => ∃ k s t tm : Int, e = .returned (.tuple #[.agg #[.int .i64 k, .int .i64 s, .int .i64 t], .int .i64 tm]) ∧ Below w.heap.size w w' := by
  go_enter Try.func14, Try.ntmps14
  go_wp2_with fail
  refine (l01Open_any A n c _ (byt_grown hA (below_alloc _ _)) hn).mono ?_
  rintro e w1 ⟨g, hg, rfl, hC, hB1⟩
  obtain ⟨hO, hB⟩ := box_own (cs := [.int .i64 0, .int .i64 0, .int .i64 0]) hB1
  simp only [World.size_alloc] at hg
  clear hB1 hA
  go_wp2_with fail
  refine (badWin_any g A n c 0 _ hC hn (by omega)).mono ?_
  rintro e w2 ⟨k, s, t, rfl, hC2, hG2⟩
  have hO2 := own_far hO hG2 (by omega)
  have hB2 := below_cur hB hG2 (by omega)
  clear hO hB hC hG2
  go_wp2_with fail
  refine (time_any g A n c _ _ hC2 hn (by omega)).mono ?_
  rintro e w3 ⟨tm, rfl, hC3, hG3⟩
  have hO3 := own_far hO2 hG3 (by omega)
  have hB3 := below_cur hB2 hG3 (by omega)
  clear hO2 hB2 hC2 hG3 hC3
  have f0 := hO3.free 0
  have f1 := (hO3.set 0 (.int .i64 k)).free 1
  have f2 := ((hO3.set 0 (.int .i64 k)).set 1 (.int .i64 s)).free 2
  obtain ⟨c0, c1, c2⟩ := hO3.three
  obtain ⟨e0, e1, e2⟩ := (((hO3.set 0 (.int .i64 k)).set 1 (.int .i64 s)).set 2 (.int .i64 t)).three
  have HB := Lib.hid (((hB3.setCell (p := ⟨w.heap.size, 0, none⟩) (Nat.le_refl _) (.int .i64 k)).setCell (p := ⟨w.heap.size, 1, none⟩) (Nat.le_refl _) (.int .i64 s)).setCell (p := ⟨w.heap.size, 2, none⟩) (Nat.le_refl _) (.int .i64 t))
  clear hO3 hB3
  go_wp2
  refine bodyPost_ret (v := .tuple #[.agg #[.int .i64 k, .int .i64 s, .int .i64 t], .int .i64 tm]) (by simp [results, Try.results14, go_sem, e0, e1, e2]) rfl ?_
  exact ⟨k, s, t, tm, rfl, HB.out⟩

set_option maxRecDepth 100000 in
set_option maxHeartbeats 4000000 in
theorem drawSessAdd_any (A : Option Addr) (n c : Nat) (w : World) (hA : Byt w A n w.heap.size) (hn : n ≤ 1048576) :
    Calls Try.prog 25 #[.slice A n c] w fun e w' => ∃ (ws : List Wn) (A' : Option Addr) (c' : Nat) (a b : Int), e = .returned (.tuple #[.slice A' ws.length c', .agg #[.int .i64 a, .int .i64 b]]) ∧ ws.length ≤ 301 ∧ w'.ownsRow w.heap.size 32 2 (.slice A' ws.length c') ws.length (ez ws) ∧ Below w.heap.size w w' := by
  go_enter Try.func25, Try.ntmps25
  go_wp2_with fail
  refine (l01Open_any A n c _ (byt_grown hA (below_alloc _ _)) hn).mono ?_
  rintro e w1 ⟨g, hg, rfl, hC, hB1⟩
  obtain ⟨hO, hB⟩ := box_own (cs := [.int .i64 0, .int .i64 0]) hB1
  simp only [World.size_alloc] at hg
  have hgl1 := hC.lt
  clear hB1 hA
  go_wp2_with fail
  refine (sessions_any g A n c 0 _ hC hn (by omega)).mono ?_
  rintro e w2 ⟨ws, A', c', rfl, hws, hrow, hC2, hG2⟩
  have hO2 := own_far hO hG2 (by omega)
  have hB2 := below_cur hB hG2 (by omega)
  have hOl := hO.lt
  clear hO hC hG2
  go_wp2_with fail
  refine (oneWin_any g A n c _ _ hC2 hn (by omega)).mono ?_
  rintro e w3 ⟨a, b, rfl, hC3, hG3⟩
  have hO3 := own_far hO2 hG3 (by omega)
  have hB3 := below_cur hB2 hG3 (by omega)
  have hrow3 := owns_far hrow hG3 (owns_lt hrow (by omega))
  clear hO2 hB2 hC2 hG3 hC3 hrow
  have f0 := hO3.free 0
  have f1 := (hO3.set 0 (.int .i64 a)).free 1
  obtain ⟨c0, c1⟩ := hO3.two
  obtain ⟨e0, e1⟩ := ((hO3.set 0 (.int .i64 a)).set 1 (.int .i64 b)).two
  have HB := Lib.hid ((hB3.setCell (p := ⟨w.heap.size, 0, none⟩) (Nat.le_refl _) (.int .i64 a)).setCell (p := ⟨w.heap.size, 1, none⟩) (Nat.le_refl _) (.int .i64 b))
  have HR := Lib.hid (owns_base (base' := w.heap.size) (owns_far (owns_far hrow3 (only_set (g := w.heap.size) (j := 0) (u := .int .i64 a) (World.grownBy.refl _ _)) (owns_lt hrow3 hOl)) (only_set (g := w.heap.size) (j := 1) (u := .int .i64 b) (World.grownBy.refl _ _)) (owns_lt hrow3 hOl)) hB.size)
  clear hO3 hB3 hrow3 hB
  go_wp2
  refine bodyPost_ret (v := .tuple #[.slice A' ws.length c', .agg #[.int .i64 a, .int .i64 b]]) (by simp [results, Try.results25, go_sem, e0, e1]) rfl ?_
  exact ⟨ws, A', c', a, b, rfl, hws, HR.out, HB.out⟩
end Go.Proofs.Ytdphbfapccnhlaa
