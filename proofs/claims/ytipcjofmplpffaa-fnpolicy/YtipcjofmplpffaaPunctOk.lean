/-
  PunctOk, the model's and the program's: what they return.
-/
import Derived.Test.YtipcjofmplpffaaPunctI
import Derived.Test.YtipcjofmplpffaaLatSpecD
namespace Go.Proofs.Ytipcjofmplpffaa
open Go.RowKit

theorem Own.four {w : World} {g : Nat} {t : TypeId} {c0 c1 c2 c3 : Value} (h : Own w g t [c0, c1, c2, c3]) : w.cell? ⟨g, 0, none⟩ = some c0 ∧ w.cell? ⟨g, 1, none⟩ = some c1 ∧ w.cell? ⟨g, 2, none⟩ = some c2 ∧ w.cell? ⟨g, 3, none⟩ = some c3 :=
  ⟨h.cell 0, h.cell 1, h.cell 2, h.cell 3⟩

/-- two boxes, while the world grows -/
theorem box_two {w w1 : World} {cs ds : List Value} {t s : TypeId} (hb : Below ((w.alloc (.cells cs.toArray t)).alloc (.cells ds.toArray s)).heap.size ((w.alloc (.cells cs.toArray t)).alloc (.cells ds.toArray s)) w1) :
    Own w1 w.heap.size t cs ∧ Own w1 (w.heap.size + 1) s ds ∧ Below w.heap.size w w1 := by
  obtain ⟨h1, h2⟩ := box_own hb
  obtain ⟨h3, h4⟩ := box_own h2
  have e : (w.alloc (.cells cs.toArray t)).heap.size = w.heap.size + 1 := by simp
  rw [e] at h1
  exact ⟨h3, h1, h4⟩

/-- what PunctOk asks -/
def okP (N : Int) (xs : List Nat) (p : Pn) : Prop := LatP N xs ∧ goodP N p

set_option maxHeartbeats 1000000 in
theorem implPunctOk_any (N : Int) (A : Option Addr) (ca : Nat) (xs : List Nat) (a b c d : Int) (w : World) (hA : Rd w A (us xs)) (hu : U64 xs) (hn : xs.length ≤ 1048576) :
    Calls Try.prog 29 #[.agg #[.int .i64 N, .slice A xs.length ca], pv a b c d] w fun e w' => e = .returned (.bool (tf (okP N xs (a, b, c, d)))) ∧ Below w.heap.size w w' := by
  have HA := Lib.hid (fun W (h : Below w.heap.size w W) => hA.below h)
  clear hA
  go_enter Try.func29, Try.ntmps29
  go_wp2_with fail
  by_cases hL : LatP N xs
  · refine (as_bool (tf_yes hL).symm (implLatOk_any N A ca xs _ (HA.out _ (below_trans (below_alloc _ _) (below_alloc _ _))) hu hn)).mono ?_
    have HL := Lib.hid hL
    clear hL
    rintro e w1 ⟨rfl, hb1⟩
    obtain ⟨ho1, hp1, hB1⟩ := box_two hb1
    clear hb1
    obtain ⟨c0, c1⟩ := ho1.two
    obtain ⟨d0, d1, d2, d3⟩ := hp1.four
    go_wp2_with fail
    refine (punctFits_any N a b c d _).mono ?_
    rintro e w2 ⟨rfl, hb2⟩
    go_wp2
    go_ret
    refine ⟨ret_bool ?_, below_trans hB1 hb2⟩
    rw [Bool.eq_iff_iff, tf_true, decide_eq_true_iff]
    exact ⟨fun h => ⟨HL.out, h⟩, fun h => h.2⟩
  · refine (as_bool (tf_no hL).symm (implLatOk_any N A ca xs _ (HA.out _ (below_trans (below_alloc _ _) (below_alloc _ _))) hu hn)).mono ?_
    have HL := Lib.hid hL
    clear hL
    rintro e w1 ⟨rfl, hb1⟩
    go_wp2
    go_ret
    exact ⟨ret_bool (tf_no (fun h => HL.out h.1)), (box_two hb1).2.2⟩

set_option maxHeartbeats 1000000 in
theorem specPunctOk_any (N : Int) (A : Option Addr) (ca : Nat) (xs : List Nat) (a b c d : Int) (w : World) (hA : Rd w A (us xs)) (hu : U64 xs) (hn : xs.length ≤ 1048576) :
    Calls Try.prog 26 #[.agg #[.int .i64 N, .slice A xs.length ca], pv a b c d] w fun e w' => e = .returned (.bool (tf (okP N xs (a, b, c, d)))) ∧ Below w.heap.size w w' := by
  have HA := Lib.hid (fun W (h : Below w.heap.size w W) => hA.below h)
  clear hA
  go_enter Try.func26, Try.ntmps26
  go_wp2_with fail
  by_cases hL : LatP N xs ∧ Lab xs d
  · refine (as_bool (tf_yes hL).symm (l01Label_any N A ca xs d _ (HA.out _ (below_trans (below_alloc _ _) (below_alloc _ _))) hu hn)).mono ?_
    have HL := Lib.hid hL
    clear hL
    rintro e w1 ⟨rfl, hb1⟩
    obtain ⟨ho1, hp1, hB1⟩ := box_two hb1
    clear hb1
    obtain ⟨d0, d1, d2, d3⟩ := hp1.four
    go_wp2_with fail
    refine (l04Right_any a b c d _).mono ?_
    rintro e w2 ⟨rfl, hb2⟩
    go_wp2
    go_ret
    refine ⟨ret_bool ?_, below_trans hB1 hb2⟩
    rw [Bool.eq_iff_iff, tf_true, decide_eq_true_iff]
    have hN := HL.out.1.len.1
    exact ⟨fun h => ⟨HL.out.1, ⟨HL.out.2.1, by have := HL.out.2.2; show d < N; omega⟩, h⟩, fun h => h.2.2⟩
  · refine (as_bool (tf_no hL).symm (l01Label_any N A ca xs d _ (HA.out _ (below_trans (below_alloc _ _) (below_alloc _ _))) hu hn)).mono ?_
    have HL := Lib.hid hL
    clear hL
    rintro e w1 ⟨rfl, hb1⟩
    go_wp2
    go_ret
    refine ⟨ret_bool (tf_no (fun h => HL.out ⟨h.1, h.2.1.1, ?_⟩)), (box_two hb1).2.2⟩
    have := h.1.len.1
    have : d < N := h.2.1.2
    omega
end Go.Proofs.Ytipcjofmplpffaa
