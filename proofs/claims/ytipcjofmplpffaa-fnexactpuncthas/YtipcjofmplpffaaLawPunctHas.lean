/-
  The law on PunctHas: at every punct, source and key the program answers as the model.
-/
import Derived.Test.YtipcjofmplpffaaPunctI
import Derived.Test.YtipcjofmplpffaaKitPunct
namespace Go.Proofs.Ytipcjofmplpffaa
open Go.RowKit

set_option maxHeartbeats 1000000 in
theorem fnExactPunctHas_walk (a b c d s k : Int) (w : World) :
    Calls Try.prog 6 #[pv a b c d, .int .i64 s, .int .i64 k] w fun e w' => e = .returned (.bool true) ∧ Below w.heap.size w w' := by
  generalize hB : decide (hasP (a, b, c, d) s k) = B
  have hne : (B != B) = false := by simp
  go_enter Try.func6, Try.ntmps6
  go_wp2_with fail
  refine (toPunct_any a b c d _).mono ?_
  rintro e w1 ⟨rfl, hb1⟩
  obtain ⟨ho1, hb1⟩ := box_own hb1
  go_wp2_with fail
  refine (as_bool hB (specPunctHas_any a b c d s k _)).mono ?_
  rintro e w2 ⟨rfl, hb2⟩
  have ho2 := ho1.grow hb2
  replace hb2 := below_trans hb1 hb2
  clear ho1 hb1
  obtain ⟨c0, c1, c2, c3⟩ := (⟨ho2.cell 0, ho2.cell 1, ho2.cell 2, ho2.cell 3⟩ : w2.cell? ⟨w.heap.size, 0, none⟩ = some (.int .i64 a) ∧ w2.cell? ⟨w.heap.size, 1, none⟩ = some (.int .i64 b) ∧ w2.cell? ⟨w.heap.size, 2, none⟩ = some (.int .i64 c) ∧ w2.cell? ⟨w.heap.size, 3, none⟩ = some (.int .i64 d))
  go_wp2_with fail
  clear c0 c1 c2 c3
  refine (toPunct_any a b c d _).mono ?_
  rintro e w3 ⟨rfl, hb3⟩
  replace hb3 := below_trans hb2 hb3
  go_wp2_with fail
  refine (as_bool hB (implPunctHas_any a b c d s k _)).mono ?_
  rintro e w4 ⟨rfl, hb4⟩
  go_wp2
  go_ret
  exact ⟨rfl, below_trans hb3 hb4⟩
end Go.Proofs.Ytipcjofmplpffaa
