/-
  The program's WideCmp.
-/
import Derived.Test.YtlmlckgnmkjkdaaWideA
namespace Go.Proofs.Ytlmlckgnmkjkdaa
open Go.RowKit

theorem implWideCmp_any (ah al bh bl x y : Int) (w : World) (hx : Wr x) (hy : Wr y) (e1 : ah = hi x) (e2 : al = lo x) (e3 : bh = hi y) (e4 : bl = lo y) :
    Calls Try.prog 136 #[.agg #[.int .i64 ah, .int .u64 al], .agg #[.int .i64 bh, .int .u64 bl]] w fun e w' => e = .returned (.int .i64 (cmp3 x y)) ∧ Below w.heap.size w w' := by
  rw [cmp_words hx hy, ← e1, ← e2, ← e3, ← e4]
  clear e1 e2 e3 e4 hx hy
  by_cases g1 : ah = bh
  · subst g1
    by_cases g2 : al = bl
    · subst g2
      go_enter Try.func136, Try.ntmps136
      go_wp2
      go_ret
      exact ⟨ret_int (by simp [cmpw]), below2 _ _ _⟩
    · have g3 : (al == bl) = false := by simp [g2]
      by_cases g4 : al < bl
      · go_enter Try.func136, Try.ntmps136
        go_wp2
        go_ret
        exact ⟨ret_int (by simp [cmpw, g4]), below2 _ _ _⟩
      · go_enter Try.func136, Try.ntmps136
        go_wp2
        go_ret
        exact ⟨ret_int (by simp [cmpw, g4, g2]), below2 _ _ _⟩
  · have g3 : (ah == bh) = false := by simp [g1]
    by_cases g4 : ah < bh
    · go_enter Try.func136, Try.ntmps136
      go_wp2
      go_ret
      exact ⟨ret_int (by simp [cmpw, g4]), below2 _ _ _⟩
    · go_enter Try.func136, Try.ntmps136
      go_wp2
      go_ret
      exact ⟨ret_int (by simp [cmpw, g4, g1]), below2 _ _ _⟩

end Go.Proofs.Ytlmlckgnmkjkdaa
