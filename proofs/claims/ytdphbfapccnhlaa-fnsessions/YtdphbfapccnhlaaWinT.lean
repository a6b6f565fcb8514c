/-
  []impl.Win as a slice type whose rows are appended to.
-/
import Derived.Test.YtdphbfapccnhlaaWinKit
import Derived.Test.YtdphbfapccnhlaaAppT
namespace Go.Proofs.Ytdphbfapccnhlaa
open Go.RowKit
theorem appWin : AppT Try.prog 28 32 (.agg #[.int .i64 0, .int .i64 0]) 2 16 := by
  obtain ⟨i0, hi, hz0, hz1, hz2⟩ := info_parts info_Win
  exact ⟨Try.underlying28, ⟨i0, hi, hz0, hz1, hz2⟩, rfl, by decide, by decide⟩
theorem ez_snoc (hd : List Wn) (y0 y1 : Int) : ez hd ++ [.int .i64 y0, .int .i64 y1] = ez (hd ++ [(y0, y1)]) := by rw [ez_append]; rfl
end Go.Proofs.Ytdphbfapccnhlaa
