/-
  SessOk, the model's and the program's: what they return.
-/
import Derived.Test.YtlmlckgnmkjkdaaWinS
namespace Go.Proofs.Ytlmlckgnmkjkdaa
open Go.RowKit

theorem l06Win_is {a b : Int} {B : Bool} (h : tf (winOk (a, b)) = B) (w : World) :
    Calls Try.prog 72 #[.agg #[.int .i64 a, .int .i64 b]] w fun e w' => e = .returned (.bool B) ∧ Below w.heap.size w w' := as_bool h (l06Win_any a b w)
theorem isWin_is {a b : Int} {B : Bool} (h : tf (winOk (a, b)) = B) (w : World) :
    Calls Try.prog 75 #[.agg #[.int .i64 a, .int .i64 b]] w fun e w' => e = .returned (.bool B) ∧ Below w.heap.size w w' := as_bool h (isWin_any a b w)
/-- the cells of window k, in every world grown from wr -/
theorem win_cells {w wr : World} {A : Option Addr} {ws : List Wn} (h : Rd w A (ez ws)) (hbel : Below w.heap.size w wr) {k : Nat} (hk : k < ws.length) :
    ∃ b off, A = some ⟨b, off, none⟩ ∧ (∀ u : Bel wr, u.w.cell? ⟨b, off + k * 2, none⟩ = some (.int .i64 (wat ws k).1)) ∧ (∀ u : Bel wr, u.w.cell? ⟨b, off + k * 2 + 1, none⟩ = some (.int .i64 (wat ws k).2)) := by
  obtain ⟨b, off, rfl, hc⟩ := h.edge hk
  exact ⟨b, off, rfl, fun u => (hc _ (below_trans hbel u.ok)).1, fun u => (hc _ (below_trans hbel u.ok)).2⟩
theorem box_win {wr : World} {a b : Int} {t : TypeId} (u : Bel (wr.alloc (.cells #[.int .i64 a, .int .i64 b] t))) : u.w.cell? ⟨wr.heap.size, 0, none⟩ = some (.int .i64 a) ∧ u.w.cell? ⟨wr.heap.size, 1, none⟩ = some (.int .i64 b) :=
  ((Own.new wr t [.int .i64 a, .int .i64 b]).grow u.ok).two

end Go.Proofs.Ytlmlckgnmkjkdaa
