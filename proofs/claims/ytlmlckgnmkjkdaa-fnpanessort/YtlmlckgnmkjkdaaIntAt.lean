/-
  Rows of integers as cells; rows that a call hands back.
-/
import Derived.Test.YtlmlckgnmkjkdaaBase
namespace Go.Proofs.Ytlmlckgnmkjkdaa
open Go.RowKit

def iat (xs : List Int) (k : Nat) : Int := xs.getD k 0
theorem iz_iat {xs : List Int} {k : Nat} (h : k < xs.length) : (iz xs)[k]? = some (.int .i64 (iat xs k)) := iz_at h
theorem iz_set (xs : List Int) (k : Nat) (v : Int) : (iz xs).set k (.int .i64 v) = iz (xs.set k v) := by
  simp [iz, List.map_set]
/-- The call hands back a row of its own (nil, or in new memory) that holds the cells cs. -/
def RowOf (t : TypeId) (s : Nat) (w : World) (n : Nat) (cs : List Value) (e : Ending) (w' : World) : Prop := ∃ v, e = .returned v ∧ w'.ownsRow w.heap.size t s v n cs ∧ Below w.heap.size w w'
theorem append_box {wr w2 : World} {o : Obj} {v : Value} {g base n s : Nat} {t e : TypeId} {cs bs : List Value} (hrow : wr.ownsRow base e s v n cs) (hown : Own wr g t bs) (hg : g < base) (hgrow : (wr.alloc o).grownBy w2 v.ownBlock) : Own w2 g t bs :=
  (hgrow.block g (by have := hown.lt; simp; omega) (fun h => owns_lt hrow hg h.symm)).trans (hown.alloc o)
theorem append_below {w wr w2 : World} {o : Obj} {v : Value} {B base n s : Nat} {e : TypeId} {cs : List Value} (hbel : Below B w wr) (hB : B ≤ wr.heap.size) (hrow : wr.ownsRow base e s v n cs) (hbase : B ≤ base) (hgrow : (wr.alloc o).grownBy w2 v.ownBlock) : Below B w w2 :=
  (hbel.alloc hB o).grown hgrow (by simp; omega) (fun k h => by have := (hrow.lt k h).1; omega)
/-- a row of integers that reads so -/
theorem rd_int {w : World} {A : Option Addr} {xs : List Int} (h : Rd w A (iz xs)) (h0 : 0 < xs.length) :
    ∃ ad, A = some ad ∧ ∀ W, Below w.heap.size w W → ∀ i, i < xs.length → W.cell? (ad.add i) = some (.int .i64 (iat xs i)) := by
  obtain ⟨ad, rfl, hb, _⟩ := h 0 _ (iz_iat h0)
  refine ⟨ad, rfl, fun W hW i hi => ?_⟩
  obtain ⟨ad', e', _, hc⟩ := h i _ (iz_iat hi)
  obtain rfl : ad = ad' := by injection e'
  exact (hW.cell (by rw [add_block]; exact hb)).trans hc
end Go.Proofs.Ytlmlckgnmkjkdaa
