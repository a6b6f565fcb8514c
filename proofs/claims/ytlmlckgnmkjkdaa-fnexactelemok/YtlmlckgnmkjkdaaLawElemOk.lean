/-
  The law on ElemOk: at every element the program answers as the model. WRITTEN BY tools/genpl.py.
-/
import Derived.Test.YtlmlckgnmkjkdaaElemA
import Derived.Test.YtlmlckgnmkjkdaaKitElem
namespace Go.Proofs.Ytlmlckgnmkjkdaa
open Go.RowKit

set_option maxRecDepth 100000 in
set_option maxHeartbeats 2000000 in
theorem fnExactElemOk_walk (s k v t : Int) (w : World) :
    Calls Try.prog 5 #[elv s k v t] w fun e w' => e = .returned (.bool true) ∧ Below w.heap.size w w' := by
  obtain ⟨b, HB⟩ : ∃ b, Hid (tf (elemOk s k t) = b) := ⟨_, Lib.hid rfl⟩
  have hne : (b != b) = false := by simp
  have hb := Below.refl w.heap.size w
  go_enter Try.func5, Try.ntmps5
  have ba := Own.new w 47 ([.int .i64 s, .int .i64 k, .int .i64 v, .int .i64 t])
  replace hb := below_trans hb (below_alloc w (.cells ([.int .i64 s, .int .i64 k, .int .i64 v, .int .i64 t]).toArray 47))
  obtain ⟨bac0, bac1, bac2, bac3⟩ := ba.fourth
  go_wp2_with fail
  clear bac0 bac1 bac2 bac3
  refine (toElem_any s k v t _).mono ?_
  rintro e w2 ⟨rfl, hb2⟩
  have z2 := hb2.size
  rw [World.size_alloc] at z2
  replace ba := ba.grow hb2
  replace hb := below_trans hb hb2
  clear hb2
  go_wp2_with fail
  refine (as_bool HB.out (specElemOk_any s k v t _)).mono ?_
  rintro e w3 ⟨rfl, hb3⟩
  have z3 := hb3.size
  replace ba := ba.grow hb3
  replace hb := below_trans hb hb3
  clear hb3
  obtain ⟨bac0, bac1, bac2, bac3⟩ := ba.fourth
  go_wp2_with fail
  clear bac0 bac1 bac2 bac3
  refine (toElem_any s k v t _).mono ?_
  rintro e w4 ⟨rfl, hb4⟩
  have z4 := hb4.size
  replace ba := ba.grow hb4
  replace hb := below_trans hb hb4
  clear hb4
  go_wp2_with fail
  refine (as_bool HB.out (implElemOk_any s k v t _)).mono ?_
  rintro e w5 ⟨rfl, hb5⟩
  have z5 := hb5.size
  replace ba := ba.grow hb5
  replace hb := below_trans hb hb5
  clear hb5
  clear ba
  go_wp2
  go_ret
  exact ⟨rfl, hb⟩
end Go.Proofs.Ytlmlckgnmkjkdaa
