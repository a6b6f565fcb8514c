/-
  The law on PaneOk: at every pane the program answers as the model and leaves its argument as it was. WRITTEN BY tools/genpl.py.
-/
import Derived.Test.YtlmlckgnmkjkdaaPaneOkA
import Derived.Test.YtlmlckgnmkjkdaaKitPane
import Derived.Test.YtlmlckgnmkjkdaaRegRest
namespace Go.Proofs.Ytlmlckgnmkjkdaa
open Go.RowKit

set_option maxRecDepth 100000 in
set_option maxHeartbeats 4000000 in
theorem fnExactPaneOk_walk (q k f t l n : Int) (o : Bool) (A : Option Addr) (m ca : Nat) (zs : List Int) (w : World) (hA : Rd w A (iz zs)) (hz : zs.length = m) (hn : m ≤ 9223372036854775807) :
    Calls Try.prog 6 #[pav q k f t l n (.slice A m ca) o] w fun e w' => e = .returned (.bool true) ∧ Below w.heap.size w w' := by
  have HA := Lib.hid (fun W (h : Below w.heap.size w W) => hA.below h)
  clear hA
  by_cases hm : m ≤ 1048576
  · have hle : lessF 1048576 m = 1048576 - (m : Int) := by simp [lessF]; omega
    have hlt : ¬ (1048576 - (m : Int) < 0) := by omega
    obtain ⟨b, HT⟩ : ∃ b, Hid (tf (paneOk q k f t l n m o) = b) := ⟨_, Lib.hid rfl⟩
    have hne : (b != b) = false := by simp
    have hb := Below.refl w.heap.size w
    go_enter Try.func6, Try.ntmps6
    have ba := Own.new w 52 (pac q k f t l n (.slice A m ca) o)
    replace hb := below_trans hb (below_alloc w (.cells (pac q k f t l n (.slice A m ca) o).toArray 52))
    obtain ⟨bac0, bac1, bac2, bac3, bac4, bac5, bac6, bac7⟩ := ba.eight
    go_wp2_with fail
    clear bac0 bac1 bac2 bac3 bac4 bac5 bac6 bac7
    refine (hle ▸ szPane_any q k f t l n o A m ca 1048576 _ (by omega) (by omega) hn).mono ?_
    rintro e w2 ⟨rfl, hb2⟩
    have z2 := hb2.size
    rw [World.size_alloc] at z2
    replace ba := ba.grow hb2
    replace hb := below_trans hb hb2
    clear hb2
    obtain ⟨bac0, bac1, bac2, bac3, bac4, bac5, bac6, bac7⟩ := ba.eight
    go_wp2_with fail
    clear bac0 bac1 bac2 bac3 bac4 bac5 bac6 bac7
    refine (toPane_w q k f t l n o A m ca zs _ (HA.out _ hb) hz hm).mono ?_
    rintro e w3 ⟨g2, rfl, p1, hb3⟩
    have z3 := hb3.size
    replace ba := ba.grow hb3
    replace hb := below_trans hb hb3
    clear hb3
    go_wp2_with fail
    refine (as_bool HT.out (specPaneOk_any q k f t l n _ m _ o _ hn)).mono ?_
    rintro e w4 ⟨rfl, hb4⟩
    have z4 := hb4.size
    replace ba := ba.grow hb4
    replace p1 := p1.grow hb4
    replace hb := below_trans hb hb4
    clear hb4
    clear p1
    obtain ⟨bac0, bac1, bac2, bac3, bac4, bac5, bac6, bac7⟩ := ba.eight
    go_wp2_with fail
    clear bac0 bac1 bac2 bac3 bac4 bac5 bac6 bac7
    refine (toPane_w q k f t l n o A m ca zs _ (HA.out _ hb) hz hm).mono ?_
    rintro e w5 ⟨g4, rfl, rx, hb5⟩
    have z5 := hb5.size
    replace ba := ba.grow hb5
    replace hb := below_trans hb hb5
    clear hb5
    have bx := Own.new w5 31 (pac q k f t l n (.slice (some ⟨g4, 0, none⟩) m m) o)
    replace ba := ba.grow (below_alloc w5 (.cells (pac q k f t l n (.slice (some ⟨g4, 0, none⟩) m m) o).toArray 31))
    replace rx := rx.grow (below_alloc w5 (.cells (pac q k f t l n (.slice (some ⟨g4, 0, none⟩) m m) o).toArray 31))
    replace hb := below_trans hb (below_alloc w5 (.cells (pac q k f t l n (.slice (some ⟨g4, 0, none⟩) m m) o).toArray 31))
    obtain ⟨bxc0, bxc1, bxc2, bxc3, bxc4, bxc5, bxc6, bxc7⟩ := bx.eight
    go_wp2_with fail
    clear bxc0 bxc1 bxc2 bxc3 bxc4 bxc5 bxc6 bxc7
    refine (as_bool HT.out (implPaneOk_any q k f t l n _ m _ o _ hn)).mono ?_
    rintro e w6 ⟨rfl, hb6⟩
    have z6 := hb6.size
    rw [World.size_alloc] at z6
    replace ba := ba.grow hb6
    replace rx := rx.grow hb6
    replace bx := bx.grow hb6
    replace hb := below_trans hb hb6
    clear hb6
    have HRd := Lib.hid (fun W (h : Below w6.heap.size w6 W) => rx.reads.below h)
    have kbx0 := fun W (hW : Below w6.heap.size w6 W) => (bx.grow hW).eight.1
    have kbx1 := fun W (hW : Below w6.heap.size w6 W) => (bx.grow hW).eight.2.1
    have kbx2 := fun W (hW : Below w6.heap.size w6 W) => (bx.grow hW).eight.2.2.1
    have kbx3 := fun W (hW : Below w6.heap.size w6 W) => (bx.grow hW).eight.2.2.2.1
    have kbx4 := fun W (hW : Below w6.heap.size w6 W) => (bx.grow hW).eight.2.2.2.2.1
    have kbx5 := fun W (hW : Below w6.heap.size w6 W) => (bx.grow hW).eight.2.2.2.2.2.1
    have kbx6 := fun W (hW : Below w6.heap.size w6 W) => (bx.grow hW).eight.2.2.2.2.2.2.1
    have kbx7 := fun W (hW : Below w6.heap.size w6 W) => (bx.grow hW).eight.2.2.2.2.2.2.2
    have kba0 := fun W (hW : Below w6.heap.size w6 W) => (ba.grow hW).eight.1
    have kba1 := fun W (hW : Below w6.heap.size w6 W) => (ba.grow hW).eight.2.1
    have kba2 := fun W (hW : Below w6.heap.size w6 W) => (ba.grow hW).eight.2.2.1
    have kba3 := fun W (hW : Below w6.heap.size w6 W) => (ba.grow hW).eight.2.2.2.1
    have kba4 := fun W (hW : Below w6.heap.size w6 W) => (ba.grow hW).eight.2.2.2.2.1
    have kba5 := fun W (hW : Below w6.heap.size w6 W) => (ba.grow hW).eight.2.2.2.2.2.1
    have kba6 := fun W (hW : Below w6.heap.size w6 W) => (ba.grow hW).eight.2.2.2.2.2.2.1
    have kba7 := fun W (hW : Below w6.heap.size w6 W) => (ba.grow hW).eight.2.2.2.2.2.2.2
    have HBd := Lib.hid (fun W (h : Below w6.heap.size w6 W) => below_trans hb h)
    go_wp2_with fail
    go_region_held3 (fun W => Below w6.heap.size w6 W) (first | exact (Below.refl _ _).drew | exact below_trans (by assumption) (by assumption))
      (first
        | (go_at_call 26; refine (toPane_w q k f t l n o A m ca zs _ (HA.out _ (HBd.out _ (by assumption))) hz hm).mono ?_; rintro e wt0 ⟨gt, rfl, rt, hbt⟩)
        | (go_at_call 28; refine (eqPane_same q k f t l n o _ _ m _ _ zs _ (HRd.out _ (by assumption)) rt.reads hz hm).mono ?_; rintro e w7 ⟨rfl, hbe⟩))
    have hB7 : Below w6.heap.size w6 w7 := by assumption
    clear hbt hbe rt HRd HBd kbx0 kbx1 kbx2 kbx3 kbx4 kbx5 kbx6 kbx7 kba0 kba1 kba2 kba3 kba4 kba5 kba6 kba7
    have z7 := hB7.size
    replace ba := ba.grow hB7
    replace rx := rx.grow hB7
    replace bx := bx.grow hB7
    replace hb := below_trans hb hB7
    clear hB7
    clear ba rx bx
    go_wp2
    go_ret
    exact ⟨rfl, hb⟩
  · have hle : lessF 1048576 m = -1 := by simp [lessF]; omega
    have hb := Below.refl w.heap.size w
    go_enter Try.func6, Try.ntmps6
    have ba := Own.new w 52 (pac q k f t l n (.slice A m ca) o)
    replace hb := below_trans hb (below_alloc w (.cells (pac q k f t l n (.slice A m ca) o).toArray 52))
    obtain ⟨bac0, bac1, bac2, bac3, bac4, bac5, bac6, bac7⟩ := ba.eight
    go_wp2_with fail
    clear bac0 bac1 bac2 bac3 bac4 bac5 bac6 bac7
    refine (hle ▸ szPane_any q k f t l n o A m ca 1048576 _ (by omega) (by omega) hn).mono ?_
    rintro e w2 ⟨rfl, hb2⟩
    have z2 := hb2.size
    rw [World.size_alloc] at z2
    replace ba := ba.grow hb2
    replace hb := below_trans hb hb2
    clear hb2
    clear ba
    go_wp2
    go_ret
    exact ⟨rfl, hb⟩
end Go.Proofs.Ytlmlckgnmkjkdaa
