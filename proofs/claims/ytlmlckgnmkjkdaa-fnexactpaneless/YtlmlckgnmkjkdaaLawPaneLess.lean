/-
  The law on PaneLess: at every two panes the program answers as the model and leaves its arguments as they were. WRITTEN BY tools/genpl.py.
-/
import Derived.Test.YtlmlckgnmkjkdaaPaneA
import Derived.Test.YtlmlckgnmkjkdaaKitPane
import Derived.Test.YtlmlckgnmkjkdaaRegRest
namespace Go.Proofs.Ytlmlckgnmkjkdaa
open Go.RowKit

/-- a pane of the laws' own that lies below, and its copies -/
structure PaneArg (w : World) (v : Value) (m : Nat) (zs : List Int) (vf : Nat → Value) : Prop where
  goes : ∀ W, Below w.heap.size w W → Calls Try.prog 26 #[v] W fun e w' => ∃ g, e = .returned (vf g) ∧ RowAt W.heap.size w'.heap.size w' 3 1 (.slice (some ⟨g, 0, none⟩) m m) m (iz zs) ∧ Below W.heap.size W w'

set_option maxRecDepth 100000 in
set_option maxHeartbeats 8000000 in
theorem fnExactPaneLess_walk (q k f t l n : Int) (o : Bool) (A : Option Addr) (m ca : Nat) (zs : List Int) (q' k' f' t' l' n' : Int) (o' : Bool) (A' : Option Addr) (m' ca' : Nat) (zs' : List Int) (w : World)
    (hA : Rd w A (iz zs)) (hz : zs.length = m) (hn : m ≤ 9223372036854775807) (hA' : Rd w A' (iz zs')) (hz' : zs'.length = m') (hn' : m' ≤ 9223372036854775807) :
    Calls Try.prog 7 #[pav q k f t l n (.slice A m ca) o, pav q' k' f' t' l' n' (.slice A' m' ca') o'] w fun e w' => e = .returned (.bool true) ∧ Below w.heap.size w w' := by
  have HA := Lib.hid (fun W (h : Below w.heap.size w W) => hA.below h)
  have HA' := Lib.hid (fun W (h : Below w.heap.size w W) => hA'.below h)
  clear hA hA'
  by_cases hm : m ≤ 1048576
  · obtain ⟨left, hleft⟩ : ∃ z : Int, 1048576 - (m : Int) = z := ⟨_, rfl⟩
    have hle := Lib.hid (show lessF 1048576 m = left by simp [lessF]; omega)
    have hlt : ¬ left < 0 := by omega
    by_cases hs : m + m' ≤ 1048576
    · have hm' : m' ≤ 1048576 := by omega
      have hle2 := Lib.hid (show lessF left m' = left - (m' : Int) by simp [lessF]; omega)
      have hlt2 : ¬ left - (m' : Int) < 0 := by omega
      have HL := Lib.hid (show 0 ≤ left ∧ left ≤ 1048576 by omega)
      clear hleft hs
      obtain ⟨b, HT⟩ : ∃ b, Hid (tf (plt q k f t q' k' f' t') = b) := ⟨_, Lib.hid rfl⟩
      have hne : (b != b) = false := by simp
      have hb := Below.refl w.heap.size w
      go_enter Try.func7, Try.ntmps7
      have ba := Own.new w 52 (pac q k f t l n (.slice A m ca) o)
      replace hb := below_trans hb (below_alloc w (.cells (pac q k f t l n (.slice A m ca) o).toArray 52))
      have bb := new_second w (.cells (pac q k f t l n (.slice A m ca) o).toArray 52) 52 (pac q' k' f' t' l' n' (.slice A' m' ca') o')
      replace ba := ba.grow (below_alloc (w.alloc (.cells (pac q k f t l n (.slice A m ca) o).toArray 52)) (.cells (pac q' k' f' t' l' n' (.slice A' m' ca') o').toArray 52))
      replace hb := below_trans hb (below_alloc (w.alloc (.cells (pac q k f t l n (.slice A m ca) o).toArray 52)) (.cells (pac q' k' f' t' l' n' (.slice A' m' ca') o').toArray 52))
      obtain ⟨bac0, bac1, bac2, bac3, bac4, bac5, bac6, bac7⟩ := ba.eight
      obtain ⟨bbc0, bbc1, bbc2, bbc3, bbc4, bbc5, bbc6, bbc7⟩ := bb.eight
      go_wp2_with fail
      clear bac0 bac1 bac2 bac3 bac4 bac5 bac6 bac7 bbc0 bbc1 bbc2 bbc3 bbc4 bbc5 bbc6 bbc7
      refine (as_int hle.out (szPane_any q k f t l n o A m ca 1048576 _ (by omega) (by omega) hn)).mono ?_
      rintro e w2 ⟨rfl, hb2⟩
      have z2 := hb2.size
      rw [World.size_alloc, World.size_alloc] at z2
      replace ba := ba.grow hb2
      replace bb := bb.grow hb2
      replace hb := below_trans hb hb2
      clear hb2
      obtain ⟨bbc0, bbc1, bbc2, bbc3, bbc4, bbc5, bbc6, bbc7⟩ := bb.eight
      go_wp2_with fail
      clear bbc0 bbc1 bbc2 bbc3 bbc4 bbc5 bbc6 bbc7
      refine (as_int hle2.out (szPane_any q' k' f' t' l' n' o' A' m' ca' left _ HL.out.1 HL.out.2 hn')).mono ?_
      rintro e w3 ⟨rfl, hb3⟩
      have z3 := hb3.size
      replace ba := ba.grow hb3
      replace bb := bb.grow hb3
      replace hb := below_trans hb hb3
      clear hb3
      go_upto_region 8 with (fail)
      go_cut [6] (fun s6 wx => s6 = .bool b ∧ Below w3.heap.size w3 wx)
      case first =>
        have kba0 := fun W (hW : Below w3.heap.size w3 W) => (ba.grow hW).eight.1
        have kba1 := fun W (hW : Below w3.heap.size w3 W) => (ba.grow hW).eight.2.1
        have kba2 := fun W (hW : Below w3.heap.size w3 W) => (ba.grow hW).eight.2.2.1
        have kba3 := fun W (hW : Below w3.heap.size w3 W) => (ba.grow hW).eight.2.2.2.1
        have kba4 := fun W (hW : Below w3.heap.size w3 W) => (ba.grow hW).eight.2.2.2.2.1
        have kba5 := fun W (hW : Below w3.heap.size w3 W) => (ba.grow hW).eight.2.2.2.2.2.1
        have kba6 := fun W (hW : Below w3.heap.size w3 W) => (ba.grow hW).eight.2.2.2.2.2.2.1
        have kba7 := fun W (hW : Below w3.heap.size w3 W) => (ba.grow hW).eight.2.2.2.2.2.2.2
        have kbb0 := fun W (hW : Below w3.heap.size w3 W) => (bb.grow hW).eight.1
        have kbb1 := fun W (hW : Below w3.heap.size w3 W) => (bb.grow hW).eight.2.1
        have kbb2 := fun W (hW : Below w3.heap.size w3 W) => (bb.grow hW).eight.2.2.1
        have kbb3 := fun W (hW : Below w3.heap.size w3 W) => (bb.grow hW).eight.2.2.2.1
        have kbb4 := fun W (hW : Below w3.heap.size w3 W) => (bb.grow hW).eight.2.2.2.2.1
        have kbb5 := fun W (hW : Below w3.heap.size w3 W) => (bb.grow hW).eight.2.2.2.2.2.1
        have kbb6 := fun W (hW : Below w3.heap.size w3 W) => (bb.grow hW).eight.2.2.2.2.2.2.1
        have kbb7 := fun W (hW : Below w3.heap.size w3 W) => (bb.grow hW).eight.2.2.2.2.2.2.2
        have HP := Lib.hid (show PaneArg w3 (pav q k f t l n (.slice A m ca) o) m zs (fun g => pav q k f t l n (.slice (some ⟨g, 0, none⟩) m m) o) from ⟨fun W h => toPane_w q k f t l n o A m ca zs _ (HA.out _ (below_trans hb h)) hz hm⟩)
        have HP' := Lib.hid (show PaneArg w3 (pav q' k' f' t' l' n' (.slice A' m' ca') o') m' zs' (fun g => pav q' k' f' t' l' n' (.slice (some ⟨g, 0, none⟩) m' m') o') from ⟨fun W h => toPane_w q' k' f' t' l' n' o' A' m' ca' zs' _ (HA'.out _ (below_trans hb h)) hz' hm'⟩)
        go_region_held3 (fun W => Below w3.heap.size w3 W) (first | exact (Below.refl _ _).drew | exact below_trans (by assumption) (by assumption))
          (first
            | (go_at_call 26; refine (PaneArg.goes (by first | exact HP.out | exact HP'.out) _ (by assumption)).mono ?_; rintro e wt ⟨gt, rfl, rt, hbt⟩)
            | (go_at_call 29; refine (as_bool HT.out (specPaneLess_any _ _ _ _ _ _ _ _ _ _ _ _ _ _ _ _ _)).mono ?_; rintro e we ⟨rfl, hbe⟩))
        all_goals
          have hB : Below w3.heap.size w3 we := by assumption
          go_wp2_with fail
          go_meet
          case rel => exact ⟨rfl, hB⟩
      case rest =>
        obtain ⟨rfl, hd⟩ := hcut
        obtain ⟨w4, rfl⟩ : ∃ W, W = wc := ⟨_, rfl⟩
        have z4 := hd.size
        replace ba := ba.grow hd
        replace bb := bb.grow hd
        replace hb := below_trans hb hd
        clear hd
        obtain ⟨bac0, bac1, bac2, bac3, bac4, bac5, bac6, bac7⟩ := ba.eight
        go_wp2_with fail
        clear bac0 bac1 bac2 bac3 bac4 bac5 bac6 bac7
        refine (toPane_w q k f t l n o A m ca zs _ (HA.out _ hb) hz hm).mono ?_
        rintro e w5 ⟨g4, rfl, rx, hb5⟩
        have z5 := hb5.size
        replace ba := ba.grow hb5
        replace bb := bb.grow hb5
        replace hb := below_trans hb hb5
        clear hb5
        have bx := Own.new w5 31 (pac q k f t l n (.slice (some ⟨g4, 0, none⟩) m m) o)
        replace ba := ba.grow (below_alloc w5 (.cells (pac q k f t l n (.slice (some ⟨g4, 0, none⟩) m m) o).toArray 31))
        replace bb := bb.grow (below_alloc w5 (.cells (pac q k f t l n (.slice (some ⟨g4, 0, none⟩) m m) o).toArray 31))
        replace rx := rx.grow (below_alloc w5 (.cells (pac q k f t l n (.slice (some ⟨g4, 0, none⟩) m m) o).toArray 31))
        replace hb := below_trans hb (below_alloc w5 (.cells (pac q k f t l n (.slice (some ⟨g4, 0, none⟩) m m) o).toArray 31))
        obtain ⟨bbc0, bbc1, bbc2, bbc3, bbc4, bbc5, bbc6, bbc7⟩ := bb.eight
        go_wp2_with fail
        clear bbc0 bbc1 bbc2 bbc3 bbc4 bbc5 bbc6 bbc7
        refine (toPane_w q' k' f' t' l' n' o' A' m' ca' zs' _ (HA'.out _ hb) hz' hm').mono ?_
        rintro e w6 ⟨g5, rfl, ry, hb6⟩
        have z6 := hb6.size
        rw [World.size_alloc] at z6
        rw [World.size_alloc] at ry
        replace ba := ba.grow hb6
        replace bb := bb.grow hb6
        replace rx := rx.grow hb6
        replace bx := bx.grow hb6
        replace hb := below_trans hb hb6
        clear hb6
        have by1 := Own.new w6 31 (pac q' k' f' t' l' n' (.slice (some ⟨g5, 0, none⟩) m' m') o')
        replace ba := ba.grow (below_alloc w6 (.cells (pac q' k' f' t' l' n' (.slice (some ⟨g5, 0, none⟩) m' m') o').toArray 31))
        replace bb := bb.grow (below_alloc w6 (.cells (pac q' k' f' t' l' n' (.slice (some ⟨g5, 0, none⟩) m' m') o').toArray 31))
        replace rx := rx.grow (below_alloc w6 (.cells (pac q' k' f' t' l' n' (.slice (some ⟨g5, 0, none⟩) m' m') o').toArray 31))
        replace bx := bx.grow (below_alloc w6 (.cells (pac q' k' f' t' l' n' (.slice (some ⟨g5, 0, none⟩) m' m') o').toArray 31))
        replace ry := ry.grow (below_alloc w6 (.cells (pac q' k' f' t' l' n' (.slice (some ⟨g5, 0, none⟩) m' m') o').toArray 31))
        replace hb := below_trans hb (below_alloc w6 (.cells (pac q' k' f' t' l' n' (.slice (some ⟨g5, 0, none⟩) m' m') o').toArray 31))
        obtain ⟨bxc0, bxc1, bxc2, bxc3, bxc4, bxc5, bxc6, bxc7⟩ := bx.eight
        obtain ⟨by1c0, by1c1, by1c2, by1c3, by1c4, by1c5, by1c6, by1c7⟩ := by1.eight
        go_wp2_with fail
        clear bxc0 bxc1 bxc2 bxc3 bxc4 bxc5 bxc6 bxc7 by1c0 by1c1 by1c2 by1c3 by1c4 by1c5 by1c6 by1c7
        refine (as_bool HT.out (implPaneLess_any _ _ _ _ _ _ _ _ _ _ _ _ _ _ _ _ _)).mono ?_
        rintro e w7 ⟨rfl, hb7⟩
        have z7 := hb7.size
        rw [World.size_alloc] at z7
        replace ba := ba.grow hb7
        replace bb := bb.grow hb7
        replace rx := rx.grow hb7
        replace bx := bx.grow hb7
        replace ry := ry.grow hb7
        replace by1 := by1.grow hb7
        replace hb := below_trans hb hb7
        clear hb7
        have HRd := Lib.hid (fun W (h : Below w7.heap.size w7 W) => rx.reads.below h)
        have kbx0 := fun W (hW : Below w7.heap.size w7 W) => (bx.grow hW).eight.1
        have kbx1 := fun W (hW : Below w7.heap.size w7 W) => (bx.grow hW).eight.2.1
        have kbx2 := fun W (hW : Below w7.heap.size w7 W) => (bx.grow hW).eight.2.2.1
        have kbx3 := fun W (hW : Below w7.heap.size w7 W) => (bx.grow hW).eight.2.2.2.1
        have kbx4 := fun W (hW : Below w7.heap.size w7 W) => (bx.grow hW).eight.2.2.2.2.1
        have kbx5 := fun W (hW : Below w7.heap.size w7 W) => (bx.grow hW).eight.2.2.2.2.2.1
        have kbx6 := fun W (hW : Below w7.heap.size w7 W) => (bx.grow hW).eight.2.2.2.2.2.2.1
        have kbx7 := fun W (hW : Below w7.heap.size w7 W) => (bx.grow hW).eight.2.2.2.2.2.2.2
        have kba0 := fun W (hW : Below w7.heap.size w7 W) => (ba.grow hW).eight.1
        have kba1 := fun W (hW : Below w7.heap.size w7 W) => (ba.grow hW).eight.2.1
        have kba2 := fun W (hW : Below w7.heap.size w7 W) => (ba.grow hW).eight.2.2.1
        have kba3 := fun W (hW : Below w7.heap.size w7 W) => (ba.grow hW).eight.2.2.2.1
        have kba4 := fun W (hW : Below w7.heap.size w7 W) => (ba.grow hW).eight.2.2.2.2.1
        have kba5 := fun W (hW : Below w7.heap.size w7 W) => (ba.grow hW).eight.2.2.2.2.2.1
        have kba6 := fun W (hW : Below w7.heap.size w7 W) => (ba.grow hW).eight.2.2.2.2.2.2.1
        have kba7 := fun W (hW : Below w7.heap.size w7 W) => (ba.grow hW).eight.2.2.2.2.2.2.2
        have HBd := Lib.hid (fun W (h : Below w7.heap.size w7 W) => below_trans hb h)
        go_wp2_with fail
        go_region_held3 (fun W => Below w7.heap.size w7 W) (first | exact (Below.refl _ _).drew | exact below_trans (by assumption) (by assumption))
          (first
            | (go_at_call 26; refine (toPane_w q k f t l n o A m ca zs _ (HA.out _ (HBd.out _ (by assumption))) hz hm).mono ?_; rintro e wt0 ⟨gt, rfl, rt, hbt⟩)
            | (go_at_call 28; refine (eqPane_same q k f t l n o _ _ m _ _ zs _ (HRd.out _ (by assumption)) rt.reads hz hm).mono ?_; rintro e w8 ⟨rfl, hbe⟩))
        have hB8 : Below w7.heap.size w7 w8 := by assumption
        clear hbt hbe rt HRd HBd kbx0 kbx1 kbx2 kbx3 kbx4 kbx5 kbx6 kbx7 kba0 kba1 kba2 kba3 kba4 kba5 kba6 kba7
        have z8 := hB8.size
        replace ba := ba.grow hB8
        replace bb := bb.grow hB8
        replace rx := rx.grow hB8
        replace bx := bx.grow hB8
        replace ry := ry.grow hB8
        replace by1 := by1.grow hB8
        replace hb := below_trans hb hB8
        clear hB8
        have HRd := Lib.hid (fun W (h : Below w8.heap.size w8 W) => ry.reads.below h)
        have kby10 := fun W (hW : Below w8.heap.size w8 W) => (by1.grow hW).eight.1
        have kby11 := fun W (hW : Below w8.heap.size w8 W) => (by1.grow hW).eight.2.1
        have kby12 := fun W (hW : Below w8.heap.size w8 W) => (by1.grow hW).eight.2.2.1
        have kby13 := fun W (hW : Below w8.heap.size w8 W) => (by1.grow hW).eight.2.2.2.1
        have kby14 := fun W (hW : Below w8.heap.size w8 W) => (by1.grow hW).eight.2.2.2.2.1
        have kby15 := fun W (hW : Below w8.heap.size w8 W) => (by1.grow hW).eight.2.2.2.2.2.1
        have kby16 := fun W (hW : Below w8.heap.size w8 W) => (by1.grow hW).eight.2.2.2.2.2.2.1
        have kby17 := fun W (hW : Below w8.heap.size w8 W) => (by1.grow hW).eight.2.2.2.2.2.2.2
        have kbb0 := fun W (hW : Below w8.heap.size w8 W) => (bb.grow hW).eight.1
        have kbb1 := fun W (hW : Below w8.heap.size w8 W) => (bb.grow hW).eight.2.1
        have kbb2 := fun W (hW : Below w8.heap.size w8 W) => (bb.grow hW).eight.2.2.1
        have kbb3 := fun W (hW : Below w8.heap.size w8 W) => (bb.grow hW).eight.2.2.2.1
        have kbb4 := fun W (hW : Below w8.heap.size w8 W) => (bb.grow hW).eight.2.2.2.2.1
        have kbb5 := fun W (hW : Below w8.heap.size w8 W) => (bb.grow hW).eight.2.2.2.2.2.1
        have kbb6 := fun W (hW : Below w8.heap.size w8 W) => (bb.grow hW).eight.2.2.2.2.2.2.1
        have kbb7 := fun W (hW : Below w8.heap.size w8 W) => (bb.grow hW).eight.2.2.2.2.2.2.2
        have HBd := Lib.hid (fun W (h : Below w8.heap.size w8 W) => below_trans hb h)
        go_wp2_with fail
        go_region_held3 (fun W => Below w8.heap.size w8 W) (first | exact (Below.refl _ _).drew | exact below_trans (by assumption) (by assumption))
          (first
            | (go_at_call 26; refine (toPane_w q' k' f' t' l' n' o' A' m' ca' zs' _ (HA'.out _ (HBd.out _ (by assumption))) hz' hm').mono ?_; rintro e wt0 ⟨gt, rfl, rt, hbt⟩)
            | (go_at_call 28; refine (eqPane_same q' k' f' t' l' n' o' _ _ m' _ _ zs' _ (HRd.out _ (by assumption)) rt.reads hz' hm').mono ?_; rintro e w9 ⟨rfl, hbe⟩))
        have hB9 : Below w8.heap.size w8 w9 := by assumption
        clear hbt hbe rt HRd HBd kby10 kby11 kby12 kby13 kby14 kby15 kby16 kby17 kbb0 kbb1 kbb2 kbb3 kbb4 kbb5 kbb6 kbb7
        have z9 := hB9.size
        replace ba := ba.grow hB9
        replace bb := bb.grow hB9
        replace rx := rx.grow hB9
        replace bx := bx.grow hB9
        replace ry := ry.grow hB9
        replace by1 := by1.grow hB9
        replace hb := below_trans hb hB9
        clear hB9
        clear ba bb rx bx ry by1
        go_wp2
        go_ret
        exact ⟨rfl, hb⟩
    · have hle2 := Lib.hid (show lessF left m' = -1 by simp [lessF]; omega)
      have HL := Lib.hid (show 0 ≤ left ∧ left ≤ 1048576 by omega)
      clear hleft hs
      have hb := Below.refl w.heap.size w
      go_enter Try.func7, Try.ntmps7
      have ba := Own.new w 52 (pac q k f t l n (.slice A m ca) o)
      replace hb := below_trans hb (below_alloc w (.cells (pac q k f t l n (.slice A m ca) o).toArray 52))
      have bb := new_second w (.cells (pac q k f t l n (.slice A m ca) o).toArray 52) 52 (pac q' k' f' t' l' n' (.slice A' m' ca') o')
      replace ba := ba.grow (below_alloc (w.alloc (.cells (pac q k f t l n (.slice A m ca) o).toArray 52)) (.cells (pac q' k' f' t' l' n' (.slice A' m' ca') o').toArray 52))
      replace hb := below_trans hb (below_alloc (w.alloc (.cells (pac q k f t l n (.slice A m ca) o).toArray 52)) (.cells (pac q' k' f' t' l' n' (.slice A' m' ca') o').toArray 52))
      obtain ⟨bac0, bac1, bac2, bac3, bac4, bac5, bac6, bac7⟩ := ba.eight
      obtain ⟨bbc0, bbc1, bbc2, bbc3, bbc4, bbc5, bbc6, bbc7⟩ := bb.eight
      go_wp2_with fail
      clear bac0 bac1 bac2 bac3 bac4 bac5 bac6 bac7 bbc0 bbc1 bbc2 bbc3 bbc4 bbc5 bbc6 bbc7
      refine (as_int hle.out (szPane_any q k f t l n o A m ca 1048576 _ (by omega) (by omega) hn)).mono ?_
      rintro e w2 ⟨rfl, hb2⟩
      have z2 := hb2.size
      rw [World.size_alloc, World.size_alloc] at z2
      replace ba := ba.grow hb2
      replace bb := bb.grow hb2
      replace hb := below_trans hb hb2
      clear hb2
      obtain ⟨bbc0, bbc1, bbc2, bbc3, bbc4, bbc5, bbc6, bbc7⟩ := bb.eight
      go_wp2_with fail
      clear bbc0 bbc1 bbc2 bbc3 bbc4 bbc5 bbc6 bbc7
      refine (as_int hle2.out (szPane_any q' k' f' t' l' n' o' A' m' ca' left _ HL.out.1 HL.out.2 hn')).mono ?_
      rintro e w3 ⟨rfl, hb3⟩
      have z3 := hb3.size
      replace ba := ba.grow hb3
      replace bb := bb.grow hb3
      replace hb := below_trans hb hb3
      clear hb3
      clear ba bb
      go_wp2
      go_ret
      exact ⟨rfl, hb⟩
  · have hle := Lib.hid (show lessF 1048576 m = -1 by simp [lessF]; omega)
    have hb := Below.refl w.heap.size w
    go_enter Try.func7, Try.ntmps7
    have ba := Own.new w 52 (pac q k f t l n (.slice A m ca) o)
    replace hb := below_trans hb (below_alloc w (.cells (pac q k f t l n (.slice A m ca) o).toArray 52))
    have bb := new_second w (.cells (pac q k f t l n (.slice A m ca) o).toArray 52) 52 (pac q' k' f' t' l' n' (.slice A' m' ca') o')
    replace ba := ba.grow (below_alloc (w.alloc (.cells (pac q k f t l n (.slice A m ca) o).toArray 52)) (.cells (pac q' k' f' t' l' n' (.slice A' m' ca') o').toArray 52))
    replace hb := below_trans hb (below_alloc (w.alloc (.cells (pac q k f t l n (.slice A m ca) o).toArray 52)) (.cells (pac q' k' f' t' l' n' (.slice A' m' ca') o').toArray 52))
    obtain ⟨bac0, bac1, bac2, bac3, bac4, bac5, bac6, bac7⟩ := ba.eight
    obtain ⟨bbc0, bbc1, bbc2, bbc3, bbc4, bbc5, bbc6, bbc7⟩ := bb.eight
    go_wp2_with fail
    clear bac0 bac1 bac2 bac3 bac4 bac5 bac6 bac7 bbc0 bbc1 bbc2 bbc3 bbc4 bbc5 bbc6 bbc7
    refine (as_int hle.out (szPane_any q k f t l n o A m ca 1048576 _ (by omega) (by omega) hn)).mono ?_
    rintro e w2 ⟨rfl, hb2⟩
    have z2 := hb2.size
    rw [World.size_alloc, World.size_alloc] at z2
    replace ba := ba.grow hb2
    replace bb := bb.grow hb2
    replace hb := below_trans hb hb2
    clear hb2
    clear ba bb
    go_wp2
    go_ret
    exact ⟨rfl, hb⟩
end Go.Proofs.Ytlmlckgnmkjkdaa
