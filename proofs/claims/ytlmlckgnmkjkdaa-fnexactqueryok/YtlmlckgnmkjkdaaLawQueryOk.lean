/-
  The law on QueryOk: at every query the program answers as the model and leaves its argument as it was. WRITTEN BY tools/genpl.py.
-/
import Derived.Test.YtlmlckgnmkjkdaaQueryA
import Derived.Test.YtlmlckgnmkjkdaaRegRest
namespace Go.Proofs.Ytlmlckgnmkjkdaa
open Go.RowKit

set_option maxRecDepth 100000 in
set_option maxHeartbeats 4000000 in
theorem fnExactQueryOk_walk (k s t q kk : Int) (F : Option Addr) (n cf : Nat) (fs : List (Int × Int)) (M : Option Addr) (m cm : Nat) (ms : List (Int × Int)) (w : World)
    (hF : Rd w F (ez fs)) (hz : fs.length = n) (hn0 : n ≤ 9223372036854775807) (hM : Rd w M (ez ms)) (hy : ms.length = m) (hm0 : m ≤ 9223372036854775807) :
    Calls Try.prog 4 #[qv (.slice F n cf) (.slice M m cm) k s t q kk] w fun e w' => e = .returned (.bool true) ∧ Below w.heap.size w w' := by
  have HF := Lib.hid (fun W (h : Below w.heap.size w W) => hF.below h)
  have HM := Lib.hid (fun W (h : Below w.heap.size w W) => hM.below h)
  clear hF hM
  by_cases hs : n + m ≤ 1048576
  · have hn : n ≤ 1048576 := by omega
    have hm : m ≤ 1048576 := by omega
    obtain ⟨b, HT⟩ : ∃ b, Hid (tf (queryOk fs ms k s t q kk) = b) := ⟨_, Lib.hid rfl⟩
    have hne : (b != b) = false := by simp
    have hb := Below.refl w.heap.size w
    go_enter Try.func4, Try.ntmps4
    have ba := Own.new w 36 (qc (.slice F n cf) (.slice M m cm) k s t q kk)
    replace hb := below_trans hb (below_alloc w (.cells (qc (.slice F n cf) (.slice M m cm) k s t q kk).toArray 36))
    obtain ⟨bac0, bac1, bac2, bac3, bac4, bac5, bac6⟩ := ba.seven
    go_wp2_with fail
    clear bac0 bac1 bac2 bac3 bac4 bac5 bac6
    refine (szQuery_fits F M n cf m cm k s t q kk _ hs).mono ?_
    rintro e w2 ⟨left, rfl, hlf, hb2⟩
    have z2 := hb2.size
    rw [World.size_alloc] at z2
    replace ba := ba.grow hb2
    replace hb := below_trans hb hb2
    clear hb2
    have hlt : ¬ left < 0 := by omega
    clear hlf
    obtain ⟨bac0, bac1, bac2, bac3, bac4, bac5, bac6⟩ := ba.seven
    go_wp2_with fail
    clear bac0 bac1 bac2 bac3 bac4 bac5 bac6
    refine (toQuery_w k s t q kk F n cf fs M m cm ms _ (HF.out _ hb) hz hn (HM.out _ hb) hy hm).mono ?_
    rintro e w3 ⟨g1, g2, mid, rfl, p1, p2, -, -, hb3⟩
    have z3 := hb3.size
    replace ba := ba.grow hb3
    replace hb := below_trans hb hb3
    clear hb3
    go_wp2_with fail
    refine (as_bool HT.out (specQueryOk_any k s t q kk _ n _ fs _ m _ ms _ p1.reads hz hn p2.reads hy hm)).mono ?_
    rintro e w4 ⟨rfl, hb4⟩
    have z4 := hb4.size
    replace ba := ba.grow hb4
    replace p1 := p1.grow hb4
    replace p2 := p2.grow hb4
    replace hb := below_trans hb hb4
    clear hb4
    clear p1
    clear p2
    obtain ⟨bac0, bac1, bac2, bac3, bac4, bac5, bac6⟩ := ba.seven
    go_wp2_with fail
    clear bac0 bac1 bac2 bac3 bac4 bac5 bac6
    refine (toQuery_w k s t q kk F n cf fs M m cm ms _ (HF.out _ hb) hz hn (HM.out _ hb) hy hm).mono ?_
    rintro e w5 ⟨g3, g4, mid2, rfl, rx, ry, -, -, hb5⟩
    have z5 := hb5.size
    replace ba := ba.grow hb5
    replace hb := below_trans hb hb5
    clear hb5
    have bx := Own.new w5 42 (qc (.slice (some ⟨g3, 0, none⟩) n n) (.slice (some ⟨g4, 0, none⟩) m m) k s t q kk)
    replace ba := ba.grow (below_alloc w5 (.cells (qc (.slice (some ⟨g3, 0, none⟩) n n) (.slice (some ⟨g4, 0, none⟩) m m) k s t q kk).toArray 42))
    replace rx := rx.grow (below_alloc w5 (.cells (qc (.slice (some ⟨g3, 0, none⟩) n n) (.slice (some ⟨g4, 0, none⟩) m m) k s t q kk).toArray 42))
    replace ry := ry.grow (below_alloc w5 (.cells (qc (.slice (some ⟨g3, 0, none⟩) n n) (.slice (some ⟨g4, 0, none⟩) m m) k s t q kk).toArray 42))
    replace hb := below_trans hb (below_alloc w5 (.cells (qc (.slice (some ⟨g3, 0, none⟩) n n) (.slice (some ⟨g4, 0, none⟩) m m) k s t q kk).toArray 42))
    obtain ⟨bxc0, bxc1, bxc2, bxc3, bxc4, bxc5, bxc6⟩ := bx.seven
    go_wp2_with fail
    clear bxc0 bxc1 bxc2 bxc3 bxc4 bxc5 bxc6
    refine (as_bool HT.out (implQueryOk_any k s t q kk _ n _ fs _ m _ ms _ rx.reads hz hn ry.reads hy hm)).mono ?_
    rintro e w6 ⟨rfl, hb6⟩
    have z6 := hb6.size
    rw [World.size_alloc] at z6
    replace ba := ba.grow hb6
    replace rx := rx.grow hb6
    replace ry := ry.grow hb6
    replace bx := bx.grow hb6
    replace hb := below_trans hb hb6
    clear hb6
    have HRd := Lib.hid (fun W (h : Below w6.heap.size w6 W) => And.intro (rx.reads.below h) (ry.reads.below h))
    have kbx0 := fun W (hW : Below w6.heap.size w6 W) => (bx.grow hW).seven.1
    have kbx1 := fun W (hW : Below w6.heap.size w6 W) => (bx.grow hW).seven.2.1
    have kbx2 := fun W (hW : Below w6.heap.size w6 W) => (bx.grow hW).seven.2.2.1
    have kbx3 := fun W (hW : Below w6.heap.size w6 W) => (bx.grow hW).seven.2.2.2.1
    have kbx4 := fun W (hW : Below w6.heap.size w6 W) => (bx.grow hW).seven.2.2.2.2.1
    have kbx5 := fun W (hW : Below w6.heap.size w6 W) => (bx.grow hW).seven.2.2.2.2.2.1
    have kbx6 := fun W (hW : Below w6.heap.size w6 W) => (bx.grow hW).seven.2.2.2.2.2.2
    have kba0 := fun W (hW : Below w6.heap.size w6 W) => (ba.grow hW).seven.1
    have kba1 := fun W (hW : Below w6.heap.size w6 W) => (ba.grow hW).seven.2.1
    have kba2 := fun W (hW : Below w6.heap.size w6 W) => (ba.grow hW).seven.2.2.1
    have kba3 := fun W (hW : Below w6.heap.size w6 W) => (ba.grow hW).seven.2.2.2.1
    have kba4 := fun W (hW : Below w6.heap.size w6 W) => (ba.grow hW).seven.2.2.2.2.1
    have kba5 := fun W (hW : Below w6.heap.size w6 W) => (ba.grow hW).seven.2.2.2.2.2.1
    have kba6 := fun W (hW : Below w6.heap.size w6 W) => (ba.grow hW).seven.2.2.2.2.2.2
    have HBd := Lib.hid (fun W (h : Below w6.heap.size w6 W) => below_trans hb h)
    go_wp2_with fail
    go_region_held3 (fun W => Below w6.heap.size w6 W) (first | exact (Below.refl _ _).drew | exact below_trans (by assumption) (by assumption))
      (first
        | (go_at_call 18; refine (toQuery_w k s t q kk F n cf fs M m cm ms _ (HF.out _ (HBd.out _ (by assumption))) hz hn (HM.out _ (HBd.out _ (by assumption))) hy hm).mono ?_; rintro e wt0 ⟨gt, gt2, mt, rfl, rt, rt2, -, -, hbt⟩)
        | (go_at_call 20; refine (eqQuery_same k s t q kk _ _ n _ _ fs _ _ m _ _ ms _ (HRd.out _ (by assumption)).1 rt.reads hz hn (HRd.out _ (by assumption)).2 rt2.reads hy hm).mono ?_; rintro e w7 ⟨rfl, hbe⟩))
    have hB7 : Below w6.heap.size w6 w7 := by assumption
    clear hbt hbe rt rt2 HRd HBd kbx0 kbx1 kbx2 kbx3 kbx4 kbx5 kbx6 kba0 kba1 kba2 kba3 kba4 kba5 kba6
    have z7 := hB7.size
    replace ba := ba.grow hB7
    replace rx := rx.grow hB7
    replace ry := ry.grow hB7
    replace bx := bx.grow hB7
    replace hb := below_trans hb hB7
    clear hB7
    clear ba rx ry bx
    go_wp2
    go_ret
    exact ⟨rfl, hb⟩
  · have hb := Below.refl w.heap.size w
    go_enter Try.func4, Try.ntmps4
    have ba := Own.new w 36 (qc (.slice F n cf) (.slice M m cm) k s t q kk)
    replace hb := below_trans hb (below_alloc w (.cells (qc (.slice F n cf) (.slice M m cm) k s t q kk).toArray 36))
    obtain ⟨bac0, bac1, bac2, bac3, bac4, bac5, bac6⟩ := ba.seven
    go_wp2_with fail
    clear bac0 bac1 bac2 bac3 bac4 bac5 bac6
    refine (szQuery_big F M n cf m cm k s t q kk _ hs hn0 hm0).mono ?_
    rintro e w2 ⟨rfl, hb2⟩
    have z2 := hb2.size
    rw [World.size_alloc] at z2
    replace ba := ba.grow hb2
    replace hb := below_trans hb hb2
    clear hb2
    clear ba
    go_wp2
    go_ret
    exact ⟨rfl, hb⟩
end Go.Proofs.Ytlmlckgnmkjkdaa
