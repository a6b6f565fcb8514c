/-
  The law on AggOk: at every aggregate the program answers as the model and writes into no argument. By genagg.py.
-/
import Derived.Test.YtkaghdkehkjdoaaAggOkI
import Derived.Test.YtkaghdkehkjdoaaAggOkS
import Derived.Test.YtkaghdkehkjdoaaKitAgg
import Derived.Test.YtkaghdkehkjdoaaLawRowAg
namespace Go.Proofs.Ytkaghdkehkjdoaa
open Go.RowKit

set_option maxRecDepth 100000 in
set_option maxHeartbeats 8000000 in
theorem fnExactAggOk_walk (N h lw mn mx : Int) (A : Option Addr) (ca : Nat) (ts : List Int) (w : World) (hA : Rd w A (iz ts)) (hn : ts.length ≤ 9223372036854775807) (hh : I64 h) (hl : U64w lw) (hm : I64 mn) (h64 : ∀ x ∈ ts, I64 x) :
    Calls Try.prog 6 #[agv N h lw mn mx (.slice A ts.length ca)] w fun e w' => e = .returned (.bool true) ∧ Below w.heap.size w w' := by
  have HA := Lib.hid (fun W (h : Below w.heap.size w W) => hA.below h)
  clear hA
  by_cases hn2 : ts.length ≤ 1048576
  · have hle : lessF 1048576 ts.length = 1048576 - (ts.length : Int) := by simp [lessF]; omega
    have hlt : ¬ (1048576 - (ts.length : Int) < 0) := by omega
    obtain ⟨z, hz, e1, e2⟩ := wide_in hh hl
    have HS := Lib.hid (fun g W (h : Rd W (some ⟨g, 0, none⟩) (iz ts)) => specAggOk_any N z mn mx _ _ (some ⟨g, 0, none⟩) ts.length ts.length ts W h rfl hn2 (sfit_nn g _) h64 hm hz e1 e2)
    have HI := Lib.hid (fun g W (h : Rd W (some ⟨g, 0, none⟩) (iz ts)) => implAggOk_any N z mn mx _ _ (some ⟨g, 0, none⟩) ts.length ts.length ts W h rfl hn2 h64 hm hz e1 e2)
    obtain ⟨t, HT⟩ : ∃ t, Hid (tf (aggOk N z mn mx ts) = t) := ⟨_, Lib.hid rfl⟩
    have htt : (t != t) = false := by simp
    clear h64 hz e1 e2 hh hl hm
    have hb := Below.refl w.heap.size w
    go_enter Try.func6, Try.ntmps6
    have ba := Own.new w 46 (agc N h lw mn mx (.slice A ts.length ca))
    replace hb := below_trans hb (below_alloc w (.cells (agc N h lw mn mx (.slice A ts.length ca)).toArray 46))
    obtain ⟨bac0, bac1, bac2, bac3, bac4, bac5⟩ := ba.six
    go_wp2_with fail
    clear bac0 bac1 bac2 bac3 bac4 bac5
    refine (hle ▸ szAgg_any N h lw mn mx A ts.length ca 1048576 _ (by omega) (by omega) hn).mono ?_
    rintro e w2 ⟨rfl, hb2⟩
    have z2 := hb2.size
    rw [World.size_alloc] at z2
    replace ba := ba.grow hb2
    replace hb := below_trans hb hb2
    clear hb2
    obtain ⟨bac0, bac1, bac2, bac3, bac4, bac5⟩ := ba.six
    go_wp2_with fail
    clear bac0 bac1 bac2 bac3 bac4 bac5
    refine (toAgg_w N h lw mn mx A ts.length ca ts _ (HA.out _ hb) rfl hn2).mono ?_
    rintro e w3 ⟨g2, rfl, p1, hb3⟩
    have z3 := hb3.size
    replace ba := ba.grow hb3
    replace hb := below_trans hb hb3
    clear hb3
    go_wp2_with fail
    refine (as_bool HT.out (HS.out _ _ p1.reads)).mono ?_
    rintro e w4 ⟨rfl, hb4⟩
    have z4 := hb4.size
    replace ba := ba.grow hb4
    replace p1 := p1.grow hb4
    replace hb := below_trans hb hb4
    clear hb4
    clear p1
    obtain ⟨bac0, bac1, bac2, bac3, bac4, bac5⟩ := ba.six
    go_wp2_with fail
    clear bac0 bac1 bac2 bac3 bac4 bac5
    refine (toAgg_w N h lw mn mx A ts.length ca ts _ (HA.out _ hb) rfl hn2).mono ?_
    rintro e w5 ⟨g4, rfl, rx, hb5⟩
    have z5 := hb5.size
    replace ba := ba.grow hb5
    replace hb := below_trans hb hb5
    clear hb5
    have b0 := Own.new w5 31 (agc N h lw mn mx (.slice (some ⟨g4, 0, none⟩) ts.length ts.length))
    replace ba := ba.grow (below_alloc w5 (.cells (agc N h lw mn mx (.slice (some ⟨g4, 0, none⟩) ts.length ts.length)).toArray 31))
    replace rx := rx.grow (below_alloc w5 (.cells (agc N h lw mn mx (.slice (some ⟨g4, 0, none⟩) ts.length ts.length)).toArray 31))
    replace hb := below_trans hb (below_alloc w5 (.cells (agc N h lw mn mx (.slice (some ⟨g4, 0, none⟩) ts.length ts.length)).toArray 31))
    obtain ⟨b0c0, b0c1, b0c2, b0c3, b0c4, b0c5⟩ := b0.six
    go_wp2_with fail
    clear b0c0 b0c1 b0c2 b0c3 b0c4 b0c5
    refine (as_bool HT.out (HI.out _ _ rx.reads)).mono ?_
    rintro e w6 ⟨rfl, hb6⟩
    have z6 := hb6.size
    rw [World.size_alloc] at z6
    replace ba := ba.grow hb6
    replace rx := rx.grow hb6
    replace b0 := b0.grow hb6
    replace hb := below_trans hb hb6
    clear hb6
    have kx0 := fun W (hW : Below w6.heap.size w6 W) => (b0.grow hW).six.1
    have kx1 := fun W (hW : Below w6.heap.size w6 W) => (b0.grow hW).six.2.1
    have kx2 := fun W (hW : Below w6.heap.size w6 W) => (b0.grow hW).six.2.2.1
    have kx3 := fun W (hW : Below w6.heap.size w6 W) => (b0.grow hW).six.2.2.2.1
    have kx4 := fun W (hW : Below w6.heap.size w6 W) => (b0.grow hW).six.2.2.2.2.1
    have kx5 := fun W (hW : Below w6.heap.size w6 W) => (b0.grow hW).six.2.2.2.2.2
    have ka0 := fun W (hW : Below w6.heap.size w6 W) => (ba.grow hW).six.1
    have ka1 := fun W (hW : Below w6.heap.size w6 W) => (ba.grow hW).six.2.1
    have ka2 := fun W (hW : Below w6.heap.size w6 W) => (ba.grow hW).six.2.2.1
    have ka3 := fun W (hW : Below w6.heap.size w6 W) => (ba.grow hW).six.2.2.2.1
    have ka4 := fun W (hW : Below w6.heap.size w6 W) => (ba.grow hW).six.2.2.2.2.1
    have ka5 := fun W (hW : Below w6.heap.size w6 W) => (ba.grow hW).six.2.2.2.2.2
    have HRd := Lib.hid (fun W (h : Below w6.heap.size w6 W) => rx.reads.below h)
    have HBd := Lib.hid (fun W (h : Below w6.heap.size w6 W) => below_trans hb h)
    go_wp2_with fail
    go_region_held3 (fun W => Below w6.heap.size w6 W) (first | exact (Below.refl _ _).drew | exact below_trans (by assumption) (by assumption))
      (first
        | (go_at_call 30; refine (toAgg_w N h lw mn mx A ts.length ca ts _ (HA.out _ (HBd.out _ (by assumption))) rfl hn2).mono ?_; rintro e wt ⟨gt, rfl, rt, hbt⟩)
        | (go_at_call 23; refine (eqAgg_same N h lw mn mx _ _ ts.length _ _ ts _ (HRd.out _ (by assumption)) rt.reads rfl hn2).mono ?_; rintro e w7 ⟨rfl, hbe⟩))
    have hB7 : Below w6.heap.size w6 w7 := by assumption
    clear hbt hbe rt HRd HBd kx0 kx1 kx2 kx3 kx4 kx5 ka0 ka1 ka2 ka3 ka4 ka5
    have z7 := hB7.size
    replace ba := ba.grow hB7
    replace rx := rx.grow hB7
    replace b0 := b0.grow hB7
    replace hb := below_trans hb hB7
    clear hB7
    clear ba rx b0
    go_wp2
    go_ret
    exact ⟨rfl, hb⟩
  · have hle : lessF 1048576 ts.length = -1 := by simp [lessF]; omega
    go_enter Try.func6, Try.ntmps6
    go_wp2_with fail
    refine (hle ▸ szAgg_any N h lw mn mx A ts.length ca 1048576 _ (by omega) (by omega) hn).mono ?_
    rintro e w2 ⟨rfl, hb2⟩
    go_wp2
    go_ret
    exact ⟨rfl, below_trans (below_alloc w _) hb2⟩
end Go.Proofs.Ytkaghdkehkjdoaa
