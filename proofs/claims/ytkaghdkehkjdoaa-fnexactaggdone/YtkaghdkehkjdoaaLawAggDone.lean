/-
  The law on AggDone: at every kind, k and aggregate the program answers as the model, writes into no argument, and its answer owns its memory. By genagg.py.
-/
import Derived.Test.YtkaghdkehkjdoaaDoneS
import Derived.Test.YtkaghdkehkjdoaaKitAgg
import Derived.Test.YtkaghdkehkjdoaaLawRowAg
namespace Go.Proofs.Ytkaghdkehkjdoaa
open Go.RowKit

theorem take_len {l : List Int} {k n : Nat} (h : l.length ≤ n) : (l.take k).length ≤ n := by rw [List.length_take]; omega
theorem done_len {q k N z mn mx me : Int} {top L : List Int} {b : Bool} (h : DoneIs q k N z mn mx me top L b) (ht : top.length ≤ 1048576) : L.length ≤ 1048576 := by
  by_cases hd : doneOk q k N z mn mx top
  · have hk : q = 1 ∨ q = 2 ∨ q = 3 ∨ q = 4 ∨ q = 5 ∨ q = 6 := by
      have := hd.1
      unfold kindOk at this
      omega
    rcases hk with rfl | rfl | rfl | rfl | rfl | rfl
    · rw [(h.one hd rfl).1]; simp
    · by_cases hz : I64 z
      · rw [(h.sum hd rfl hz).1]; simp
      · rw [(h.over hd rfl hz).1]; simp
    · rw [(h.least hd rfl).1]; simp
    · rw [(h.most hd rfl).1]; simp
    · rw [(h.mean hd rfl).1]; simp
    · rw [(h.top hd rfl).1]; exact take_len ht
  · rw [(h.no hd).1]; simp

set_option maxRecDepth 100000 in
set_option maxHeartbeats 8000000 in
theorem fnExactAggDone_walk (q k N h lw mn mx : Int) (A : Option Addr) (ca : Nat) (ts : List Int) (w : World) (hA : Rd w A (iz ts)) (hn : ts.length ≤ 9223372036854775807) (hh : I64 h) (hl : U64w lw) (hm1 : I64 mn) (h64 : ∀ x ∈ ts, I64 x) :
    Calls Try.prog 8 #[.int .i64 q, .int .i64 k, agv N h lw mn mx (.slice A ts.length ca)] w fun e w' => e = .returned (.bool true) ∧ Below w.heap.size w w' := by
  have HA := Lib.hid (fun W (h : Below w.heap.size w W) => hA.below h)
  clear hA
  by_cases hn2 : ts.length ≤ 1048576
  · have hle : lessF 1048576 ts.length = 1048576 - (ts.length : Int) := by simp [lessF]; omega
    have hlt : ¬ (1048576 - (ts.length : Int) < 0) := by omega
    obtain ⟨z, hz, e1, e2⟩ := wide_in hh hl
    obtain ⟨me, ok, HI1, HS1, _, _⟩ := mean_both (hi z) (lo z) z N hz rfl rfl
    obtain ⟨rs, b, hD⟩ := done_some q k N z mn mx me ts
    have hm0 := done_len hD hn2
    obtain ⟨m, HM⟩ : ∃ m, Hid (rs.length = m) := ⟨_, Lib.hid rfl⟩
    have hm : m ≤ 1048576 := by have := HM.out; omega
    have HS := Lib.hid (fun g W (h : Rd W (some ⟨g, 0, none⟩) (iz ts)) => show Calls Try.prog 20 #[.int .i64 q, .int .i64 k, agv N _ _ mn mx (.slice (some ⟨g, 0, none⟩) ts.length ts.length)] W (DoneRes rs m b W) from specAggDone_any q k N z mn mx me ok (some ⟨g, 0, none⟩) ts.length ts.length ts rs m b W h rfl hn2 (sfit_nn g _) h64 hm1 hz HS1 hD HM.out)
    have HI := Lib.hid (fun g W (h : Rd W (some ⟨g, 0, none⟩) (iz ts)) => show Calls Try.prog 19 #[.int .i64 q, .int .i64 k, agv N _ _ mn mx (.slice (some ⟨g, 0, none⟩) ts.length ts.length)] W (DoneRes rs m b W) from implAggDone_any q k N z mn mx me ok (some ⟨g, 0, none⟩) ts.length ts.length ts rs m b W h rfl hn2 (sfit_nn g _) h64 hm1 hz HI1 hD HM.out)
    rw [← e1, ← e2] at HS HI
    clear h64 hz e1 e2 hh hl hm1 HI1 HS1 hD hm0
    have hbb : (b != b) = false := by simp
    obtain ⟨q0, HQ0⟩ : ∃ q0 : Int, Hid (1 + (ts.length : Int) = q0) := ⟨_, Lib.hid rfl⟩
    have hp3 : ¬ q0 < 0 := by have := HQ0.out; omega
    obtain ⟨q1, HQ⟩ : ∃ q1 : Int, Hid (1 + (m : Int) = q1) := ⟨_, Lib.hid rfl⟩
    have hne2 : (q1 != q1) = false := by simp
    have hq2 : ¬ q1 < 0 := by have := HQ.out; omega
    have hb := Below.refl w.heap.size w
    go_enter Try.func8, Try.ntmps8
    have ba := Own.new w 46 (agc N h lw mn mx (.slice A ts.length ca))
    replace hb := below_trans hb (below_alloc w (.cells (agc N h lw mn mx (.slice A ts.length ca)).toArray 46))
    obtain ⟨bac0, bac1, bac2, bac3, bac4, bac5⟩ := ba.six
    go_wp2_with fail
    clear bac0 bac1 bac2 bac3 bac4 bac5
    refine (hle ▸ szAgg_any N h lw mn mx A ts.length ca 1048576 _ (by omega) (by omega) hn).mono ?_
    rintro e w2 ⟨rfl, hb2⟩
    have z2 := hb2.size
    rw [World.size_alloc] at z2
    replace ba := ba.grow hb2
    replace hb := below_trans hb hb2
    clear hb2
    obtain ⟨bac0, bac1, bac2, bac3, bac4, bac5⟩ := ba.six
    go_wp2_with fail
    clear bac0 bac1 bac2 bac3 bac4 bac5
    refine (toAgg_w N h lw mn mx A ts.length ca ts _ (HA.out _ hb) rfl hn2).mono ?_
    rintro e w3 ⟨g2, rfl, p1, hb3⟩
    have z3 := hb3.size
    replace ba := ba.grow hb3
    replace hb := below_trans hb hb3
    clear hb3
    go_wp2_with fail
    refine (HS.out _ _ p1.reads).mono ?_
    rintro e w4 ⟨A0, c0, rfl, r0, hb4⟩
    have z4 := hb4.size
    replace ba := ba.grow hb4
    replace p1 := p1.grow hb4
    replace hb := below_trans hb hb4
    clear hb4
    clear p1
    obtain ⟨bac0, bac1, bac2, bac3, bac4, bac5⟩ := ba.six
    go_wp2_with fail
    clear bac0 bac1 bac2 bac3 bac4 bac5
    refine (toAgg_w N h lw mn mx A ts.length ca ts _ (HA.out _ hb) rfl hn2).mono ?_
    rintro e w5 ⟨g4, rfl, rx, hb5⟩
    have z5 := hb5.size
    replace ba := ba.grow hb5
    replace r0 := r0.grow hb5
    replace hb := below_trans hb hb5
    clear hb5
    have bx := Own.new w5 31 (agc N h lw mn mx (.slice (some ⟨g4, 0, none⟩) ts.length ts.length))
    replace ba := ba.grow (below_alloc w5 (.cells (agc N h lw mn mx (.slice (some ⟨g4, 0, none⟩) ts.length ts.length)).toArray 31))
    replace r0 := r0.grow (below_alloc w5 (.cells (agc N h lw mn mx (.slice (some ⟨g4, 0, none⟩) ts.length ts.length)).toArray 31))
    replace rx := rx.grow (below_alloc w5 (.cells (agc N h lw mn mx (.slice (some ⟨g4, 0, none⟩) ts.length ts.length)).toArray 31))
    replace hb := below_trans hb (below_alloc w5 (.cells (agc N h lw mn mx (.slice (some ⟨g4, 0, none⟩) ts.length ts.length)).toArray 31))
    obtain ⟨bxc0, bxc1, bxc2, bxc3, bxc4, bxc5⟩ := bx.six
    go_wp2_with fail
    clear bxc0 bxc1 bxc2 bxc3 bxc4 bxc5
    refine (HI.out _ _ rx.reads).mono ?_
    rintro e w6 ⟨A1, c1, rfl, r1, hb6⟩
    have z6 := hb6.size
    rw [World.size_alloc] at z6
    rw [World.size_alloc] at r1
    replace ba := ba.grow hb6
    replace r0 := r0.grow hb6
    replace rx := rx.grow hb6
    replace bx := bx.grow hb6
    replace hb := below_trans hb hb6
    clear hb6
    go_wp2_with fail
    refine (eqIntS_same A1 A0 m c1 c0 rs _ r1.reads r0.reads HM.out hm).mono ?_
    rintro e w7 ⟨rfl, hb7⟩
    have z7 := hb7.size
    replace ba := ba.grow hb7
    replace r0 := r0.grow hb7
    replace rx := rx.grow hb7
    replace bx := bx.grow hb7
    replace r1 := r1.grow hb7
    replace hb := below_trans hb hb7
    clear hb7
    have kx0 := fun W (hW : Below w7.heap.size w7 W) => (bx.grow hW).six.1
    have kx1 := fun W (hW : Below w7.heap.size w7 W) => (bx.grow hW).six.2.1
    have kx2 := fun W (hW : Below w7.heap.size w7 W) => (bx.grow hW).six.2.2.1
    have kx3 := fun W (hW : Below w7.heap.size w7 W) => (bx.grow hW).six.2.2.2.1
    have kx4 := fun W (hW : Below w7.heap.size w7 W) => (bx.grow hW).six.2.2.2.2.1
    have kx5 := fun W (hW : Below w7.heap.size w7 W) => (bx.grow hW).six.2.2.2.2.2
    have ka0 := fun W (hW : Below w7.heap.size w7 W) => (ba.grow hW).six.1
    have ka1 := fun W (hW : Below w7.heap.size w7 W) => (ba.grow hW).six.2.1
    have ka2 := fun W (hW : Below w7.heap.size w7 W) => (ba.grow hW).six.2.2.1
    have ka3 := fun W (hW : Below w7.heap.size w7 W) => (ba.grow hW).six.2.2.2.1
    have ka4 := fun W (hW : Below w7.heap.size w7 W) => (ba.grow hW).six.2.2.2.2.1
    have ka5 := fun W (hW : Below w7.heap.size w7 W) => (ba.grow hW).six.2.2.2.2.2
    have HRd := Lib.hid (fun W (h : Below w7.heap.size w7 W) => rx.reads.below h)
    have HBd := Lib.hid (fun W (h : Below w7.heap.size w7 W) => below_trans hb h)
    go_wp2_with fail
    go_region_held3 (fun W => Below w7.heap.size w7 W) (first | exact (Below.refl _ _).drew | exact below_trans (by assumption) (by assumption))
      (first
        | (go_at_call 30; refine (toAgg_w N h lw mn mx A ts.length ca ts _ (HA.out _ (HBd.out _ (by assumption))) rfl hn2).mono ?_; rintro e wt ⟨gt, rfl, rt, hbt⟩)
        | (go_at_call 23; refine (eqAgg_same N h lw mn mx _ _ ts.length _ _ ts _ (HRd.out _ (by assumption)) rt.reads rfl hn2).mono ?_; rintro e w8 ⟨rfl, hbe⟩))
    have hB8 : Below w7.heap.size w7 w8 := by assumption
    clear hbt hbe rt HRd HBd kx0 kx1 kx2 kx3 kx4 kx5 ka0 ka1 ka2 ka3 ka4 ka5
    have z8 := hB8.size
    replace ba := ba.grow hB8
    replace r0 := r0.grow hB8
    replace rx := rx.grow hB8
    replace bx := bx.grow hB8
    replace r1 := r1.grow hB8
    replace hb := below_trans hb hB8
    clear hB8
    obtain ⟨bxc0, bxc1, bxc2, bxc3, bxc4, bxc5⟩ := bx.six
    go_wp2_with fail
    clear bxc0 bxc1 bxc2 bxc3 bxc4 bxc5
    refine (as_int HQ0.out (markAgg_at N h lw mn mx _ _ _ _ ts.length ts 1 _ rx (by omega) (by omega) rfl hn2)).mono ?_
    rintro e w9 ⟨rfl, rxm, hO⟩
    have z9 := hO.size
    replace ba := ba.only hO (.inl (by omega))
    replace r0 := r0.move (hO.same (.inl (by omega)) (by omega))
    replace bx := bx.only hO (.inr (by omega))
    replace r1 := r1.move (hO.same (.inr (by omega)) (by omega))
    replace hb := below_only hb hO (by omega) (by omega)
    clear hO rx
    clear rxm
    go_wp2_with fail
    refine (eqIntS_same A1 A0 m c1 c0 rs _ r1.reads r0.reads HM.out hm).mono ?_
    rintro e w10 ⟨rfl, hb10⟩
    have z10 := hb10.size
    replace ba := ba.grow hb10
    replace r0 := r0.grow hb10
    replace bx := bx.grow hb10
    replace r1 := r1.grow hb10
    replace hb := below_trans hb hb10
    clear hb10
    go_wp2_with fail
    refine (as_int HQ.out (markIntS_at _ _ _ m rs 1 _ r1 (by omega) (by omega) HM.out hm)).mono ?_
    rintro e w11 ⟨rfl, r1m, hO⟩
    have z11 := hO.size
    replace ba := ba.only hO (.inl (by omega))
    replace r0 := r0.move (hO.same (.inl (by omega)) (by omega))
    replace bx := bx.only hO (.inl (by omega))
    replace hb := below_only hb hO (by omega) (by omega)
    clear hO r1
    go_wp2_with fail
    refine (as_int HQ.out (heldIntS_any A1 c1 m 1 _ r1m.reads (by omega) (by omega) hm)).mono ?_
    rintro e _ ⟨rfl, rfl⟩
    obtain ⟨bac0, bac1, bac2, bac3, bac4, bac5⟩ := ba.six
    go_wp2_with fail
    clear bac0 bac1 bac2 bac3 bac4 bac5
    refine (toAgg_w N h lw mn mx A ts.length ca ts _ (HA.out _ hb) rfl hn2).mono ?_
    rintro e w12 ⟨g12, rfl, p1, hb12⟩
    have z12 := hb12.size
    replace ba := ba.grow hb12
    replace r0 := r0.grow hb12
    replace bx := bx.grow hb12
    replace r1m := r1m.grow hb12
    replace hb := below_trans hb hb12
    clear hb12
    go_wp2_with fail
    refine (HI.out _ _ p1.reads).mono ?_
    rintro e w13 ⟨A2, c2, rfl, r2, hb13⟩
    have z13 := hb13.size
    replace ba := ba.grow hb13
    replace r0 := r0.grow hb13
    replace bx := bx.grow hb13
    replace r1m := r1m.grow hb13
    replace p1 := p1.grow hb13
    replace hb := below_trans hb hb13
    clear hb13
    clear p1
    go_wp2_with fail
    refine (eqIntS_same A2 A0 m c2 c0 rs _ r2.reads r0.reads HM.out hm).mono ?_
    rintro e w14 ⟨rfl, hb14⟩
    have z14 := hb14.size
    replace ba := ba.grow hb14
    replace r0 := r0.grow hb14
    replace bx := bx.grow hb14
    replace r1m := r1m.grow hb14
    replace r2 := r2.grow hb14
    replace hb := below_trans hb hb14
    clear hb14
    go_wp2_with fail
    refine (as_int HQ.out (heldIntS_any A1 c1 m 1 _ r1m.reads (by omega) (by omega) hm)).mono ?_
    rintro e _ ⟨rfl, rfl⟩
    clear ba r0 bx r1m r2
    go_wp2
    go_ret
    exact ⟨rfl, hb⟩
  · have hle : lessF 1048576 ts.length = -1 := by simp [lessF]; omega
    have hb := Below.refl w.heap.size w
    go_enter Try.func8, Try.ntmps8
    have ba := Own.new w 46 (agc N h lw mn mx (.slice A ts.length ca))
    replace hb := below_trans hb (below_alloc w (.cells (agc N h lw mn mx (.slice A ts.length ca)).toArray 46))
    obtain ⟨bac0, bac1, bac2, bac3, bac4, bac5⟩ := ba.six
    go_wp2_with fail
    clear bac0 bac1 bac2 bac3 bac4 bac5
    refine (hle ▸ szAgg_any N h lw mn mx A ts.length ca 1048576 _ (by omega) (by omega) hn).mono ?_
    rintro e w2 ⟨rfl, hb2⟩
    have z2 := hb2.size
    rw [World.size_alloc] at z2
    replace ba := ba.grow hb2
    replace hb := below_trans hb hb2
    clear hb2
    go_wp2
    go_ret
    exact ⟨rfl, hb⟩
end Go.Proofs.Ytkaghdkehkjdoaa
