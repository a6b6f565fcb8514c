/-
  The law on AggOf: at every list of integers the program answers as the model in every field, writes into no argument, and its answer owns its memory. By genagg.py.
-/
import Derived.Test.YtkaghdkehkjdoaaAggS
import Derived.Test.YtkaghdkehkjdoaaLawRowW
namespace Go.Proofs.Ytkaghdkehkjdoaa
open Go.RowKit

/-- an aggregate whose Top holds so many numbers, in memory of its own -/
def AggAt (m : Nat) (N h lw mn mx : Int) (rs : List Int) (w : World) (e : Ending) (w' : World) : Prop :=
  ∃ A c, e = .returned (agv N h lw mn mx (.slice A m c)) ∧ RowAt w.heap.size w'.heap.size w' 3 1 (.slice A m c) m (iz rs) ∧ Below w.heap.size w w'
theorem agg_at {N z mn mx : Int} {rs : List Int} {w w' : World} {e : Ending} {m : Nat} (h : AggRes N z mn mx rs w e w') (hm : rs.length = m) : AggAt m N (hi z) (lo z) mn mx rs w e w' := by subst hm; exact h

set_option maxRecDepth 100000 in
set_option maxHeartbeats 8000000 in
theorem fnExactAggOf_walk (A : Option Addr) (ca : Nat) (ts : List Int) (w : World) (hA : Rd w A (iz ts)) (hn : ts.length ≤ 9223372036854775807) (hi64 : ∀ x ∈ ts, I64 x) :
    Calls Try.prog 5 #[.slice A ts.length ca] w fun e w' => e = .returned (.bool true) ∧ Below w.heap.size w w' := by
  have HA := Lib.hid (fun W (h : Below w.heap.size w W) => hA.below h)
  clear hA
  by_cases hl2 : ts.length ≤ 1048576
  · have hm0 := topOf_length (aggL ts)
    obtain ⟨m, HM⟩ : ∃ m, Hid ((topOf (aggL ts)).length = m) := ⟨_, Lib.hid rfl⟩
    have hm : m ≤ 1048576 := by have := HM.out; omega
    have HS := Lib.hid (fun g W (h : Rd W (some ⟨g, 0, none⟩) (iz ts)) => (specAggOf_any (some ⟨g, 0, none⟩) ts.length ts.length ts W h rfl hl2 (sfit_nn g _) hi64).mono fun _ _ h => agg_at h HM.out)
    have HI := Lib.hid (fun g W (h : Rd W (some ⟨g, 0, none⟩) (iz ts)) => (implAggOf_any (some ⟨g, 0, none⟩) ts.length ts.length ts W h rfl hl2 hi64).mono fun _ _ h => agg_at h HM.out)
    clear hm0 hi64
    generalize topOf (aggL ts) = rs at *
    generalize hi (aggL ts).sum = h at *
    generalize lo (aggL ts).sum = lw at *
    generalize mnOf (aggL ts) = mn at *
    generalize mxOf (aggL ts) = mx at *
    generalize ((aggL ts).length : Int) = N at *
    obtain ⟨q0, HQ0⟩ : ∃ q0 : Int, Hid (1 + (ts.length : Int) = q0) := ⟨_, Lib.hid rfl⟩
    have hp0 : ¬ q0 < 0 := by have := HQ0.out; omega
    obtain ⟨q1, HQ⟩ : ∃ q1 : Int, Hid (1 + (m : Int) = q1) := ⟨_, Lib.hid rfl⟩
    have hne2 : (q1 != q1) = false := by simp
    have hp2 : ¬ q1 < 0 := by have := HQ.out; omega
    have hb := Below.refl w.heap.size w
    go_enter Try.func5, Try.ntmps5
    go_wp2_with fail
    refine (toIntS_w A ts.length ca ts _ (HA.out _ hb) rfl hl2).mono ?_
    rintro e w2 ⟨g2, rfl, p1, hb2⟩
    have z2 := hb2.size
    replace hb := below_trans hb hb2
    clear hb2
    go_wp2_with fail
    refine (HS.out _ _ p1.reads).mono ?_
    rintro e w3 ⟨A0, c0, rfl, r0, hb3⟩
    have z3 := hb3.size
    replace p1 := p1.grow hb3
    replace hb := below_trans hb hb3
    clear hb3
    clear p1
    have b0 := Own.new w3 31 (agc N h lw mn mx (.slice A0 m c0))
    replace r0 := r0.grow (below_alloc w3 (.cells (agc N h lw mn mx (.slice A0 m c0)).toArray 31))
    replace hb := below_trans hb (below_alloc w3 (.cells (agc N h lw mn mx (.slice A0 m c0)).toArray 31))
    go_wp2_with fail
    refine (toIntS_w A ts.length ca ts _ (HA.out _ hb) rfl hl2).mono ?_
    rintro e w4 ⟨g4, rfl, rx, hb4⟩
    have z4 := hb4.size
    rw [World.size_alloc] at z4
    rw [World.size_alloc] at rx
    replace r0 := r0.grow hb4
    replace b0 := b0.grow hb4
    replace hb := below_trans hb hb4
    clear hb4
    go_wp2_with fail
    refine (HI.out _ _ rx.reads).mono ?_
    rintro e w5 ⟨A1, c1, rfl, r1, hb5⟩
    have z5 := hb5.size
    replace r0 := r0.grow hb5
    replace b0 := b0.grow hb5
    replace rx := rx.grow hb5
    replace hb := below_trans hb hb5
    clear hb5
    have b1 := Own.new w5 31 (agc N h lw mn mx (.slice A1 m c1))
    replace r0 := r0.grow (below_alloc w5 (.cells (agc N h lw mn mx (.slice A1 m c1)).toArray 31))
    replace b0 := b0.grow (below_alloc w5 (.cells (agc N h lw mn mx (.slice A1 m c1)).toArray 31))
    replace rx := rx.grow (below_alloc w5 (.cells (agc N h lw mn mx (.slice A1 m c1)).toArray 31))
    replace r1 := r1.grow (below_alloc w5 (.cells (agc N h lw mn mx (.slice A1 m c1)).toArray 31))
    replace hb := below_trans hb (below_alloc w5 (.cells (agc N h lw mn mx (.slice A1 m c1)).toArray 31))
    obtain ⟨b1c0, b1c1, b1c2, b1c3, b1c4, b1c5⟩ := b1.six
    obtain ⟨b0c0, b0c1, b0c2, b0c3, b0c4, b0c5⟩ := b0.six
    go_wp2_with fail
    clear b1c0 b1c1 b1c2 b1c3 b1c4 b1c5 b0c0 b0c1 b0c2 b0c3 b0c4 b0c5
    refine (eqAgg_same N h lw mn mx A1 A0 m c1 c0 rs _ r1.reads r0.reads HM.out hm).mono ?_
    rintro e w6 ⟨rfl, hb6⟩
    have z6 := hb6.size
    rw [World.size_alloc] at z6
    replace r0 := r0.grow hb6
    replace b0 := b0.grow hb6
    replace rx := rx.grow hb6
    replace r1 := r1.grow hb6
    replace b1 := b1.grow hb6
    replace hb := below_trans hb hb6
    clear hb6
    go_wp2_with fail
    refine (toIntS_w A ts.length ca ts _ (HA.out _ hb) rfl hl2).mono ?_
    rintro e w7 ⟨g7, rfl, r6, hb7⟩
    have z7 := hb7.size
    replace r0 := r0.grow hb7
    replace b0 := b0.grow hb7
    replace rx := rx.grow hb7
    replace r1 := r1.grow hb7
    replace b1 := b1.grow hb7
    replace hb := below_trans hb hb7
    clear hb7
    go_wp2_with fail
    refine (eqIntS_same _ _ ts.length _ _ ts _ rx.reads r6.reads rfl hl2).mono ?_
    rintro e w8 ⟨rfl, hb8⟩
    have z8 := hb8.size
    replace r0 := r0.grow hb8
    replace b0 := b0.grow hb8
    replace rx := rx.grow hb8
    replace r1 := r1.grow hb8
    replace b1 := b1.grow hb8
    replace r6 := r6.grow hb8
    replace hb := below_trans hb hb8
    clear hb8
    clear r6
    go_wp2_with fail
    refine (as_int HQ0.out (markIntS_at _ _ _ ts.length ts 1 _ rx (by omega) (by omega) rfl hl2)).mono ?_
    rintro e w9 ⟨rfl, rxm, hO⟩
    have z9 := hO.size
    replace r0 := r0.move (hO.same (.inl (by omega)) (by omega))
    replace b0 := b0.only hO (.inl (by omega))
    replace r1 := r1.move (hO.same (.inr (by omega)) (by omega))
    replace b1 := b1.only hO (.inr (by omega))
    replace hb := below_only hb hO (by omega) (by omega)
    clear hO rx
    clear rxm
    obtain ⟨b1c0, b1c1, b1c2, b1c3, b1c4, b1c5⟩ := b1.six
    obtain ⟨b0c0, b0c1, b0c2, b0c3, b0c4, b0c5⟩ := b0.six
    go_wp2_with fail
    clear b1c0 b1c1 b1c2 b1c3 b1c4 b1c5 b0c0 b0c1 b0c2 b0c3 b0c4 b0c5
    refine (eqAgg_same N h lw mn mx A1 A0 m c1 c0 rs _ r1.reads r0.reads HM.out hm).mono ?_
    rintro e w10 ⟨rfl, hb10⟩
    have z10 := hb10.size
    replace r0 := r0.grow hb10
    replace b0 := b0.grow hb10
    replace r1 := r1.grow hb10
    replace b1 := b1.grow hb10
    replace hb := below_trans hb hb10
    clear hb10
    obtain ⟨b1c0, b1c1, b1c2, b1c3, b1c4, b1c5⟩ := b1.six
    go_wp2_with fail
    clear b1c0 b1c1 b1c2 b1c3 b1c4 b1c5
    refine (as_int HQ.out (markAgg_at N h lw mn mx A1 c1 _ _ m rs 1 _ r1 (by omega) (by omega) HM.out hm)).mono ?_
    rintro e w11 ⟨rfl, r1m, hO⟩
    have z11 := hO.size
    replace r0 := r0.move (hO.same (.inl (by omega)) (by omega))
    replace b0 := b0.only hO (.inl (by omega))
    replace b1 := b1.only hO (.inr (by omega))
    replace hb := below_only hb hO (by omega) (by omega)
    clear hO r1
    obtain ⟨b1c0, b1c1, b1c2, b1c3, b1c4, b1c5⟩ := b1.six
    go_wp2_with fail
    clear b1c0 b1c1 b1c2 b1c3 b1c4 b1c5
    refine (as_int HQ.out (heldAgg_any N h lw mn mx A1 c1 m 1 _ r1m.reads (by omega) (by omega) hm)).mono ?_
    rintro e w12 ⟨rfl, hb12⟩
    have z12 := hb12.size
    replace r0 := r0.grow hb12
    replace b0 := b0.grow hb12
    replace b1 := b1.grow hb12
    replace r1m := r1m.grow hb12
    replace hb := below_trans hb hb12
    clear hb12
    go_wp2_with fail
    refine (toIntS_w A ts.length ca ts _ (HA.out _ hb) rfl hl2).mono ?_
    rintro e w13 ⟨g12, rfl, p1, hb13⟩
    have z13 := hb13.size
    replace r0 := r0.grow hb13
    replace b0 := b0.grow hb13
    replace b1 := b1.grow hb13
    replace r1m := r1m.grow hb13
    replace hb := below_trans hb hb13
    clear hb13
    go_wp2_with fail
    refine (HI.out _ _ p1.reads).mono ?_
    rintro e w14 ⟨A2, c2, rfl, r2, hb14⟩
    have z14 := hb14.size
    replace r0 := r0.grow hb14
    replace b0 := b0.grow hb14
    replace b1 := b1.grow hb14
    replace r1m := r1m.grow hb14
    replace p1 := p1.grow hb14
    replace hb := below_trans hb hb14
    clear hb14
    clear p1
    have b2 := Own.new w14 31 (agc N h lw mn mx (.slice A2 m c2))
    replace r0 := r0.grow (below_alloc w14 (.cells (agc N h lw mn mx (.slice A2 m c2)).toArray 31))
    replace b0 := b0.grow (below_alloc w14 (.cells (agc N h lw mn mx (.slice A2 m c2)).toArray 31))
    replace b1 := b1.grow (below_alloc w14 (.cells (agc N h lw mn mx (.slice A2 m c2)).toArray 31))
    replace r1m := r1m.grow (below_alloc w14 (.cells (agc N h lw mn mx (.slice A2 m c2)).toArray 31))
    replace r2 := r2.grow (below_alloc w14 (.cells (agc N h lw mn mx (.slice A2 m c2)).toArray 31))
    replace hb := below_trans hb (below_alloc w14 (.cells (agc N h lw mn mx (.slice A2 m c2)).toArray 31))
    obtain ⟨b2c0, b2c1, b2c2, b2c3, b2c4, b2c5⟩ := b2.six
    obtain ⟨b0c0, b0c1, b0c2, b0c3, b0c4, b0c5⟩ := b0.six
    go_wp2_with fail
    clear b2c0 b2c1 b2c2 b2c3 b2c4 b2c5 b0c0 b0c1 b0c2 b0c3 b0c4 b0c5
    refine (eqAgg_same N h lw mn mx A2 A0 m c2 c0 rs _ r2.reads r0.reads HM.out hm).mono ?_
    rintro e w15 ⟨rfl, hb15⟩
    have z15 := hb15.size
    rw [World.size_alloc] at z15
    replace r0 := r0.grow hb15
    replace b0 := b0.grow hb15
    replace b1 := b1.grow hb15
    replace r1m := r1m.grow hb15
    replace r2 := r2.grow hb15
    replace b2 := b2.grow hb15
    replace hb := below_trans hb hb15
    clear hb15
    obtain ⟨b1c0, b1c1, b1c2, b1c3, b1c4, b1c5⟩ := b1.six
    go_wp2_with fail
    clear b1c0 b1c1 b1c2 b1c3 b1c4 b1c5
    refine (as_int HQ.out (heldAgg_any N h lw mn mx A1 c1 m 1 _ r1m.reads (by omega) (by omega) hm)).mono ?_
    rintro e w16 ⟨rfl, hb16⟩
    have z16 := hb16.size
    replace r0 := r0.grow hb16
    replace b0 := b0.grow hb16
    replace b1 := b1.grow hb16
    replace r1m := r1m.grow hb16
    replace r2 := r2.grow hb16
    replace b2 := b2.grow hb16
    replace hb := below_trans hb hb16
    clear hb16
    clear r0 b0 b1 r1m r2 b2
    go_wp2
    go_ret
    exact ⟨rfl, hb⟩
  · have hl' : 1048576 < (ts.length : Int) := by omega
    go_enter Try.func5, Try.ntmps5
    go_wp2
    go_ret
    exact ⟨rfl, Below.refl _ _⟩
end Go.Proofs.Ytkaghdkehkjdoaa
