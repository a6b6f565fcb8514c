/-
  The law: every kind of aggregate returns what its name says. By genagg.py.
-/
import Derived.Test.YtkaghdkehkjdoaaAggDoneKit
import Derived.Test.YtkaghdkehkjdoaaAggS
import Derived.Test.YtkaghdkehkjdoaaDrawNum
namespace Go.Proofs.Ytkaghdkehkjdoaa
open Go.RowKit

theorem specOf_list (ts : List Int) (A : Option Addr) (n c m : Nat) (w : World) (hA : Rd w A (iz ts)) (hz : ts.length = n) (hn : n ≤ 1000000) (hf : SFit A n c) (h64 : ∀ x ∈ ts, I64 x) (hm : (topOf ts).length = m) :
    Calls Try.prog 17 #[.slice A n c] w (AggIn m n (hi ts.sum) (lo ts.sum) (mnOf ts) (mxOf ts) (topOf ts) w) := by
  have h := specAggOf_any A n c ts w hA hz (by omega) hf h64
  rw [agg_small (by omega), hz] at h
  exact h.mono fun _ _ h => agg_as h hm
theorem rd_first {w : World} {A : Option Addr} {l : List Int} (h : Rd w A (iz l)) (h0 : 0 < l.length) :
    ∃ b off, A = some ⟨b, off, none⟩ ∧ ∀ W, Below w.heap.size w W → W.cell? ⟨b, off, none⟩ = some (.int .i64 (iat l 0)) := by
  obtain ⟨ad, rfl, h1⟩ := rd_ints h h0
  obtain ⟨b, off, rfl⟩ := plain_of (h1 w (Below.refl _ _) 0 h0)
  refine ⟨b, off, rfl, fun W hW => ?_⟩
  have := h1 W hW 0 h0
  rwa [plain_add', Nat.add_zero] at this
theorem same_as {A B : Option Addr} {n ca cb : Nat} {zs : List Int} {w : World} (hA : Rd w A (iz zs)) (hB : Rd w B (iz zs)) (hl : zs.length = n) (hn : n ≤ 1048576) :
    Calls Try.prog 21 #[.slice A n ca, .slice B n cb] w fun e w' => e = .returned (.bool true) ∧ Below w.heap.size w w' := by
  subst hl
  exact as_bool (decide_eq_true rfl) (same_any A B ca cb zs zs w hA hB (by omega) (by omega))

set_option maxRecDepth 100000 in
set_option maxHeartbeats 8000000 in
theorem fnAggDone_walk (A : Option Addr) (c n : Nat) (w : World) (hA : Byt w A n w.heap.size) (hn : n ≤ 9223372036854775807) :
    Calls Try.prog 4 #[.slice A n c] w fun e w' => e = .returned (.bool true) ∧ Below w.heap.size w w' := by
  by_cases hbig : 1048576 < n
  · go_enter Try.func4, Try.ntmps4
    go_wp2_with fail
    refine (bigN_any A n c true _ (by simpa using hbig) hn).mono ?_
    rintro e w' ⟨rfl, rfl⟩
    go_wp2
    go_ret
    exact ⟨rfl, Below.refl _ _⟩
  · have hb := Below.refl w.heap.size w
    go_enter Try.func4, Try.ntmps4
    go_wp2_with fail
    refine (bigN_any A n c false _ (by simpa using hbig) hn).mono ?_
    rintro e w' ⟨rfl, rfl⟩
    go_wp2_with fail
    refine (numbers_any A n c _ hA (by omega)).mono ?_
    rintro e w2 ⟨ts, A1, c1, rfl, hla, hia, ra0, hb2⟩
    replace hb := below_trans hb hb2
    have hz2 := hb2.size
    have HL1 : Hid (ts.length + 1 ≤ 2097152) := Lib.hid (by omega)
    have HIA := Lib.hid hia
    clear hA hb2 hia hbig hn
    go_wp2_with (at_builtin; refine appInt.own rfl _ (.tmp 24) rfl w.heap.size (.slice A1 ts.length c1) ts.length (iz ts) rfl (ra0.alloc _) w2.heap.size 1 1 [.int .i64 1] rfl (Own.new w2 _ _) rfl (iz_one [1]) HL1 (by simp; omega) ?_)
    intro A2 c2 w3 hown hgrow hb3
    have rl0 : w3.ownsRow w.heap.size 3 1 (.slice A2 (ts.length + 1) c2) (ts.length + 1) (iz (ts ++ [1])) := owns_as hown (iz_append ts [1]).symm
    replace hb := (below_trans hb (below_alloc w2 (.cells #[.int .i64 1] 3))).trans hb3
    have h64 : ∀ x ∈ ts ++ [1], I64 x := i64_snoc HIA.out (by unfold I64; omega)
    have hll : (ts ++ [1]).length = ts.length + 1 := by simp
    obtain ⟨nl, hnl⟩ : ∃ nl, ts.length + 1 = nl := ⟨_, rfl⟩
    have hn1 : 1 ≤ nl ∧ nl ≤ 10 := by omega
    rw [hnl] at hll rl0 ⊢
    obtain ⟨l, hl⟩ : ∃ l, ts ++ [1] = l := ⟨_, rfl⟩
    rw [hl] at hll rl0 h64
    have h0 : l ≠ [] := by rintro rfl; simp at hll; omega
    have hlm : l.length ≤ 1000000 := by omega
    clear hown hgrow hb3 ra0 HL1 HIA hla hz2 hl hnl
    have fl := owns_fit rl0
    have rl := RowAt.of rl0
    clear rl0
    obtain ⟨p, hp⟩ : ∃ p, (topOf l).length = p := ⟨_, rfl⟩
    obtain ⟨t1, t2, t3⟩ := top_two h0
    obtain ⟨p2, hp2⟩ : ∃ p2, ((topOf l).take 2).length = p2 := ⟨_, rfl⟩
    have hp2n : min 2 (nl : Int) = (p2 : Int) := by rw [← hp2, t1, hll]; omega
    obtain ⟨L6, b6, ln6, D6, e6, s6, m6⟩ := is_sum (me := l.sum / (l.length : Int)) (list_doneOk 2 0 (by unfold kindOk; omega) h0 hlm)
    have HX := Lib.hid (fun W (h : Rd W A2 (iz l)) => aggOf_list l A2 nl c2 p W h hll (by omega) h64 hp)
    have HS := Lib.hid (fun W (h : Rd W A2 (iz l)) => specOf_list l A2 nl c2 p W h hll (by omega) fl h64 hp)
    have H1 := Lib.hid (fun X c W (h : Rd W X (iz (topOf l))) (hf : SFit X p c) => done_call l h0 hlm h64 1 0 _ 1 false (is_one (list_doneOk 1 0 (by unfold kindOk; omega) h0 hlm)) rfl p hp X c W h hf)
    have H3 := Lib.hid (fun X c W (h : Rd W X (iz (topOf l))) (hf : SFit X p c) => done_call l h0 hlm h64 3 0 _ 1 false (is_least (list_doneOk 3 0 (by unfold kindOk; omega) h0 hlm)) rfl p hp X c W h hf)
    have H4 := Lib.hid (fun X c W (h : Rd W X (iz (topOf l))) (hf : SFit X p c) => done_call l h0 hlm h64 4 0 _ 1 false (is_most (list_doneOk 4 0 (by unfold kindOk; omega) h0 hlm)) rfl p hp X c W h hf)
    have H5 := Lib.hid (fun X c W (h : Rd W X (iz (topOf l))) (hf : SFit X p c) => done_call l h0 hlm h64 5 0 _ 1 false (is_mean (list_doneOk 5 0 (by unfold kindOk; omega) h0 hlm)) rfl p hp X c W h hf)
    have H6 := Lib.hid (fun X c W (h : Rd W X (iz (topOf l))) (hf : SFit X p c) => done_call l h0 hlm h64 6 2 _ p2 false (is_top (list_doneOk 6 2 (by unfold kindOk; omega) h0 hlm)) hp2 p hp X c W h hf)
    have H2 := Lib.hid (fun X c W (h : Rd W X (iz (topOf l))) (hf : SFit X p c) => done_call l h0 hlm h64 2 0 L6 ln6 b6 D6 e6 p hp X c W h hf)
    have H2s := Lib.hid (fun X c W (h : Rd W X (iz (topOf l))) (hf : SFit X p c) => done_spec l h0 hlm h64 2 0 L6 ln6 b6 D6 e6 p hp X c W h hf)
    have HB2 := Lib.hid (show ∀ i, i < nl → mnOf l ≤ iat l i ∧ iat l i ≤ mxOf l from fun i hi => ⟨mnOf_le (iat_mem (by omega)), le_mxOf l _ (iat_mem (by omega))⟩)
    have HME := Lib.hid (mean_in h0)
    have HT := Lib.hid (And.intro t2 t3)
    have HN := Lib.hid hll
    have HL6 := Lib.hid e6
    have HS6 := Lib.hid s6
    have hb6 : (b6 != b6) = false := by simp
    have hNN : ((l.length : Int)) = (nl : Int) := by rw [hll]
    rw [hNN] at H1 H2 H3 H4 H5 H6 H2s HME
    clear D6 e6 s6 hp t1 t2 t3 hp2 h64 h0 hlm fl hll hNN
    generalize hi l.sum = h at *
    generalize lo l.sum = lw at *
    generalize l.sum / (nl : Int) = me at *
    generalize mnOf l = mn at *
    generalize mxOf l = mx at *
    generalize topOf l = top at *
    obtain ⟨N, HNN⟩ : ∃ N : Int, Hid (N = (nl : Int)) := ⟨_, Lib.hid rfl⟩
    rw [← HNN.out] at HX HS H1 H2 H3 H4 H5 H6 H2s
    go_wp2_with fail
    refine (HX.out _ rl.reads).mono ?_
    rintro e w4 ⟨A4, c4, rfl, rt, hb4⟩
    have z4 := hb4.size
    replace rl := rl.grow hb4
    replace hb := below_trans hb hb4
    clear hb4
    have ft := Lib.hid (owns_fit rt.1)
    have ba := Own.new w4 31 (agc N h lw mn mx (.slice A4 p c4))
    replace rl := rl.grow (below_alloc w4 (.cells (agc N h lw mn mx (.slice A4 p c4)).toArray 31))
    replace rt := rt.grow (below_alloc w4 (.cells (agc N h lw mn mx (.slice A4 p c4)).toArray 31))
    replace hb := below_trans hb (below_alloc w4 (.cells (agc N h lw mn mx (.slice A4 p c4)).toArray 31))
    obtain ⟨bac0, bac1, bac2, bac3, bac4, bac5⟩ := ba.six
    go_wp2_with fail
    clear bac0 bac1 bac2 bac3 bac4 bac5
    refine (H1.out _ _ _ rt.reads ft.out).mono ?_
    rintro e w5 ⟨A5, c5, rfl, r1, hb5⟩
    have z5 := hb5.size
    rw [World.size_alloc] at z5
    rw [World.size_alloc] at r1
    replace rl := rl.grow hb5
    replace rt := rt.grow hb5
    replace ba := ba.grow hb5
    replace hb := below_trans hb hb5
    clear hb5
    obtain ⟨bac0, bac1, bac2, bac3, bac4, bac5⟩ := ba.six
    go_wp2_with fail
    clear bac0 bac1 bac2 bac3 bac4 bac5
    refine (H3.out _ _ _ rt.reads ft.out).mono ?_
    rintro e w6 ⟨A6, c6, rfl, r3, hb6⟩
    have z6 := hb6.size
    replace rl := rl.grow hb6
    replace rt := rt.grow hb6
    replace ba := ba.grow hb6
    replace r1 := r1.grow hb6
    replace hb := below_trans hb hb6
    clear hb6
    obtain ⟨bac0, bac1, bac2, bac3, bac4, bac5⟩ := ba.six
    go_wp2_with fail
    clear bac0 bac1 bac2 bac3 bac4 bac5
    refine (H4.out _ _ _ rt.reads ft.out).mono ?_
    rintro e w7 ⟨A7, c7, rfl, r4, hb7⟩
    have z7 := hb7.size
    replace rl := rl.grow hb7
    replace rt := rt.grow hb7
    replace ba := ba.grow hb7
    replace r1 := r1.grow hb7
    replace r3 := r3.grow hb7
    replace hb := below_trans hb hb7
    clear hb7
    obtain ⟨bac0, bac1, bac2, bac3, bac4, bac5⟩ := ba.six
    go_wp2_with fail
    clear bac0 bac1 bac2 bac3 bac4 bac5
    refine (H6.out _ _ _ rt.reads ft.out).mono ?_
    rintro e w8 ⟨A8, c8, rfl, r6, hb8⟩
    have z8 := hb8.size
    replace rl := rl.grow hb8
    replace rt := rt.grow hb8
    replace ba := ba.grow hb8
    replace r1 := r1.grow hb8
    replace r3 := r3.grow hb8
    replace r4 := r4.grow hb8
    replace hb := below_trans hb hb8
    clear hb8
    obtain ⟨bac0, bac1, bac2, bac3, bac4, bac5⟩ := ba.six
    go_wp2_with fail
    clear bac0 bac1 bac2 bac3 bac4 bac5
    refine (H5.out _ _ _ rt.reads ft.out).mono ?_
    rintro e w9 ⟨A9, c9, rfl, r5, hb9⟩
    have z9 := hb9.size
    replace rl := rl.grow hb9
    replace rt := rt.grow hb9
    replace ba := ba.grow hb9
    replace r1 := r1.grow hb9
    replace r3 := r3.grow hb9
    replace r4 := r4.grow hb9
    replace r6 := r6.grow hb9
    replace hb := below_trans hb hb9
    clear hb9
    obtain ⟨bac0, bac1, bac2, bac3, bac4, bac5⟩ := ba.six
    go_wp2_with fail
    clear bac0 bac1 bac2 bac3 bac4 bac5
    refine (H2.out _ _ _ rt.reads ft.out).mono ?_
    rintro e w10 ⟨A10, c10, rfl, r2, hb10⟩
    have z10 := hb10.size
    replace rl := rl.grow hb10
    replace rt := rt.grow hb10
    replace ba := ba.grow hb10
    replace r1 := r1.grow hb10
    replace r3 := r3.grow hb10
    replace r4 := r4.grow hb10
    replace r6 := r6.grow hb10
    replace r5 := r5.grow hb10
    replace hb := below_trans hb hb10
    clear hb10
    clear ba
    clear rt
    clear ft
    go_wp2_with fail
    refine (HS.out _ rl.reads).mono ?_
    rintro e w11 ⟨A11, c11, rfl, ru, hb11⟩
    have z11 := hb11.size
    replace rl := rl.grow hb11
    replace r1 := r1.grow hb11
    replace r3 := r3.grow hb11
    replace r4 := r4.grow hb11
    replace r6 := r6.grow hb11
    replace r5 := r5.grow hb11
    replace r2 := r2.grow hb11
    replace hb := below_trans hb hb11
    clear hb11
    have fu := Lib.hid (owns_fit ru.1)
    go_wp2_with fail
    refine (H2s.out _ _ _ ru.reads fu.out).mono ?_
    rintro e w12 ⟨A12, c12, rfl, rv, hb12⟩
    have z12 := hb12.size
    replace rl := rl.grow hb12
    replace r1 := r1.grow hb12
    replace r3 := r3.grow hb12
    replace r4 := r4.grow hb12
    replace r6 := r6.grow hb12
    replace r5 := r5.grow hb12
    replace r2 := r2.grow hb12
    replace ru := ru.grow hb12
    replace hb := below_trans hb hb12
    clear hb12
    clear ru
    clear fu
    go_wp2_with fail
    refine (same_as (A := A10) (B := A12) (ca := c10) (cb := c12) r2.reads rv.reads HL6.out (by omega)).mono ?_
    rintro e w13 ⟨rfl, hb13⟩
    have z13 := hb13.size
    replace rl := rl.grow hb13
    replace r1 := r1.grow hb13
    replace r3 := r3.grow hb13
    replace r4 := r4.grow hb13
    replace r6 := r6.grow hb13
    replace r5 := r5.grow hb13
    replace r2 := r2.grow hb13
    replace rv := rv.grow hb13
    replace hb := below_trans hb hb13
    clear hb13
    clear rv
    clear r2
    obtain ⟨g1, o1, rfl, k1⟩ := rd_first r1.reads (by simp)
    obtain ⟨g3, o3, rfl, k3⟩ := rd_first r3.reads (by simp)
    obtain ⟨g4, o4, rfl, k4⟩ := rd_first r4.reads (by simp)
    obtain ⟨g5, o5, rfl, k5⟩ := rd_first r5.reads (by simp)
    obtain ⟨g6, o6, rfl, k6⟩ := rd_first r6.reads HT.out.1
    obtain ⟨al, rfl, kl⟩ := rd_ints rl.reads (by rw [HN.out]; omega)
    clear rl
    clear r1
    clear r3
    clear r4
    clear r6
    clear r5
    have K1 := Lib.hid k1
    have K3 := Lib.hid k3
    have K4 := Lib.hid k4
    have K5 := Lib.hid k5
    have K6 := Lib.hid (fun W hW => (k6 W hW).trans (by rw [HT.out.2]))
    have KL := Lib.hid (fun W hW i hi => kl W hW i (by rw [HN.out]; exact hi))
    clear k1 k3 k4 k5 k6 kl HX H1 H3 H4 H5 H6 H2 H2s HS
    go_wp2
    go_loopw [19] (fun i wr => ∃ k : Nat, k ≤ nl ∧ i = .int .i64 (k : Int) ∧ Below w13.heap.size w13 wr) (fun i _ => nl - (intOf i).toNat)
    case atStart => exact ⟨0, Nat.zero_le _, rfl, Below.refl _ _⟩
    case round =>
      obtain ⟨k, hk, rfl, hbel⟩ := hrel
      by_cases hlt : k < nl
      · have f3 : ∀ u : Bel wr, u.w.cell? ⟨g3, o3, none⟩ = some (.int .i64 mn) := fun u => K3.out _ (below_trans hbel u.ok)
        have f4 : ∀ u : Bel wr, u.w.cell? ⟨g4, o4, none⟩ = some (.int .i64 mx) := fun u => K4.out _ (below_trans hbel u.ok)
        have fl : ∀ u : Bel wr, u.w.cell? (al.add k) = some (.int .i64 (iat l k)) := fun u => KL.out _ (below_trans hbel u.ok) k hlt
        obtain ⟨x, hx⟩ : ∃ x, iat l k = x := ⟨_, rfl⟩
        rw [hx] at fl
        have hlo : decide (x < mn) = false := by have := (HB2.out k hlt).1; rw [hx] at this; simp; omega
        have hhi : decide (mx < x) = false := by have := (HB2.out k hlt).2; rw [hx] at this; simp; omega
        clear hx
        go_wp2
        refine wp_region_bel (by kernel_rfl) (by kernel_rfl) ?_
        repeat (go_big_quiet_step (fail))
        refine wpQuiet_nil ?_
        rintro _ ⟨u, rfl⟩
        go_wp2
        go_roundw
        case rel => exact ⟨k + 1, by omega, by go_num, below_trans hbel u.ok⟩
        case measure => simp [intOf]; omega
      · obtain rfl : k = nl := by omega
        have f1 : ∀ u : Bel wr, u.w.cell? ⟨g1, o1, none⟩ = some (.int .i64 N) := fun u => K1.out _ (below_trans hbel u.ok)
        have f3 : ∀ u : Bel wr, u.w.cell? ⟨g3, o3, none⟩ = some (.int .i64 mn) := fun u => K3.out _ (below_trans hbel u.ok)
        have f4 : ∀ u : Bel wr, u.w.cell? ⟨g4, o4, none⟩ = some (.int .i64 mx) := fun u => K4.out _ (below_trans hbel u.ok)
        have f5 : ∀ u : Bel wr, u.w.cell? ⟨g5, o5, none⟩ = some (.int .i64 me) := fun u => K5.out _ (below_trans hbel u.ok)
        have f6 : ∀ u : Bel wr, u.w.cell? ⟨g6, o6, none⟩ = some (.int .i64 mx) := fun u => K6.out _ (below_trans hbel u.ok)
        have q1 : decide (mn ≤ me) = true := by simpa using HME.out.1
        have q2 : decide (me ≤ mx) = true := by simpa using HME.out.2
        have q3 : (N == (k : Int)) = true := by rw [HNN.out]; simp
        have q4 : (b6 == b6) = true := by simp
        have q5 := HS6.out
        clear HB2
        go_wp2
        refine wp_region_bel (by kernel_rfl) (by kernel_rfl) ?_
        repeat (go_big_quiet_step (fail))
        refine wpQuiet_nil ?_
        rintro _ ⟨u, rfl⟩
        have hbe := below_trans (below_trans hb hbel) u.ok
        go_wp2
        go_ret
        exact ⟨rfl, hbe⟩
end Go.Proofs.Ytkaghdkehkjdoaa
