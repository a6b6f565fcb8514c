/-
  The law: joining the aggregates of two lists yields the aggregate of their concatenation, in either order. By genagg.py.
-/
import Derived.Test.YtkaghdkehkjdoaaLawAggKit
import Derived.Test.YtkaghdkehkjdoaaAggS
import Derived.Test.YtkaghdkehkjdoaaDrawNum
namespace Go.Proofs.Ytkaghdkehkjdoaa
open Go.RowKit

theorem specOf_list (ts : List Int) (A : Option Addr) (n c m : Nat) (w : World) (hA : Rd w A (iz ts)) (hz : ts.length = n) (hn : n ≤ 1000000) (hf : SFit A n c) (h64 : ∀ x ∈ ts, I64 x) (hm : (topOf ts).length = m) :
    Calls Try.prog 17 #[.slice A n c] w (AggIn m n (hi ts.sum) (lo ts.sum) (mnOf ts) (mxOf ts) (topOf ts) w) := by
  have h := specAggOf_any A n c ts w hA hz (by omega) hf h64
  rw [agg_small (by omega), hz] at h
  exact h.mono fun _ _ h => agg_as h hm

set_option maxRecDepth 100000 in
set_option maxHeartbeats 8000000 in
theorem fnAggJoin_walk (A : Option Addr) (c n : Nat) (w : World) (hA : Byt w A n w.heap.size) (hn : n ≤ 9223372036854775807) (hc : n ≤ c) :
    Calls Try.prog 3 #[.slice A n c] w fun e w' => e = .returned (.bool true) ∧ Below w.heap.size w w' := by
  by_cases hbig : 1048576 < n
  · go_enter Try.func3, Try.ntmps3
    go_wp2_with fail
    refine (bigN_any A n c true _ (by simpa using hbig) hn).mono ?_
    rintro e w' ⟨rfl, rfl⟩
    go_wp2
    go_ret
    exact ⟨rfl, Below.refl _ _⟩
  · have hb := Below.refl w.heap.size w
    go_enter Try.func3, Try.ntmps3
    go_wp2_with fail
    refine (bigN_any A n c false _ (by simpa using hbig) hn).mono ?_
    rintro e w' ⟨rfl, rfl⟩
    go_wp2_with fail
    refine (numbers_any A n c _ hA (by omega)).mono ?_
    rintro e w2 ⟨a, A1, c1, rfl, hla, hia, ra0, hb2⟩
    have fa := owns_fit ra0
    have ra := RowAt.of ra0
    have hz2 := hb2.size
    replace hb := below_trans hb hb2
    go_wp2_with fail
    refine (restN_any A n c _ (byt_kept hA hb) (by omega) hc).mono ?_
    rintro e _ ⟨A', c', rfl, rfl, hbyt⟩
    go_wp2_with fail
    refine (numbers_any A' (n - n / 2) c' _ hbyt (by omega)).mono ?_
    rintro e w3 ⟨b, B1, d1, rfl, hlb, hib, rb0, hb3⟩
    have fb := owns_fit rb0
    have rb := RowAt.of rb0
    replace ra := ra.grow hb3
    replace hb := below_trans hb hb3
    clear ra0 rb0 hb2 hb3 hbyt hz2 hA hc hbig hn
    have hsum : a.length + b.length ≤ 1000000 := by omega
    have hll : (a ++ b).length = a.length + b.length := List.length_append
    have hil : ∀ x ∈ a ++ b, I64 x := fun x hx => (List.mem_append.1 hx).elim (hia x) (hib x)
    obtain ⟨p, hp⟩ : ∃ p, (topOf a).length = p := ⟨_, rfl⟩
    obtain ⟨q, hq⟩ : ∃ q, (topOf b).length = q := ⟨_, rfl⟩
    obtain ⟨m, hm⟩ : ∃ m, (topOf (a ++ b)).length = m := ⟨_, rfl⟩
    have hm4 : m ≤ 1048576 := by rw [← hm, topOf_length]; omega
    have HXa := Lib.hid (fun W (h : Rd W A1 (iz a)) => aggOf_list a A1 a.length c1 p W h rfl (by omega) hia hp)
    have HXb := Lib.hid (fun W (h : Rd W B1 (iz b)) => aggOf_list b B1 b.length d1 q W h rfl (by omega) hib hq)
    have HJ := Lib.hid (fun X c Y d W (h : Rd W X (iz (topOf a))) (h' : Rd W Y (iz (topOf b))) => join_as a b X Y p c q d m W h h' hp hq hia hib hsum (a ++ b) (join_list a b X Y p c q d hsum).2 (join_list a b X Y p c q d hsum).1 hm)
    have HJ2 := Lib.hid (fun X c Y d W (h : Rd W X (iz (topOf b))) (h' : Rd W Y (iz (topOf a))) => join_as b a X Y q c p d m W h h' hq hp hib hia (by omega) (a ++ b) (join_turn a b X Y q c p d hsum).2 (join_turn a b X Y q c p d hsum).1 hm)
    have HO := Lib.hid (fun X c W (h : Rd W X (iz (topOf (a ++ b)))) => as_bool (tf_yes (aggOk_list (a ++ b) (by omega))).symm (implAggOk_any (a ++ b).length (a ++ b).sum (mnOf (a ++ b)) (mxOf (a ++ b)) _ _ X m c (topOf (a ++ b)) W h hm hm4 (topOf_i64 hil) (mnOf_i64 hil) (sum_wr hil (by omega)) rfl rfl))
    have HI := Lib.hid (fun X c W (h : Rd W X (iz (a ++ b))) => aggOf_list (a ++ b) X (a.length + b.length) c m W h hll (by omega) hil hm)
    have HS := Lib.hid (fun X c W (h : Rd W X (iz (a ++ b))) (hf : SFit X (a.length + b.length) c) => specOf_list (a ++ b) X (a.length + b.length) c m W h hll (by omega) hf hil hm)
    have hsz : ((a ++ b).length : Int) = ((a.length + b.length : Nat) : Int) := by rw [hll]
    rw [hsz] at HJ HJ2 HO
    have HLA := Lib.hid (show (iz a).length = a.length * 1 by rw [iz_length, Nat.mul_one])
    have HLB := Lib.hid (show (iz b).length = b.length * 1 by rw [iz_length, Nat.mul_one])
    have HN1 : Hid (0 + a.length ≤ 2097152) := Lib.hid (by omega)
    have HN2 : Hid (a.length + b.length ≤ 2097152) := Lib.hid (by omega)
    have HFA := Lib.hid fa
    have HFB := Lib.hid fb
    have HM := Lib.hid hm
    clear hil hia hib hp hq hm fa fb hsum hll hsz
    generalize hi (a ++ b).sum = h at *
    generalize lo (a ++ b).sum = lw at *
    generalize mnOf (a ++ b) = mn at *
    generalize mxOf (a ++ b) = mx at *
    generalize topOf (a ++ b) = rs at *
    generalize ((a.length + b.length : Nat) : Int) = N at *
    generalize topOf a = ta at *
    generalize topOf b = tb at *
    generalize hi a.sum = ha at *
    generalize lo a.sum = la at *
    generalize mnOf a = mna at *
    generalize mxOf a = mxa at *
    generalize hi b.sum = hc at *
    generalize lo b.sum = lc at *
    generalize mnOf b = mnb at *
    generalize mxOf b = mxb at *
    have HIZ := Lib.hid (iz_append a b)
    generalize a.length = na at *
    generalize b.length = nb at *
    obtain ⟨Na, hNa⟩ : ∃ Na : Int, (na : Int) = Na := ⟨_, rfl⟩
    obtain ⟨Nb, hNb⟩ : ∃ Nb : Int, (nb : Int) = Nb := ⟨_, rfl⟩
    rw [hNa] at HXa HJ HJ2
    rw [hNb] at HXb HJ HJ2
    clear hNa hNb
    go_wp2_with fail
    refine (HXa.out _ ra.reads).mono ?_
    rintro e w4 ⟨A3, c3, rfl, rx, hb4⟩
    have z4 := hb4.size
    replace ra := ra.grow hb4
    replace rb := rb.grow hb4
    replace hb := below_trans hb hb4
    clear hb4
    have bx := Own.new w4 31 (agc Na ha la mna mxa (.slice A3 p c3))
    replace ra := ra.grow (below_alloc w4 (.cells (agc Na ha la mna mxa (.slice A3 p c3)).toArray 31))
    replace rb := rb.grow (below_alloc w4 (.cells (agc Na ha la mna mxa (.slice A3 p c3)).toArray 31))
    replace rx := rx.grow (below_alloc w4 (.cells (agc Na ha la mna mxa (.slice A3 p c3)).toArray 31))
    replace hb := below_trans hb (below_alloc w4 (.cells (agc Na ha la mna mxa (.slice A3 p c3)).toArray 31))
    go_wp2_with fail
    refine (HXb.out _ rb.reads).mono ?_
    rintro e w5 ⟨A4, c4, rfl, ry, hb5⟩
    have z5 := hb5.size
    rw [World.size_alloc] at z5
    rw [World.size_alloc] at ry
    replace ra := ra.grow hb5
    replace rb := rb.grow hb5
    replace rx := rx.grow hb5
    replace bx := bx.grow hb5
    replace hb := below_trans hb hb5
    clear hb5
    have bu := Own.new w5 31 (agc Nb hc lc mnb mxb (.slice A4 q c4))
    replace ra := ra.grow (below_alloc w5 (.cells (agc Nb hc lc mnb mxb (.slice A4 q c4)).toArray 31))
    replace rb := rb.grow (below_alloc w5 (.cells (agc Nb hc lc mnb mxb (.slice A4 q c4)).toArray 31))
    replace rx := rx.grow (below_alloc w5 (.cells (agc Nb hc lc mnb mxb (.slice A4 q c4)).toArray 31))
    replace bx := bx.grow (below_alloc w5 (.cells (agc Nb hc lc mnb mxb (.slice A4 q c4)).toArray 31))
    replace ry := ry.grow (below_alloc w5 (.cells (agc Nb hc lc mnb mxb (.slice A4 q c4)).toArray 31))
    replace hb := below_trans hb (below_alloc w5 (.cells (agc Nb hc lc mnb mxb (.slice A4 q c4)).toArray 31))
    obtain ⟨bxc0, bxc1, bxc2, bxc3, bxc4, bxc5⟩ := bx.six
    obtain ⟨buc0, buc1, buc2, buc3, buc4, buc5⟩ := bu.six
    go_wp2_with fail
    clear bxc0 bxc1 bxc2 bxc3 bxc4 bxc5 buc0 buc1 buc2 buc3 buc4 buc5
    refine (HJ.out _ _ _ _ _ rx.reads ry.reads).mono ?_
    rintro e w6 ⟨A5, c5, rfl, rj, hb6⟩
    have z6 := hb6.size
    rw [World.size_alloc] at z6
    rw [World.size_alloc] at rj
    replace ra := ra.grow hb6
    replace rb := rb.grow hb6
    replace rx := rx.grow hb6
    replace bx := bx.grow hb6
    replace ry := ry.grow hb6
    replace bu := bu.grow hb6
    replace hb := below_trans hb hb6
    clear hb6
    have bj := Own.new w6 31 (agc N h lw mn mx (.slice A5 m c5))
    replace ra := ra.grow (below_alloc w6 (.cells (agc N h lw mn mx (.slice A5 m c5)).toArray 31))
    replace rb := rb.grow (below_alloc w6 (.cells (agc N h lw mn mx (.slice A5 m c5)).toArray 31))
    replace rx := rx.grow (below_alloc w6 (.cells (agc N h lw mn mx (.slice A5 m c5)).toArray 31))
    replace bx := bx.grow (below_alloc w6 (.cells (agc N h lw mn mx (.slice A5 m c5)).toArray 31))
    replace ry := ry.grow (below_alloc w6 (.cells (agc N h lw mn mx (.slice A5 m c5)).toArray 31))
    replace bu := bu.grow (below_alloc w6 (.cells (agc N h lw mn mx (.slice A5 m c5)).toArray 31))
    replace rj := rj.grow (below_alloc w6 (.cells (agc N h lw mn mx (.slice A5 m c5)).toArray 31))
    replace hb := below_trans hb (below_alloc w6 (.cells (agc N h lw mn mx (.slice A5 m c5)).toArray 31))
    obtain ⟨bxc0, bxc1, bxc2, bxc3, bxc4, bxc5⟩ := bx.six
    obtain ⟨buc0, buc1, buc2, buc3, buc4, buc5⟩ := bu.six
    go_wp2_with fail
    clear bxc0 bxc1 bxc2 bxc3 bxc4 bxc5 buc0 buc1 buc2 buc3 buc4 buc5
    refine (HJ2.out _ _ _ _ _ ry.reads rx.reads).mono ?_
    rintro e w7 ⟨A6, c6, rfl, rk, hb7⟩
    have z7 := hb7.size
    rw [World.size_alloc] at z7
    rw [World.size_alloc] at rk
    replace ra := ra.grow hb7
    replace rb := rb.grow hb7
    replace rx := rx.grow hb7
    replace bx := bx.grow hb7
    replace ry := ry.grow hb7
    replace bu := bu.grow hb7
    replace rj := rj.grow hb7
    replace bj := bj.grow hb7
    replace hb := below_trans hb hb7
    clear hb7
    have bk := Own.new w7 31 (agc N h lw mn mx (.slice A6 m c6))
    replace ra := ra.grow (below_alloc w7 (.cells (agc N h lw mn mx (.slice A6 m c6)).toArray 31))
    replace rb := rb.grow (below_alloc w7 (.cells (agc N h lw mn mx (.slice A6 m c6)).toArray 31))
    replace rx := rx.grow (below_alloc w7 (.cells (agc N h lw mn mx (.slice A6 m c6)).toArray 31))
    replace bx := bx.grow (below_alloc w7 (.cells (agc N h lw mn mx (.slice A6 m c6)).toArray 31))
    replace ry := ry.grow (below_alloc w7 (.cells (agc N h lw mn mx (.slice A6 m c6)).toArray 31))
    replace bu := bu.grow (below_alloc w7 (.cells (agc N h lw mn mx (.slice A6 m c6)).toArray 31))
    replace rj := rj.grow (below_alloc w7 (.cells (agc N h lw mn mx (.slice A6 m c6)).toArray 31))
    replace bj := bj.grow (below_alloc w7 (.cells (agc N h lw mn mx (.slice A6 m c6)).toArray 31))
    replace rk := rk.grow (below_alloc w7 (.cells (agc N h lw mn mx (.slice A6 m c6)).toArray 31))
    replace hb := below_trans hb (below_alloc w7 (.cells (agc N h lw mn mx (.slice A6 m c6)).toArray 31))
    clear rx
    clear ry
    clear bx
    clear bu
    obtain ⟨w0, hw0⟩ : ∃ W, W = (w7.alloc (.cells (agc N h lw mn mx (.slice A6 m c6)).toArray 31)) := ⟨_, rfl⟩
    rw [← hw0] at ra rb rj rk bj bk hb
    have HE := Lib.hid (owns_empty (size := 1) (Own.new w0 3 []) (Nat.le_refl w0.heap.size))
    have HRA := Lib.hid (fun W (h : Below w0.heap.size w0 W) => ra.reads.below h)
    have HRB := Lib.hid (fun W (h : Below w0.heap.size w0 W) => rb.reads.below h)
    go_upto_region 9 with (fail)
    rw [← hw0]
    clear hw0 ra rb
    go_wp2_with (first
      | (at_builtin; refine appInt.rd rfl _ (.tmp 36) rfl w0.heap.size (.slice (some ⟨w0.heap.size, 0, none⟩) 0 0) 0 [] rfl HE.out A1 na c1 (iz a) rfl (HRA.out _ (below_alloc _ _)) HFA.out HLA.out (iz_one _) HN1 (by simp) ?_; intro A7 c7 w7 hown7 hgrow7 hb7; rw [Nat.zero_add, List.nil_append] at hown7; rw [Nat.zero_add])
      | (at_builtin; refine appInt.rd rfl _ (.tmp 38) rfl w0.heap.size (.slice A7 na c7) na (iz a) rfl hown7 B1 nb d1 (iz b) rfl (HRB.out _ ((below_alloc _ _).trans hb7)) HFB.out HLB.out (iz_one _) HN2 (by have := hb7.size; simp at this; omega) ?_; intro A8 c8 w8 hown8 hgrow8 hb8))
    have hb9 : Below w0.heap.size w0 w8 := ((below_alloc w0 (.cells #[] 3)).trans hb7).trans hb8
    have r8 := RowAt.of hown8
    rw [← HIZ.out] at r8
    have hf8 := owns_fit hown8
    replace rj := rj.grow hb9
    replace rk := rk.grow hb9
    replace bj := bj.grow hb9
    replace bk := bk.grow hb9
    replace hb := below_trans hb hb9
    clear hown7 hown8 hgrow7 hgrow8 hb7 hb8 hb9 HE HRA HRB HLA HLB HN1 HN2 HFA HFB HXa HXb HJ HJ2 HIZ
    go_upto_region 10 with (fail)
    have kj0 := fun W (hW : Below w8.heap.size w8 W) => (bj.grow hW).six.1
    have kj1 := fun W (hW : Below w8.heap.size w8 W) => (bj.grow hW).six.2.1
    have kj2 := fun W (hW : Below w8.heap.size w8 W) => (bj.grow hW).six.2.2.1
    have kj3 := fun W (hW : Below w8.heap.size w8 W) => (bj.grow hW).six.2.2.2.1
    have kj4 := fun W (hW : Below w8.heap.size w8 W) => (bj.grow hW).six.2.2.2.2.1
    have kj5 := fun W (hW : Below w8.heap.size w8 W) => (bj.grow hW).six.2.2.2.2.2
    have kk0 := fun W (hW : Below w8.heap.size w8 W) => (bk.grow hW).six.1
    have kk1 := fun W (hW : Below w8.heap.size w8 W) => (bk.grow hW).six.2.1
    have kk2 := fun W (hW : Below w8.heap.size w8 W) => (bk.grow hW).six.2.2.1
    have kk3 := fun W (hW : Below w8.heap.size w8 W) => (bk.grow hW).six.2.2.2.1
    have kk4 := fun W (hW : Below w8.heap.size w8 W) => (bk.grow hW).six.2.2.2.2.1
    have kk5 := fun W (hW : Below w8.heap.size w8 W) => (bk.grow hW).six.2.2.2.2.2
    have RJ := fun W (hW : Below w8.heap.size w8 W) => (rj.grow hW).reads
    have RK := fun W (hW : Below w8.heap.size w8 W) => (rk.grow hW).reads
    have R8 := fun W (hW : Below w8.heap.size w8 W) => (r8.grow hW).reads
    clear rj rk bj bk r8
    refine wp_region_held_drew (S := fun W => Below w8.heap.size w8 W) (by kernel_rfl) (Below.refl _ _).drew (fun hHd0 => ?_)
    refine wpAnyH_take (i := 0) (v := ?v0x1) rfl (by kernel_rfl) (by kernel_rfl) (by kernel_rfl) (fun _ _ _ h => h) (Or.inl ⟨by rfl, ?y0x1⟩) (by with_reducible assumption) ?_
    case y0x1 =>
      intro w0 hSw
      (try dsimp only at hSw)
      go_simp
      (try with_reducible rfl)
    (try simp only [Act.put])
    refine wpAnyH_take (i := 1) (v := ?v1x2) rfl (by kernel_rfl) (by kernel_rfl) (by kernel_rfl) (fun _ _ _ h => h) (Or.inl ⟨by rfl, ?y1x2⟩) (by with_reducible assumption) ?_
    case y1x2 =>
      intro w0 hSw
      (try dsimp only at hSw)
      go_simp
      (try with_reducible rfl)
    (try simp only [Act.put])
    refine wpAnyH_take (i := 2) (v := ?v2x3) rfl (by kernel_rfl) (by kernel_rfl) (by kernel_rfl) (fun _ _ _ h => h) (Or.inl ⟨by rfl, ?y2x3⟩) (by with_reducible assumption) ?_
    case y2x3 =>
      intro w0 hSw
      (try dsimp only at hSw)
      go_simp
      (try with_reducible rfl)
    (try simp only [Act.put])
    refine wpAnyH_take (i := 3) (v := ?v3x4) rfl (by kernel_rfl) (by kernel_rfl) (by kernel_rfl) (fun _ _ _ h => h) (Or.inl ⟨by rfl, ?y3x4⟩) (by with_reducible assumption) ?_
    case y3x4 =>
      intro w0 hSw
      (try dsimp only at hSw)
      go_simp
      (try with_reducible rfl)
    (try simp only [Act.put])
    refine wpAnyH_take (i := 4) (v := ?v4x5) rfl (by kernel_rfl) (by kernel_rfl) (by kernel_rfl) (fun _ _ _ h => h) (Or.inl ⟨by rfl, ?y4x5⟩) (by with_reducible assumption) ?_
    case y4x5 =>
      intro w0 hSw
      (try dsimp only at hSw)
      go_simp
      (try with_reducible rfl)
    (try simp only [Act.put])
    refine wpAnyH_take (i := 5) (v := ?v5x6) rfl (by kernel_rfl) (by kernel_rfl) (by kernel_rfl) (fun _ _ _ h => h) (Or.inl ⟨by rfl, ?y5x6⟩) (by with_reducible assumption) ?_
    case y5x6 =>
      intro w0 hSw
      (try dsimp only at hSw)
      go_simp
      (try with_reducible rfl)
    (try simp only [Act.put])
    refine wpAnyH_take (i := 6) (v := ?v6x7) rfl (by kernel_rfl) (by kernel_rfl) (by kernel_rfl) (fun _ _ _ h => h) (Or.inl ⟨by rfl, ?y6x7⟩) (by with_reducible assumption) ?_
    case y6x7 =>
      intro w0 hSw
      (try dsimp only at hSw)
      go_simp
      (try with_reducible rfl)
    (try simp only [Act.put])
    refine wpAnyH_ready (rs := [7]) (by kernel_rfl) (by simp) (AllReadyH.cons rfl (fun K hK => ?_) AllReadyH.nil)
    go_simp
    go_at_call 17
    refine (HS.out _ _ _ (R8 _ hHd0) hf8).mono ?_
    rintro e wr1 ⟨A9, c9, rfl, r9, hbr1⟩
    refine hK.out _ _ (show Below w8.heap.size w8 wr1 from below_trans hHd0 hbr1) (fun hHr1 => ?_)
    clear hK K
    (try simp only [Act.put, List.setIfInBounds_toArray, List.set_cons_zero, List.set_cons_succ])
    refine wpAnyH_ready (rs := [8]) (by kernel_rfl) (by simp) (AllReadyH.cons rfl (fun K hK => ?_) AllReadyH.nil)
    go_simp
    go_at_call 16
    refine (sameAgg_same N h lw mn mx _ _ m _ _ rs _ (RJ _ hHr1) r9.reads HM.out hm4).mono ?_
    rintro e wr2 ⟨rfl, hbr2⟩
    refine hK.out _ _ (show Below w8.heap.size w8 wr2 from below_trans hHr1 hbr2) (fun hHr2 => ?_)
    clear hK K
    replace r9 := r9.grow hbr2
    (try simp only [Act.put, List.setIfInBounds_toArray, List.set_cons_zero, List.set_cons_succ])
    refine wpAnyH_take (i := 9) (v := ?v9x8) rfl (by kernel_rfl) (by kernel_rfl) (by kernel_rfl) (fun _ _ _ h => h) (Or.inl ⟨by rfl, ?y9x8⟩) (by with_reducible assumption) ?_
    case y9x8 =>
      intro w0 hSw
      (try dsimp only at hSw)
      go_simp
      (try with_reducible rfl)
    (try simp only [Act.put])
    refine wpAnyH_take (i := 10) (v := ?v10x9) rfl (by kernel_rfl) (by kernel_rfl) (by kernel_rfl) (fun _ _ _ h => h) (Or.inl ⟨by rfl, ?y10x9⟩) (by with_reducible assumption) ?_
    case y10x9 =>
      intro w0 hSw
      (try dsimp only at hSw)
      go_simp
      (try with_reducible rfl)
    (try simp only [Act.put])
    refine wpAnyH_take (i := 11) (v := ?v11x10) rfl (by kernel_rfl) (by kernel_rfl) (by kernel_rfl) (fun _ _ _ h => h) (Or.inl ⟨by rfl, ?y11x10⟩) (by with_reducible assumption) ?_
    case y11x10 =>
      intro w0 hSw
      (try dsimp only at hSw)
      go_simp
      (try with_reducible rfl)
    (try simp only [Act.put])
    refine wpAnyH_take (i := 12) (v := ?v12x11) rfl (by kernel_rfl) (by kernel_rfl) (by kernel_rfl) (fun _ _ _ h => h) (Or.inl ⟨by rfl, ?y12x11⟩) (by with_reducible assumption) ?_
    case y12x11 =>
      intro w0 hSw
      (try dsimp only at hSw)
      go_simp
      (try with_reducible rfl)
    (try simp only [Act.put])
    refine wpAnyH_ready (rs := [13]) (by kernel_rfl) (by simp) (AllReadyH.cons rfl (fun K hK => ?_) AllReadyH.nil)
    go_simp
    go_at_call 16
    refine (sameAgg_same N h lw mn mx _ _ m _ _ rs _ (RK _ hHr2) (RJ _ hHr2) HM.out hm4).mono ?_
    rintro e wr3 ⟨rfl, hbr3⟩
    refine hK.out _ _ (show Below w8.heap.size w8 wr3 from below_trans hHr2 hbr3) (fun hHr3 => ?_)
    clear hK K
    replace r9 := r9.grow hbr3
    (try simp only [Act.put, List.setIfInBounds_toArray, List.set_cons_zero, List.set_cons_succ])
    refine wpAnyH_take (i := 14) (v := ?v14x12) rfl (by kernel_rfl) (by kernel_rfl) (by kernel_rfl) (fun _ _ _ h => h) (Or.inl ⟨by rfl, ?y14x12⟩) (by with_reducible assumption) ?_
    case y14x12 =>
      intro w0 hSw
      (try dsimp only at hSw)
      go_simp
      (try with_reducible rfl)
    (try simp only [Act.put])
    refine wpAnyH_take (i := 15) (v := ?v15x13) rfl (by kernel_rfl) (by kernel_rfl) (by kernel_rfl) (fun _ _ _ h => h) (Or.inl ⟨by rfl, ?y15x13⟩) (by with_reducible assumption) ?_
    case y15x13 =>
      intro w0 hSw
      (try dsimp only at hSw)
      go_simp
      (try with_reducible rfl)
    (try simp only [Act.put])
    refine wpAnyH_take (i := 16) (v := ?v16x14) rfl (by kernel_rfl) (by kernel_rfl) (by kernel_rfl) (fun _ _ _ h => h) (Or.inl ⟨by rfl, ?y16x14⟩) (by with_reducible assumption) ?_
    case y16x14 =>
      intro w0 hSw
      (try dsimp only at hSw)
      go_simp
      (try with_reducible rfl)
    (try simp only [Act.put])
    refine wpAnyH_ready (rs := [17]) (by kernel_rfl) (by simp) (AllReadyH.cons rfl (fun K hK => ?_) AllReadyH.nil)
    go_simp
    go_at_call 18
    refine (HO.out _ _ _ (RJ _ hHr3)).mono ?_
    rintro e wr4 ⟨rfl, hbr4⟩
    refine hK.out _ _ (show Below w8.heap.size w8 wr4 from below_trans hHr3 hbr4) (fun hHr4 => ?_)
    clear hK K
    replace r9 := r9.grow hbr4
    (try simp only [Act.put, List.setIfInBounds_toArray, List.set_cons_zero, List.set_cons_succ])
    refine wpAnyH_take (i := 18) (v := ?v18x15) rfl (by kernel_rfl) (by kernel_rfl) (by kernel_rfl) (fun _ _ _ h => h) (Or.inl ⟨by rfl, ?y18x15⟩) (by with_reducible assumption) ?_
    case y18x15 =>
      intro w0 hSw
      (try dsimp only at hSw)
      go_simp
      (try with_reducible rfl)
    (try simp only [Act.put])
    refine wpAnyH_take (i := 19) (v := ?v19x16) rfl (by kernel_rfl) (by kernel_rfl) (by kernel_rfl) (fun _ _ _ h => h) (Or.inl ⟨by rfl, ?y19x16⟩) (by with_reducible assumption) ?_
    case y19x16 =>
      intro w0 hSw
      (try dsimp only at hSw)
      go_simp
      (try with_reducible rfl)
    (try simp only [Act.put])
    refine wpAnyH_take (i := 20) (v := ?v20x17) rfl (by kernel_rfl) (by kernel_rfl) (by kernel_rfl) (fun _ _ _ h => h) (Or.inl ⟨by rfl, ?y20x17⟩) (by with_reducible assumption) ?_
    case y20x17 =>
      intro w0 hSw
      (try dsimp only at hSw)
      go_simp
      (try with_reducible rfl)
    (try simp only [Act.put])
    refine wpAnyH_take (i := 22) (v := ?v22x18) rfl (by kernel_rfl) (by kernel_rfl) (by kernel_rfl) (fun _ _ _ h => h) (Or.inl ⟨by rfl, ?y22x18⟩) (by with_reducible assumption) ?_
    case y22x18 =>
      intro w0 hSw
      (try dsimp only at hSw)
      go_simp
      (try with_reducible rfl)
    (try simp only [Act.put])
    refine wpAnyH_ready (rs := [21]) (by kernel_rfl) (by simp) (AllReadyH.cons rfl (fun K hK => ?_) AllReadyH.nil)
    go_simp
    go_at_call 14
    refine (HI.out _ _ _ (R8 _ hHr4)).mono ?_
    rintro e wr5 ⟨A10, c10, rfl, r10, hbr5⟩
    refine hK.out _ _ (show Below w8.heap.size w8 wr5 from below_trans hHr4 hbr5) (fun hHr5 => ?_)
    clear hK K
    replace r9 := r9.grow hbr5
    (try simp only [Act.put, List.setIfInBounds_toArray, List.set_cons_zero, List.set_cons_succ])
    refine wpAnyH_ready (rs := [23]) (by kernel_rfl) (by simp) (AllReadyH.cons rfl (fun K hK => ?_) AllReadyH.nil)
    go_simp
    go_at_call 16
    refine (sameAgg_same N h lw mn mx _ _ m _ _ rs _ r10.reads (RJ _ hHr5) HM.out hm4).mono ?_
    rintro e wr6 ⟨rfl, hbr6⟩
    refine hK.out _ _ (show Below w8.heap.size w8 wr6 from below_trans hHr5 hbr6) (fun hHr6 => ?_)
    clear hK K
    replace r9 := r9.grow hbr6
    replace r10 := r10.grow hbr6
    (try simp only [Act.put, List.setIfInBounds_toArray, List.set_cons_zero, List.set_cons_succ])
    refine wpAnyH_ready (rs := [24]) (by kernel_rfl) (by simp) (AllReadyH.cons rfl (fun K hK => ?_) AllReadyH.nil)
    go_simp
    refine hK.out _ _ hHr6 (fun _ => ?_)
    clear hK K
    (try simp only [Act.put, List.setIfInBounds_toArray, List.set_cons_zero, List.set_cons_succ])
    refine wpAnyH_ready (rs := [25]) (by kernel_rfl) (by simp) (AllReadyH.cons rfl (fun K hK => ?_) AllReadyH.nil)
    go_simp
    refine hK.out _ _ hHr6 (fun _ => ?_)
    clear hK K
    (try simp only [Act.put, List.setIfInBounds_toArray, List.set_cons_zero, List.set_cons_succ])
    refine wpAnyH_done (by kernel_rfl) ?_ _
    replace hb := below_trans hb hHr6
    clear HS HO HI RJ RK R8 r9 r10 kj0 kj1 kj2 kj3 kj4 kj5 kk0 kk1 kk2 kk3 kk4 kk5
    go_wp2
    go_ret
    exact ⟨rfl, hb⟩
end Go.Proofs.Ytkaghdkehkjdoaa
