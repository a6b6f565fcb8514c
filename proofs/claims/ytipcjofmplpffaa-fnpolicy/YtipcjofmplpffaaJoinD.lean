import Derived.Test.YtipcjofmplpffaaCurD
import Derived.Test.YtipcjofmplpffaaJoinC
import Derived.Test.YtipcjofmplpffaaLatSpecD
import Derived.Test.YtipcjofmplpffaaMathB
import Derived.Deep.RegionHeld3
import Derived.Test.YtipcjofmplpffaaJoinA

/-
  What is drawn for the laws of lattices; laws.big.
-/
namespace Go.Proofs.Ytipcjofmplpffaa
open Go.RowKit

/-- Some lattice in memory of its own, handed back. -/
def LatNew (w w' : World) (r : Value) (xs : List Nat) : Prop := U64 xs ∧ xs.length ≤ 9 ∧ w'.ownsRow w.heap.size 81 1 r xs.length (us xs) ∧ Below w.heap.size w w'

theorem big_any (A : Option Addr) (n c : Nat) (b : Bool) (w : World) (hb : decide (1048576 < n) = b) (hn : n ≤ 9223372036854775807) :
    Calls Try.prog 11 #[.slice A n c] w fun e w' => e = .returned (.bool b) ∧ w = w' := by
  go_enter Try.func11, Try.ntmps11
  go_wp2
  go_ret
  exact ⟨ret_bool (by rw [← hb]; simp; omega), rfl⟩

theorem below_only_new {w w1 w2 : World} {g : Nat} (h : Below w.heap.size w w1) (hg : w1.grownBy w2 (some g)) (hge : w.heap.size ≤ g) : Below w.heap.size w w2 :=
  h.grown hg h.size (fun k e => by cases e; exact hge)

end Go.Proofs.Ytipcjofmplpffaa

/-
  What is drawn for the law of joins and meets.
-/
namespace Go.Proofs.Ytipcjofmplpffaa
open Go.RowKit

end Go.Proofs.Ytipcjofmplpffaa

/-
  What is drawn for the laws of label policies.
-/
namespace Go.Proofs.Ytipcjofmplpffaa
open Go.RowKit

/-- the memory of a draw of a lattice and a policy -/
structure DQ (w W : World) (g lx : Nat) (A : Option Addr) (n c M : Nat) (N : Int) (u : Value) (xs : List Nat) (v : Value) (ps : List Pn) : Prop where
  o : Own W w.heap.size 26 [.int .i64 0, .slice none 0 0]
  l : Own W lx 26 [.int .i64 N, u]
  r : W.ownsRow (g + 1) 81 1 u xs.length (us xs)
  p : W.ownsRow (g + 1) 29 4 v ps.length (iz (qz ps))
  B : Below w.heap.size w W
  cur : Cur W g A n c M
  hg : w.heap.size < g
  hl : g < lx
section
variable {w W W' : World} {g lx : Nat} {A : Option Addr} {n c M M' : Nat} {N : Int} {u : Value} {xs : List Nat} {v : Value} {ps : List Pn}
theorem DQ.far (q : DQ w W g lx A n c M N u xs v ps) (hG : W.grownBy W' (some g)) (hC : Cur W' g A n c M') : DQ w W' g lx A n c M' N u xs v ps :=
  ⟨own_far q.o hG (by have := q.hg; omega), own_far q.l hG (by have := q.hl; omega), owns_far q.r hG (owns_lt q.r (Nat.lt_succ_self _)), owns_far q.p hG (owns_lt q.p (Nat.lt_succ_self _)), below_only_new q.B hG (by have := q.hg; omega), hC, q.hg, q.hl⟩
theorem DQ.drew (q : DQ w W g lx A n c M N u xs v ps) : DQ w W.drew g lx A n c M N u xs v ps :=
  q.far (grownBy_of (Below.refl _ _).drew _) (q.cur.grow (Below.refl _ _).drew)
theorem raw_dq (q : DQ w W g lx A n c M N u xs v ps) (hn : n ≤ 1048576) (hm : M ≤ 1099511627000) :
    Calls Try.prog 60 #[.pointer (some ⟨g, 0, none⟩)] W fun e w' => ∃ r : Int, e = .returned (.int .i64 r) ∧ DQ w w' g lx A n c (M + 2) N u xs v ps :=
  (raw_any g A n c M W q.cur hn hm).mono fun _ _ ⟨r, he, _, _, hC, hG⟩ => ⟨r, he, q.far hG hC⟩
theorem pick_dq {K : Int} (q : DQ w W g lx A n c M N u xs v ps) (hn : n ≤ 1048576) (hm : M ≤ 1099511627000) (hK : 1 ≤ K) (hK2 : K ≤ 4611686018427387904) :
    Calls Try.prog 61 #[.pointer (some ⟨g, 0, none⟩), .int .i64 K] W fun e w' => ∃ r : Int, e = .returned (.int .i64 r) ∧ DQ w w' g lx A n c (M + 1) N u xs v ps :=
  (pick_any g A n c M K W q.cur hn (by omega) hK hK2).mono fun _ _ ⟨r, he, _, hC, hG⟩ => ⟨r, he, q.far hG hC⟩
theorem DQ.ret (q : DQ w W g lx A n c M N u xs v ps) (hu : U64 xs) (hx : xs.length ≤ 9) :
    let W2 := (W.setCell ⟨w.heap.size, 0, none⟩ (.int .i64 N)).setCell ⟨w.heap.size, 1, none⟩ u
    (W2.cell? ⟨w.heap.size, 0, none⟩ = some (.int .i64 N) ∧ W2.cell? ⟨w.heap.size, 1, none⟩ = some u) ∧
      LatNew w W2 u xs ∧ W2.ownsRow w.heap.size 29 4 v ps.length (iz (qz ps)) := by
  have h1 := q.hg
  have hE := (q.o.set 0 (.int .i64 N)).set 1 u
  simp only [List.set_cons_succ, List.set_cons_zero] at hE
  have e1 := owns_lt q.r (g := w.heap.size) (by omega)
  have e2 := owns_lt q.p (g := w.heap.size) (by omega)
  refine ⟨hE.two, ⟨hu, hx, ?_, ?_⟩, ?_⟩
  · exact owns_base (owns_far (owns_far q.r (only_set (World.grownBy.refl W _)) e1) (only_set (World.grownBy.refl _ _)) e1) (by omega)
  · exact (q.B.setCell (Nat.le_refl _) _).setCell (Nat.le_refl _) _
  · exact owns_base (owns_far (owns_far q.p (only_set (World.grownBy.refl W _)) e2) (only_set (World.grownBy.refl _ _)) e2) (by omega)
end

set_option maxRecDepth 100000 in
set_option maxHeartbeats 4000000 in
theorem drawPolFor_any (A : Option Addr) (n c : Nat) (w : World) (hA : Byt w A n w.heap.size) (hn : n ≤ 1048576) :
    Calls Try.prog 22 #[.slice A n c] w fun e w' => ∃ N u xs v ps a b, e = .returned (.tuple #[.agg #[.int .i64 N, u], v, .int .i64 a, .int .i64 b]) ∧ LatNew w w' u xs ∧ w'.ownsRow w.heap.size 29 4 v ps.length (iz (qz ps)) ∧ ps.length ≤ 13 := by
  go_enter Try.func22, Try.ntmps22
  go_wp2_with fail
  refine (l01Open_any A n c _ (by have := hA.below (below_alloc w (.cells #[.int .i64 0, .slice none 0 0] 26)); exact fun k hk => by obtain ⟨ad, b, e, hl, r⟩ := this k hk; exact ⟨ad, b, e, by simp; omega, r⟩) hn).mono ?_
  rintro e w1 ⟨g, hg, rfl, hC, hB1⟩
  obtain ⟨hO, hB⟩ := box_own (cs := [.int .i64 0, .slice none 0 0]) hB1
  simp only [World.size_alloc] at hg
  clear hB1
  go_wp2_with fail
  refine (badLat_any g A n c 0 _ hC hn (by omega)).mono ?_
  rintro e w2 ⟨v, N, xs, rfl, ⟨hu, hx, r, rfl, hrow, hrg⟩, hC2, hG2⟩
  obtain ⟨R, cR, rfl, _⟩ := owns_rd hrow
  have hgl := hC.lt
  have hgl2 := hC2.lt
  have hF := RdF.of hrow hrg
  have hB2 := below_alloc w2 (.cells #[.int .i64 N, .slice R xs.length cR] 26)
  have hq : DQ w (w2.alloc (.cells #[.int .i64 N, .slice R xs.length cR] 26)) g w2.heap.size A n c (0 + 6) N (.slice R xs.length cR) xs (.slice none 0 0) [] :=
    ⟨(own_far hO hG2 (by omega)).alloc _, Own.new w2 _ [.int .i64 N, .slice R xs.length cR], owns_base (hrow.alloc _) (by omega), ⟨by simp [iz, qz], .inl (by simp)⟩, below_trans (below_only_new hB hG2 (by omega)) hB2, hC2.grow hB2, by omega, by omega⟩
  have hF3 := hF.grow hB2
  clear hO hB hG2 hC hC2 hrow hrg hF hB2
  have HQ := Lib.hid hq
  obtain ⟨c0, c1⟩ := hq.l.two
  clear hq
  go_wp2_with fail
  refine (badPolicy_any g A n c (0 + 6) N R cR xs _ HQ.out.cur hn (by omega) hF3 hu (by omega)).mono ?_
  rintro e w4 ⟨v, ps, rfl, r4, hps, hC4, hG4⟩
  have q4 := HQ.out.far hG4 hC4
  have q4 : DQ w w4 g w2.heap.size A n c (0 + 6 + 140) N (.slice R xs.length cR) xs v ps := ⟨q4.o, q4.l, q4.r, owns_base r4 (by have := HQ.out.cur.lt; omega), q4.B, q4.cur, q4.hg, q4.hl⟩
  clear HQ hF3 r4 hC4 hG4 c0 c1
  generalize w2.heap.size = lx at *
  obtain ⟨m, hm⟩ : ∃ m, xs.length = m := ⟨_, rfl⟩
  rw [hm] at q4
  have Q4 := Lib.hid q4
  clear q4
  go_wp2_with fail
  refine (once_any g A n c (0 + 6 + 140) 9 _ Q4.out.cur hn (by omega) (by omega) (by omega)).mono ?_
  rintro e w5 ⟨b, rfl, hC5, hG5⟩
  have q5 := Q4.out.far hG5 hC5
  clear Q4 hC5 hG5
  obtain ⟨c0, c1⟩ := q5.l.two
  have Q5 := Lib.hid q5
  clear q5
  cases b
  · go_wp2_with fail
    go_region_with (first
      | (go_at_call 61; refine (pick_dq Q5.out.drew hn (by omega) (by omega) (by omega)).mono ?_; rintro e w6 ⟨a, rfl, q6⟩; have Q6 := Lib.hid q6; have k0 := q6.l.two.1; have k1 := q6.l.two.2; clear q6)
      | (go_at_call 61; refine (pick_dq Q6.out hn (by omega) (by omega) (by omega)).mono ?_; rintro e w7 ⟨b, rfl, q7⟩; have Q7 := Lib.hid q7; have p0 := q7.l.two.1; have p1 := q7.l.two.2; have y0 := q7.o.two.1; have y1 := q7.o.two.2; have f0 := q7.o.free 0; have f1 := q7.o.free 1; clear q7))
    all_goals
      obtain ⟨⟨e0, e1⟩, hL, hP⟩ := Q7.out.ret hu hx
      have HE0 := Lib.hid e0
      have HE1 := Lib.hid e1
      have HL := Lib.hid hL
      have HP := Lib.hid hP
      clear e0 e1 hL hP
      go_wp2
      have e0 := HE0.out
      have e1 := HE1.out
      exact bodyPost_ret (v := .tuple #[.agg #[.int .i64 N, .slice R m cR], v, .int .i64 a, .int .i64 b]) (by simp [results, Try.results22, go_sem, e0, e1]) rfl ⟨_, _, xs, _, ps, _, _, rfl, HL.out, HP.out, hps⟩
  · go_wp2_with fail
    go_region_with (first
      | (go_at_call 60; refine (raw_dq Q5.out.drew hn (by omega)).mono ?_; rintro e w6 ⟨a, rfl, q6⟩; have Q6 := Lib.hid q6; have k0 := q6.l.two.1; have k1 := q6.l.two.2; clear q6)
      | (go_at_call 60; refine (raw_dq Q6.out hn (by omega)).mono ?_; rintro e w7 ⟨b, rfl, q7⟩; have Q7 := Lib.hid q7; have p0 := q7.l.two.1; have p1 := q7.l.two.2; have y0 := q7.o.two.1; have y1 := q7.o.two.2; have f0 := q7.o.free 0; have f1 := q7.o.free 1; clear q7))
    all_goals
      obtain ⟨⟨e0, e1⟩, hL, hP⟩ := Q7.out.ret hu hx
      have HE0 := Lib.hid e0
      have HE1 := Lib.hid e1
      have HL := Lib.hid hL
      have HP := Lib.hid hP
      clear e0 e1 hL hP
      go_wp2
      have e0 := HE0.out
      have e1 := HE1.out
      exact bodyPost_ret (v := .tuple #[.agg #[.int .i64 N, .slice R m cR], v, .int .i64 a, .int .i64 b]) (by simp [results, Try.results22, go_sem, e0, e1]) rfl ⟨_, _, xs, _, ps, _, _, rfl, HL.out, HP.out, hps⟩
end Go.Proofs.Ytipcjofmplpffaa

/-
  The program's and the model's LatEnds.
-/
namespace Go.Proofs.Ytipcjofmplpffaa
open Go.RowKit

noncomputable def endV (N : Int) (xs : List Nat) (up : Bool) : Int := if tf (LatP N xs) = true then endOf xs up else -1
theorem endV_no {N : Int} {xs : List Nat} {up : Bool} (h : ¬ LatP N xs) : endV N xs up = -1 := by unfold endV; rw [← tf_no h]; rfl
theorem endV_yes {N : Int} {xs : List Nat} {up : Bool} (h : LatP N xs) : endV N xs up = endOf xs up := by unfold endV; rw [← tf_yes h]; rfl
theorem ret_two {k : IntKind} {a b c d : Int} (h : a = c) (h' : b = d) : Ending.returned (.tuple #[.int k a, .int k b]) = .returned (.tuple #[.int k c, .int k d]) := by rw [h, h']

set_option maxHeartbeats 1000000 in
theorem implLatEnds_any (N : Int) (A : Option Addr) (ca : Nat) (xs : List Nat) (w : World) (hA : Rd w A (us xs)) (hu : U64 xs) (hn : xs.length ≤ 1048576) :
    Calls Try.prog 24 #[.agg #[.int .i64 N, .slice A xs.length ca]] w fun e w' => e = .returned (.tuple #[.int .i64 (endV N xs false), .int .i64 (endV N xs true)]) ∧ Below w.heap.size w w' := by
  have HA := Lib.hid (fun W (h : Below w.heap.size w W) => hA.below h)
  clear hA
  by_cases hL : LatP N xs
  · obtain ⟨rfl, h1, h16⟩ := hL.len
    go_enter Try.func24, Try.ntmps24
    go_wp2_with fail
    refine (as_bool (tf_yes hL).symm (implLatOk_any _ A ca xs _ (HA.out _ (below_alloc _ _)) hu hn)).mono ?_
    have HL := Lib.hid hL
    clear hL
    rintro e w1 ⟨rfl, hb1⟩
    obtain ⟨ho1, hB1⟩ := box_own hb1
    clear hb1
    obtain ⟨c0, c1⟩ := ho1.two
    go_wp2_with fail
    refine (allLabels_any xs.length _ (by omega)).mono ?_
    rintro e w' ⟨rfl, rfl⟩
    have k1 : ∀ W, Below w1.heap.size w1 W → W.cell? ⟨w.heap.size, 1, none⟩ = some (.slice A xs.length ca) := fun W h => (ho1.grow h).two.2
    have HR := Lib.hid (fun W (h : Below w1.heap.size w1 W) => HA.out W (below_trans hB1 h))
    have hp : 2 ^ xs.length - 1 < 18446744073709551616 := by
      have : 2 ^ xs.length ≤ 2 ^ 16 := Nat.pow_le_pow_right (by omega) h16
      omega
    have HP := Lib.hid hp
    clear hp c0 c1 ho1
    go_wp2
    go_region_held3 (fun W => Below w1.heap.size w1 W) (first | exact (Below.refl _ _).drew | exact below_trans (by assumption) (by assumption) | assumption)
      (first
        | (go_at_call 66; refine (flipRows_at A ca xs _ (HR.out _ (by assumption)) hu h16).mono ?_; rintro e w6 ⟨g3, rfl, hR3, hb6⟩)
        | (go_at_call_of 65 (Value.slice A xs.length ca); refine (leastIn_any A ca xs (2 ^ xs.length - 1) _ (HR.out _ (by assumption)) hu HP.out (by omega)).mono ?_; rintro e w7 ⟨rfl, rfl⟩)
        | (go_at_call 65; refine (leastIn_flip _ xs.length xs (2 ^ xs.length - 1) _ hR3 HP.out (by omega)).mono ?_; rintro e w7 ⟨rfl, rfl⟩))
    all_goals
      have hb8 : Below w1.heap.size w1 w6 := by assumption
      go_wp2
      go_ret2
      refine ⟨ret_two ?_ ?_, below_trans hB1 hb8⟩
      · rw [endV_yes HL.out, least_all hu h16]
      · rw [endV_yes HL.out, ← flip_end, ← least_all (flip_u64 (by omega)) (by rw [flip_length]; exact h16), flip_length]
  · go_enter Try.func24, Try.ntmps24
    go_wp2_with fail
    refine (as_bool (tf_no hL).symm (implLatOk_any N A ca xs _ (HA.out _ (below_alloc _ _)) hu hn)).mono ?_
    have HL := Lib.hid hL
    clear hL
    rintro e w1 ⟨rfl, hb1⟩
    go_wp2
    go_ret2
    exact ⟨ret_two (endV_no HL.out).symm (endV_no HL.out).symm, (box_own hb1).2⟩

/-- lo is at or below, hi at or above, every label before k -/
def EndsTo (xs : List Nat) (k lo hi : Nat) : Prop := ∀ i, i < k → side xs false i lo = true ∧ side xs true i hi = true

theorem endsTo_one {N : Int} {xs : List Nat} (h : LatP N xs) (h0 : 0 < xs.length) : EndsTo xs 1 0 0 := fun i hi => by
  obtain rfl : i = 0 := by omega
  exact ⟨h.side_refl _ h0, h.side_refl _ h0⟩
theorem endsTo_next {N : Int} {xs : List Nat} (h : LatP N xs) {k lo hi lo' hi' : Nat} (hk : k < xs.length) (hlo : lo < xs.length) (hhi : hi < xs.length) (hlo' : lo' < xs.length) (hhi' : hi' < xs.length)
    (h1 : isB xs false lo k lo' = true) (h2 : isB xs true hi k hi' = true) (hE : EndsTo xs k lo hi) : EndsTo xs (k + 1) lo' hi' := fun i hi => by
  rcases Nat.lt_succ_iff_lt_or_eq.1 hi with e | e
  · exact ⟨h.side_trans (by omega) hlo hlo' (hE i e).1 (isB_iff.1 h1).1.1, h.side_trans (by omega) hhi hhi' (hE i e).2 (isB_iff.1 h2).1.1⟩
  · subst e
    exact ⟨(isB_iff.1 h1).1.2, (isB_iff.1 h2).1.2⟩

set_option maxHeartbeats 1000000 in
theorem specLatEnds_any (N : Int) (A : Option Addr) (ca : Nat) (xs : List Nat) (w : World) (hA : Rd w A (us xs)) (hu : U64 xs) (hn : xs.length ≤ 1048576) :
    Calls Try.prog 62 #[.agg #[.int .i64 N, .slice A xs.length ca]] w fun e w' => e = .returned (.tuple #[.int .i64 (endV N xs false), .int .i64 (endV N xs true)]) ∧ Below w.heap.size w w' := by
  have HA := Lib.hid (fun W (h : Below w.heap.size w W) => hA.below h)
  clear hA
  by_cases hL : LatP N xs
  · obtain ⟨rfl, h1, h16⟩ := hL.len
    go_enter Try.func62, Try.ntmps62
    go_wp2_with fail
    refine (as_bool (tf_yes hL).symm (specLatOk_any _ A ca xs _ (HA.out _ (below_alloc _ _)) hu hn)).mono ?_
    have HL := Lib.hid hL
    clear hL
    rintro e w1 ⟨rfl, hb1⟩
    obtain ⟨ho1, hB1⟩ := box_own hb1
    clear hb1
    go_wp2
    go_loopw [4, 5, 6] (fun l h i wr => ∃ k lo hi : Nat, 1 ≤ k ∧ k ≤ xs.length ∧ l = .int .i64 lo ∧ h = .int .i64 hi ∧ i = .int .i64 k ∧ lo < xs.length ∧ hi < xs.length ∧ Hid (EndsTo xs k lo hi) ∧ Own wr w.heap.size 26 [.int .i64 (xs.length : Int), .slice A xs.length ca] ∧ Below w.heap.size w wr) (fun _ _ i _ => xs.length - (intOf i).toNat)
    case atStart => exact ⟨1, 0, 0, Nat.le_refl _, h1, rfl, rfl, rfl, by omega, by omega, Lib.hid (endsTo_one HL.out (by omega)), ho1, hB1⟩
    case round =>
      clear ho1 hB1
      obtain ⟨k, lo, hi, hk1, hk, rfl, rfl, rfl, hlo, hhi, hE, hown, hbel⟩ := hrel
      obtain ⟨c0, c1⟩ := hown.two
      by_cases hlt : k < xs.length
      · obtain ⟨lo', hlo', elo, hBlo⟩ := HL.out.bound_ok false hlo hlt
        obtain ⟨hi', hhi', ehi, hBhi⟩ := HL.out.bound_ok true hhi hlt
        have HE := Lib.hid (endsTo_next HL.out hlt hlo hhi hlo' hhi' hBlo hBhi hE.out)
        have ELO := Lib.hid elo
        have EHI := Lib.hid ehi
        clear hBlo hBhi hE elo ehi
        go_wp2_with fail
        clear c0 c1
        refine (as_int ELO.out (l01Bound_any A ca xs lo k false _ (HA.out _ hbel) hu h16 hlo hlt)).mono ?_
        rintro e w2 ⟨rfl, hb2⟩
        have ho2 := hown.grow hb2
        have hB2 := below_trans hbel hb2
        clear hb2 hown hbel
        obtain ⟨c0, c1⟩ := ho2.two
        go_wp2_with fail
        clear c0 c1
        refine (as_int EHI.out (l01Bound_any A ca xs hi k true _ (HA.out _ hB2) hu h16 hhi hlt)).mono ?_
        rintro e w3 ⟨rfl, hb3⟩
        have ho3 := ho2.grow hb3
        have hB3 := below_trans hB2 hb3
        clear hb3 ho2 hB2
        go_wp2
        go_roundw
        case rel => exact ⟨k + 1, lo', hi', by omega, by omega, rfl, rfl, by go_num, hlo', hhi', HE, ho3, hB3⟩
        case measure => simp [intOf]; omega
      · go_wp2
        go_ret2
        have hkn : k = xs.length := by omega
        subst hkn
        refine ⟨ret_two ?_ ?_, hbel⟩
        · rw [endV_yes HL.out]; exact (HL.out.end_is hlo (isEnd_iff.2 (fun d hd => (hE.out d hd).1))).symm
        · rw [endV_yes HL.out]; exact (HL.out.end_is hhi (isEnd_iff.2 (fun d hd => (hE.out d hd).2))).symm
  · go_enter Try.func62, Try.ntmps62
    go_wp2_with fail
    refine (as_bool (tf_no hL).symm (specLatOk_any N A ca xs _ (HA.out _ (below_alloc _ _)) hu hn)).mono ?_
    have HL := Lib.hid hL
    clear hL
    rintro e w1 ⟨rfl, hb1⟩
    go_wp2
    go_ret2
    exact ⟨ret_two (endV_no HL.out).symm (endV_no HL.out).symm, (box_own hb1).2⟩
end Go.Proofs.Ytipcjofmplpffaa

/-
  PolicyFor, the program's: what it returns.
-/
namespace Go.Proofs.Ytipcjofmplpffaa
open Go.RowKit Go.WideMaps Go.Maps

def askF (N : Int) (xs : List Nat) (ps : List Pn) (s k : Int) : Prop := okL N xs ps ∧ (0 ≤ s ∧ s < 4) ∧ (0 ≤ k ∧ k ≤ 15)
noncomputable def forV (N : Int) (xs : List Nat) (ps : List Pn) (s k : Int) : Int := if tf (askF N xs ps s k) = true then forP ps s k (endOf xs true) else -1
theorem forV_no {N : Int} {xs : List Nat} {ps : List Pn} {s k : Int} (h : ¬ askF N xs ps s k) : -1 = forV N xs ps s k := by unfold forV; rw [← tf_no h]; rfl
theorem forV_yes {N : Int} {xs : List Nat} {ps : List Pn} {s k : Int} (h : askF N xs ps s k) : forP ps s k (endOf xs true) = forV N xs ps s k := by unfold forV; rw [← tf_yes h]; rfl

theorem zero_int (w : World) : (zeroValue 3).run Try.prog w = .ok (.int .i64 0) w := by kernel_rfl

/-- an entry at the place that is asked for matches -/
theorem has_of_place {q : Pn} {s k b : Int} (hr : rightP q) (hk : 0 ≤ k ∧ k ≤ 15) (e : plc q = (s, b, cutK k b)) : hasP q s k ∧ q.2.1 = b := by
  simp only [plc, Prod.mk.injEq] at e
  obtain ⟨e1, e2, e3⟩ := e
  refine ⟨⟨hr.1, e1, hk, ?_⟩, e2⟩
  rw [e2]
  refine cutK_same.1 ?_
  have := hr.2
  rw [e2] at this
  rw [cutK_self.2 this, e3]
theorem place_of_has {q : Pn} {s k : Int} (hr : rightP q) (h : hasP q s k) : plc q = (s, q.2.1, cutK k q.2.1) := by
  simp only [plc, Prod.mk.injEq]
  refine ⟨h.2.1, trivial, ?_⟩
  rw [cutK_same.2 h.2.2.2, cutK_self.2 hr.2]
/-- nothing that matches has more bits -/
def noneAbove (ps : List Pn) (s k b : Int) : Prop := ∀ q ∈ ps, hasP q s k → q.2.1 ≤ b
theorem none_next {ps : List Pn} {s k b : Int} (hr : ∀ q ∈ ps, rightP q) (h : noneAbove ps s k b) (hn : ∀ q ∈ ps, plc q ≠ (s, b, cutK k b)) : noneAbove ps s k (b - 1) := fun q hq hh => by
  have h1 := h q hq hh
  by_cases e : q.2.1 = b
  · exact absurd (e ▸ place_of_has (hr q hq) hh) (hn q hq)
  · omega
theorem cut_range {k b : Int} (h0 : 0 ≤ k) : 0 ≤ cutK k b ∧ cutK k b ≤ k := by
  have hp := pw_range (4 - b)
  have h1 := Int.mul_ediv_add_emod k (pw (4 - b))
  have h2 := Int.emod_nonneg k (b := pw (4 - b)) (by omega)
  have h3 : 0 ≤ k / pw (4 - b) := Int.ediv_nonneg h0 (by omega)
  unfold cutK
  rw [Int.mul_comm] at h1
  exact ⟨Int.mul_nonneg h3 (by omega), by omega⟩

set_option maxRecDepth 100000 in
set_option maxHeartbeats 1000000 in
theorem implPolicyFor_any (N : Int) (A : Option Addr) (ca : Nat) (xs : List Nat) (B : Option Addr) (cb : Nat) (ps : List Pn) (s k : Int) (w : World) (hA : Rd w A (us xs)) (hu : U64 xs) (hn : xs.length ≤ 1048576) (hB : Rd w B (iz (qz ps))) (hm : ps.length ≤ 1048588) :
    Calls Try.prog 17 #[.agg #[.int .i64 N, .slice A xs.length ca], .slice B ps.length cb, .int .i64 s, .int .i64 k] w fun e w' => e = .returned (.int .i64 (forV N xs ps s k)) ∧ Below w.heap.size w w' := by
  have HA := Lib.hid (fun W (h : Below w.heap.size w W) => hA.below h)
  have HB := Lib.hid (fun W (h : Below w.heap.size w W) => hB.below h)
  clear hA hB
  go_enter Try.func17, Try.ntmps17
  go_wp2_with fail
  by_cases hL : okL N xs ps
  · refine (as_bool (tf_yes hL).symm (implPolicyOk_any N A ca xs B cb ps _ (HA.out _ (below_alloc _ _)) hu hn (HB.out _ (below_alloc _ _)) hm)).mono ?_
    have HL := Lib.hid hL
    clear hL
    rintro e w1 ⟨rfl, hb1⟩
    obtain ⟨ho, hb⟩ := box_own hb1
    clear hb1
    go_wp2_with fail
    by_cases hs : 0 ≤ s ∧ s < 4
    · refine (isSource_is (decide_eq_true hs) _).mono ?_
      rintro e _ ⟨rfl, rfl⟩
      go_wp2_with fail
      by_cases hk : 0 ≤ k ∧ k ≤ 15
      · refine (isKey_is (decide_eq_true hk) _).mono ?_
        rintro e _ ⟨rfl, rfl⟩
        go_wp2_with fail
        have hN := HL.out.1.len
        refine (labelsByPlace_any B cb ps _ (HB.out _ hb) hm (fun p hp => good_wf (by omega) (HL.out.2.2.1 p hp)) (ok_one HL.out.2)).mono ?_
        rintro e w2 ⟨g, n, D, rfl, hg, hnn, hown, htie, hb2⟩
        replace ho := ho.grow hb2
        replace hb := below_trans hb hb2
        clear hb2 hg hnn hN
        have HT := Lib.hid htie
        clear htie
        go_wp2
        go_loop [10] (fun i => ∃ b : Int, -1 ≤ b ∧ b ≤ 4 ∧ i = .int .i64 b ∧ noneAbove ps s k b) (fun i => (intOf i + 1).toNat)
        case atStart => exact ⟨4, by omega, by omega, rfl, fun q hq hh => hh.1.2.2.2.1⟩
        case round =>
          obtain ⟨b, hb0, hb4, rfl, hno⟩ := hrel
          by_cases hlt : 0 ≤ b
          · have hc := cut_range (b := b) hk.1
            have hw : wfPl (s, b, cutK k b) := ⟨small_wf (z := s) hs.1 (by omega), small_wf (z := b) hlt (by omega), small_wf (z := cutK k b) hc.1 (by omega)⟩
            have HK := Lib.hid (keyOf_place hw)
            have HC := Lib.hid (fun W => keyPrefix_any k b W hk.1 hk.2 hlt hb4)
            rcases HT.out.look hw with ⟨hh, q, hq, e, hv⟩ | ⟨hh, hne⟩
            · have HQ := Lib.hid (has_of_place (HL.out.2.2.1 q hq).2 hk e)
              have HF := Lib.hid (show q.2.2.2 = forV N xs ps s k by
                rw [← forV_yes ⟨HL.out, hs, hk⟩]
                exact (forP_max HL.out.2 hq HQ.out.1 (fun r hr hrh => by rw [HQ.out.2]; exact hno r hr hrh)).symm)
              have HV := Lib.hid hv
              clear hv e hno HQ
              generalize cutK k b = c at *
              go_wp2_with (first | (go_at_call 54; refine (HC.out _).mono ?_; rintro e w' ⟨rfl, rfl⟩) | (at_lookup; refine wpList_lookup_own_ok_int _ rfl _ _ 67 rfl 70 3 .i64 placeLaw Try.underlying67 Try.underlying3 (zero_int _) g n D rfl hown _ _ rfl HK.out ?_; intro l hat hwl))
              go_ret
              refine ⟨ret_int ?_, hb⟩
              rw [← HF.out]
              have := (HV.out (.lit (.int .i64 0))).symm.trans hat
              simpa using this.symm
            · have HS := Lib.hid (none_next (fun q hq => (HL.out.2.2.1 q hq).2) hno hne)
              clear hne hno
              generalize cutK k b = c at *
              go_wp2_with (first | (go_at_call 54; refine (HC.out _).mono ?_; rintro e w' ⟨rfl, rfl⟩) | (at_lookup; refine wpList_lookup_own_ok_int _ rfl _ _ 67 rfl 70 3 .i64 placeLaw Try.underlying67 Try.underlying3 (zero_int _) g n D rfl hown _ _ rfl HK.out ?_; intro l hat hwl))
              go_round
              case rel => exact ⟨b - 1, by omega, by omega, by go_num, HS.out⟩
              case measure => simp [intOf]; omega
          · have HF := Lib.hid (show endV N xs true = forV N xs ps s k by
              rw [← forV_yes ⟨HL.out, hs, hk⟩, endV_yes HL.out.1]
              exact (forP_none (fun q hq hh => by have := hno q hq hh; have := hh.1.2.2.1; omega)).symm)
            clear hno
            obtain ⟨c0, c1⟩ := ho.two
            go_wp2_with fail
            clear c0 c1
            refine (implLatEnds_any N A ca xs _ (HA.out _ hb) hu hn).mono ?_
            rintro e w3 ⟨rfl, hb3⟩
            go_wp2
            go_ret
            exact ⟨ret_int HF.out, below_trans hb hb3⟩
      · refine (isKey_is (decide_eq_false hk) _).mono ?_
        rintro e _ ⟨rfl, rfl⟩
        go_wp2
        go_ret
        exact ⟨ret_int (forV_no (fun h => hk h.2.2)), hb⟩
    · refine (isSource_is (decide_eq_false hs) _).mono ?_
      rintro e _ ⟨rfl, rfl⟩
      go_wp2
      go_ret
      exact ⟨ret_int (forV_no (fun h => hs h.2.1)), hb⟩
  · refine (as_bool (tf_no hL).symm (implPolicyOk_any N A ca xs B cb ps _ (HA.out _ (below_alloc _ _)) hu hn (HB.out _ (below_alloc _ _)) hm)).mono ?_
    have HL := Lib.hid hL
    clear hL
    rintro e w1 ⟨rfl, hb1⟩
    go_wp2
    go_ret
    exact ⟨ret_int (forV_no (fun h => HL.out h.1)), (box_own hb1).2⟩
end Go.Proofs.Ytipcjofmplpffaa

/-
  PolicyFor, the model's: what it returns.
-/
namespace Go.Proofs.Ytipcjofmplpffaa
open Go.RowKit

theorem specPunctHas_is {a b c d s k : Int} {B : Bool} (h : decide (hasP (a, b, c, d) s k) = B) (w : World) :
    Calls Try.prog 16 #[pv a b c d, .int .i64 s, .int .i64 k] w fun e w' => e = .returned (.bool B) ∧ Below w.heap.size w w' := as_bool h (specPunctHas_any a b c d s k w)

set_option maxRecDepth 100000 in
set_option maxHeartbeats 1000000 in
theorem specPolicyFor_any (N : Int) (A : Option Addr) (ca : Nat) (xs : List Nat) (B : Option Addr) (cb : Nat) (ps : List Pn) (s k : Int) (w : World) (hA : Rd w A (us xs)) (hu : U64 xs) (hn : xs.length ≤ 1048576) (hB : Rd w B (iz (qz ps))) (hm : ps.length ≤ 1048588) :
    Calls Try.prog 23 #[.agg #[.int .i64 N, .slice A xs.length ca], .slice B ps.length cb, .int .i64 s, .int .i64 k] w fun e w' => e = .returned (.int .i64 (forV N xs ps s k)) ∧ Below w.heap.size w w' := by
  have HA := Lib.hid (fun W (h : Below w.heap.size w W) => hA.below h)
  have HB0 := Lib.hid hB
  have HB := Lib.hid (fun W (h : Below w.heap.size w W) => hB.below h)
  clear hA hB
  go_enter Try.func23, Try.ntmps23
  go_wp2_with fail
  by_cases hL : okL N xs ps
  · refine (as_bool (tf_yes hL).symm (specPolicyOk_any N A ca xs B cb ps _ (HA.out _ (below_alloc _ _)) hu hn (HB.out _ (below_alloc _ _)) hm)).mono ?_
    have HL := Lib.hid hL
    clear hL
    rintro e w1 ⟨rfl, hb1⟩
    obtain ⟨ho, hb⟩ := box_own hb1
    clear hb1
    go_wp2_with fail
    by_cases hs : 0 ≤ s ∧ s < 4
    · refine (l04Src_is (decide_eq_true hs) _).mono ?_
      rintro e _ ⟨rfl, rfl⟩
      go_wp2_with fail
      by_cases hk : 0 ≤ k ∧ k ≤ 15
      · refine (l04Key_is (decide_eq_true hk) _).mono ?_
        rintro e _ ⟨rfl, rfl⟩
        obtain ⟨c0, c1⟩ := ho.two
        go_wp2_with fail
        clear c0 c1
        refine (specLatEnds_any N A ca xs _ (HA.out _ hb) hu hn).mono ?_
        rintro e w2 ⟨rfl, hb2⟩
        replace hb := below_trans hb hb2
        clear hb2
        rw [show endV N xs true = endOf xs true from endV_yes HL.out.1]
        have HF := Lib.hid (show (bestOf ps s k (-1) (endOf xs true)).2 = forV N xs ps s k from forV_yes ⟨HL.out, hs, hk⟩)
        generalize endOf xs true = T at *
        go_wp2
        go_loopw [10, 11, 12] (fun l b i wr => ∃ (j : Nat) (zb zl : Int), j ≤ ps.length ∧ i = .int .i64 j ∧ b = .int .i64 zb ∧ l = .int .i64 zl ∧ bestOf (ps.drop j) s k zb zl = bestOf ps s k (-1) T ∧ Below w.heap.size w wr) (fun _ _ i _ => ps.length - (intOf i).toNat)
        case atStart => exact ⟨0, -1, T, Nat.zero_le _, rfl, rfl, rfl, rfl, hb⟩
        case round =>
          obtain ⟨j, zb, zl, hj, rfl, rfl, rfl, hbest, hbel⟩ := hrel
          by_cases hlt : j < ps.length
          · obtain ⟨b, off, rfl, c0, c1, c2, c3⟩ := quad_cells HB0.out hbel hlt
            have HS := Lib.hid (bestOf_step (s := s) (k := k) (b := zb) (l := zl) hlt)
            have HQ := Lib.hid hbest
            clear hbest
            generalize qat ps j = q at *
            obtain ⟨q0, q1, q2, q3⟩ := q
            have w0 := c0 ⟨wr, Below.refl _ _⟩
            have w1 := c1 ⟨wr, Below.refl _ _⟩
            have w2 := c2 ⟨wr, Below.refl _ _⟩
            have w3 := c3 ⟨wr, Below.refl _ _⟩
            simp only at w0 w1 w2 w3
            by_cases hh : hasP (q0, q1, q2, q3) s k
            · by_cases hz : zb < q1
              · have HR := Lib.hid (show bestOf (ps.drop (j + 1)) s k q1 q3 = bestOf ps s k (-1) T by rw [← HQ.out, HS.out, if_pos ⟨hh, hz⟩])
                have HH := Lib.hid (decide_eq_true hh)
                clear hh HQ HS
                go_wp2_with fail
                refine (specPunctHas_is HH.out _).mono ?_
                rintro e w4 ⟨rfl, hb4⟩
                have d0 := c0 ⟨w4, hb4⟩
                have d1 := c1 ⟨w4, hb4⟩
                have d2 := c2 ⟨w4, hb4⟩
                have d3 := c3 ⟨w4, hb4⟩
                simp only at d0 d1 d2 d3
                clear w0 w1 w2 w3 c0 c1 c2 c3
                go_wp2
                go_roundw
                case rel => exact ⟨j + 1, q1, q3, by omega, by go_num, rfl, rfl, HR.out, below_trans hbel hb4⟩
                case measure => simp [intOf]; omega
              · have HR := Lib.hid (show bestOf (ps.drop (j + 1)) s k zb zl = bestOf ps s k (-1) T by rw [← HQ.out, HS.out, if_neg (fun h => hz h.2)])
                have HH := Lib.hid (decide_eq_true hh)
                clear hh HQ HS
                go_wp2_with fail
                refine (specPunctHas_is HH.out _).mono ?_
                rintro e w4 ⟨rfl, hb4⟩
                have d0 := c0 ⟨w4, hb4⟩
                have d1 := c1 ⟨w4, hb4⟩
                have d2 := c2 ⟨w4, hb4⟩
                have d3 := c3 ⟨w4, hb4⟩
                simp only at d0 d1 d2 d3
                clear w0 w1 w2 w3 c0 c1 c2 c3
                go_wp2
                go_roundw
                case rel => exact ⟨j + 1, zb, zl, by omega, by go_num, rfl, rfl, HR.out, below_trans hbel hb4⟩
                case measure => simp [intOf]; omega
            · have HR := Lib.hid (show bestOf (ps.drop (j + 1)) s k zb zl = bestOf ps s k (-1) T by rw [← HQ.out, HS.out, if_neg (fun h => hh h.1)])
              have HH := Lib.hid (decide_eq_false hh)
              clear hh HQ HS c0 c1 c2 c3
              go_wp2_with fail
              refine (specPunctHas_is HH.out _).mono ?_
              rintro e w4 ⟨rfl, hb4⟩
              clear w0 w1 w2 w3
              go_wp2
              go_roundw
              case rel => exact ⟨j + 1, zb, zl, by omega, by go_num, rfl, rfl, HR.out, below_trans hbel hb4⟩
              case measure => simp [intOf]; omega
          · have hjn : j = ps.length := by omega
            subst hjn
            have HR := Lib.hid (show zl = forV N xs ps s k by rw [← HF.out, ← hbest]; simp [bestOf])
            clear hbest
            go_wp2
            go_ret
            exact ⟨ret_int HR.out, hbel⟩
      · refine (l04Key_is (decide_eq_false hk) _).mono ?_
        rintro e _ ⟨rfl, rfl⟩
        go_wp2
        go_ret
        exact ⟨ret_int (forV_no (fun h => hk h.2.2)), hb⟩
    · refine (l04Src_is (decide_eq_false hs) _).mono ?_
      rintro e _ ⟨rfl, rfl⟩
      go_wp2
      go_ret
      exact ⟨ret_int (forV_no (fun h => hs h.2.1)), hb⟩
  · refine (as_bool (tf_no hL).symm (specPolicyOk_any N A ca xs B cb ps _ (HA.out _ (below_alloc _ _)) hu hn (HB.out _ (below_alloc _ _)) hm)).mono ?_
    have HL := Lib.hid hL
    clear hL
    rintro e w1 ⟨rfl, hb1⟩
    go_wp2
    go_ret
    exact ⟨ret_int (forV_no (fun h => HL.out h.1)), (box_own hb1).2⟩
end Go.Proofs.Ytipcjofmplpffaa

/-
  The law: a key that no entry matches has the top label.
-/
namespace Go.Proofs.Ytipcjofmplpffaa
open Go.RowKit

theorem implPunctHas_is {a b c d s k : Int} {B : Bool} (h : decide (hasP (a, b, c, d) s k) = B) (w : World) :
    Calls Try.prog 18 #[pv a b c d, .int .i64 s, .int .i64 k] w fun e w' => e = .returned (.bool B) ∧ Below w.heap.size w w' := by
  subst h; exact implPunctHas_any a b c d s k w
theorem forV_ask {N : Int} {xs : List Nat} {ps : List Pn} {s k : Int} (h : ¬ forV N xs ps s k < 0) : askF N xs ps s k := by
  by_cases ha : askF N xs ps s k
  · exact ha
  · rw [← forV_no ha] at h; omega
theorem forV_nil {N : Int} {xs : List Nat} {ps : List Pn} {s k : Int} (h : askF N xs ps s k) : forV N xs [] s k = endV N xs true := by
  rw [← forV_yes (ps := []) ⟨⟨h.1.1, by simp [listOk]⟩, h.2⟩, endV_yes h.1.1]
  exact forP_none (by simp)
theorem forV_none {N : Int} {xs : List Nat} {ps : List Pn} {s k : Int} (h : askF N xs ps s k) (hn : ∀ q ∈ ps, ¬ hasP q s k) : forV N xs ps s k = endV N xs true := by
  rw [← forV_yes h, endV_yes h.1.1]
  exact forP_none hn

set_option maxRecDepth 100000 in
set_option maxHeartbeats 4000000 in
theorem fnClosed_walk (A : Option Addr) (c n : Nat) (w : World) (hA : Byt w A n w.heap.size) (hn : n ≤ 9223372036854775807) :
    Calls Try.prog 4 #[.slice A n c] w fun e w' => e = .returned (.bool true) ∧ Below w.heap.size w w' := by
  by_cases hb : 1048576 < n
  · go_enter Try.func4, Try.ntmps4
    go_wp2_with fail
    refine (big_any A n c true _ (by simpa using hb) hn).mono ?_
    rintro e w' ⟨rfl, rfl⟩
    go_wp2
    go_ret
    exact ⟨rfl, Below.refl _ _⟩
  · go_enter Try.func4, Try.ntmps4
    go_wp2_with fail
    refine (big_any A n c false _ (by simpa using hb) hn).mono ?_
    rintro e w' ⟨rfl, rfl⟩
    go_wp2_with fail
    refine (drawPolFor_any A n c _ hA (by omega)).mono ?_
    rintro e w1 ⟨N, u, xs, v, ps, s, k, rfl, ⟨hu, hx9, hrow, hb1⟩, hp, hps⟩
    obtain ⟨R, cR, rfl, hR⟩ := owns_rd hrow
    obtain ⟨B, cb, rfl, hB⟩ := owns_rd hp
    have HR := Lib.hid (fun W (h : Below w1.heap.size w1 W) => hR.below h)
    have HB := Lib.hid (fun W (h : Below w1.heap.size w1 W) => hB.below h)
    clear hR hrow hB hp hA hb hn
    obtain ⟨T, hT⟩ : ∃ T, forV N xs ps s k = T := ⟨_, rfl⟩
    have HT := Lib.hid hT
    clear hT
    go_wp2_with fail
    refine (as_int HT.out (implPolicyFor_any N R cR xs B cb ps s k _ (HR.out _ (below_alloc _ _)) hu (by omega) (HB.out _ (below_alloc _ _)) (by omega))).mono ?_
    rintro e w2 ⟨rfl, hb2⟩
    obtain ⟨hO, hb2'⟩ := box_own (cs := [.int .i64 N, .slice R xs.length cR]) hb2
    clear hb2
    obtain ⟨c0, c1⟩ := hO.two
    go_wp2_with fail
    clear c0 c1
    refine (as_int HT.out (specPolicyFor_any N R cR xs B cb ps s k _ (HR.out _ hb2') hu (by omega) (HB.out _ hb2') (by omega))).mono ?_
    rintro e w3 ⟨rfl, hb3⟩
    replace hO := hO.grow hb3
    replace hb2' := below_trans hb2' hb3
    clear hb3
    have hne : (T != T) = false := by simp
    have heq : (T == T) = true := by simp
    by_cases hT0 : T < 0
    · obtain ⟨c0, c1⟩ := hO.two
      go_wp2_with fail
      clear c0 c1
      refine (as_int HT.out (specPolicyFor_any N R cR xs B cb ps s k _ (HR.out _ hb2') hu (by omega) (HB.out _ hb2') (by omega))).mono ?_
      rintro e w4 ⟨rfl, hb4⟩
      go_wp2
      go_ret
      exact ⟨rfl, below_trans hb1 (below_trans hb2' hb4)⟩
    · have HK := Lib.hid (forV_ask (show ¬ forV N xs ps s k < 0 by rw [HT.out]; exact hT0))
      have HO := Lib.hid (fun W (h : Below w3.heap.size w3 W) => hO.grow h)
      have HR3 := Lib.hid (fun W (h : Below w3.heap.size w3 W) => HR.out W (below_trans hb2' h))
      have HB3 := Lib.hid (HB.out _ hb2')
      have hbw := below_trans hb1 hb2'
      clear hO HR HB hb2' hb1
      generalize w1.heap.size = lx at *
      go_wp2
      go_loopw [8, 9] (fun b i wr => ∃ (j : Nat) (z : Bool), j ≤ ps.length ∧ i = .int .i64 j ∧ b = .bool z ∧ Hid (z = false → ∀ t, t < j → ¬ hasP (qat ps t) s k) ∧ Below w3.heap.size w3 wr) (fun _ i _ => ps.length - (intOf i).toNat)
      case atStart => exact ⟨0, false, Nat.zero_le _, rfl, rfl, Lib.hid (fun _ t ht => by omega), Below.refl _ _⟩
      case round =>
        obtain ⟨j, z, hj, rfl, rfl, hno, hbel⟩ := hrel
        by_cases hlt : j < ps.length
        · cases z
          · obtain ⟨b, off, rfl, c0, c1, c2, c3⟩ := quad_cells HB3.out hbel hlt
            have HQ := Lib.hid (fun (h : ¬ hasP (qat ps j) s k) t (ht : t < j + 1) => (show ¬ hasP (qat ps t) s k from by
              by_cases e : t = j
              · subst e; exact h
              · exact hno.out rfl t (by omega)))
            clear hno
            generalize qat ps j = q at c0 c1 c2 c3 HQ
            obtain ⟨q0, q1, q2, q3⟩ := q
            have u0 := c0 ⟨wr, Below.refl _ _⟩
            have u1 := c1 ⟨wr, Below.refl _ _⟩
            have u2 := c2 ⟨wr, Below.refl _ _⟩
            have u3 := c3 ⟨wr, Below.refl _ _⟩
            simp only at u0 u1 u2 u3
            clear c0 c1 c2 c3
            obtain ⟨y, hy⟩ : ∃ y, decide (hasP (q0, q1, q2, q3) s k) = y := ⟨_, rfl⟩
            have HY := Lib.hid hy
            clear hy
            go_wp2_with fail
            clear u0 u1 u2 u3
            refine (implPunctHas_is HY.out _).mono ?_
            rintro e w4 ⟨rfl, hb4⟩
            go_wp2
            go_roundw
            case rel => exact ⟨j + 1, y, by omega, by go_num, rfl, Lib.hid (fun hy => HQ.out (by have := HY.out; rw [hy] at this; simpa using this)), below_trans hbel hb4⟩
            case measure => simp [intOf]; omega
          · clear hno
            go_wp2
            go_roundw
            case rel => exact ⟨j + 1, true, by omega, by go_num, rfl, Lib.hid (by simp), hbel⟩
            case measure => simp [intOf]; omega
        · have hj' : j = ps.length := by omega
          have HZ := Lib.hid (show z = false → T = endV N xs true from fun hz => by
            rw [← HT.out]
            exact forV_none HK.out (fun q hq => by obtain ⟨t, ht, rfl⟩ := mem_qat hq; exact hno.out hz t (by omega)))
          clear hno
          obtain ⟨c0, c1⟩ := (HO.out _ hbel).two
          go_wp2_with fail
          clear c0 c1
          refine (implLatEnds_any N R cR xs _ (HR3.out _ hbel) hu (by omega)).mono ?_
          rintro e w5 ⟨rfl, hb5⟩
          have HN := Lib.hid (forV_nil HK.out)
          generalize endV N xs true = H at *
          generalize endV N xs false = L0 at *
          replace hb5 := below_trans hbel hb5
          clear hbel
          have hHH : (H == H) = true := by simp
          obtain ⟨c0, c1⟩ := (HO.out _ hb5).two
          cases z
          · obtain rfl := HZ.out rfl
            go_wp2_with fail
            clear c0 c1
            refine (as_int HN.out (implPolicyFor_any N R cR xs none 0 [] s k _ (HR3.out _ hb5) hu (by omega) (by intro k u h; simp [iz, qz] at h) (by simp))).mono ?_
            rintro e w6 ⟨rfl, hb6⟩
            go_wp2
            go_ret
            exact ⟨rfl, below_trans hbw (below_trans hb5 hb6)⟩
          · go_wp2_with fail
            clear c0 c1
            refine (as_int HN.out (implPolicyFor_any N R cR xs none 0 [] s k _ (HR3.out _ hb5) hu (by omega) (by intro k u h; simp [iz, qz] at h) (by simp))).mono ?_
            rintro e w6 ⟨rfl, hb6⟩
            go_wp2
            go_ret
            exact ⟨rfl, below_trans hbw (below_trans hb5 hb6)⟩
end Go.Proofs.Ytipcjofmplpffaa
