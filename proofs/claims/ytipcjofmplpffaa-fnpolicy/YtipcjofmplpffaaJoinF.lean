import Derived.Test.YtipcjofmplpffaaJoinD
import Derived.Test.YtipcjofmplpffaaJoinA
import Derived.Test.YtipcjofmplpffaaCur
import Derived.Test.YtipcjofmplpffaaJoinC

/-
  What is drawn for the law of setting and dropping an entry.
-/
namespace Go.Proofs.Ytipcjofmplpffaa
open Go.RowKit

section
variable {w W W' : World} {g lx : Nat} {A : Option Addr} {n c M M' : Nat} {N : Int} {u : Value} {xs : List Nat} {v : Value} {ps : List Pn}
theorem punct_dq (q : DQ w W g lx A n c M N u xs v ps) (hn : n ≤ 1048576) (hm : M ≤ 1099511620000) :
    Calls Try.prog 42 #[.pointer (some ⟨g, 0, none⟩), .agg #[.int .i64 N, u]] W fun e w' => ∃ a b c' d : Int, e = .returned (pv a b c' d) ∧ DQ w w' g lx A n c (M + 12) N u xs v ps ∧ W.grownBy w' (some g) :=
  (punct_any g A n c M N u W q.cur hn hm).mono fun _ _ ⟨a, b, c', d, he, hC, hG⟩ => ⟨a, b, c', d, he, q.far hG hC, hG⟩
theorem DQ.ret2 {a b c' d : Int} (q : DQ w W g lx A n c M N u xs v ps) (ho : Own W (w.heap.size + 1) 29 [.int .i64 0, .int .i64 0, .int .i64 0, .int .i64 0]) (hg : w.heap.size + 1 < g) (hu : U64 xs) (hx : xs.length ≤ 9) :
    let W2 := (((((W.setCell ⟨w.heap.size, 0, none⟩ (.int .i64 N)).setCell ⟨w.heap.size, 1, none⟩ u).setCell ⟨w.heap.size + 1, 0, none⟩ (.int .i64 a)).setCell ⟨w.heap.size + 1, 1, none⟩ (.int .i64 b)).setCell ⟨w.heap.size + 1, 2, none⟩ (.int .i64 c')).setCell ⟨w.heap.size + 1, 3, none⟩ (.int .i64 d)
    (W2.cell? ⟨w.heap.size, 0, none⟩ = some (.int .i64 N) ∧ W2.cell? ⟨w.heap.size, 1, none⟩ = some u) ∧
    (W2.cell? ⟨w.heap.size + 1, 0, none⟩ = some (.int .i64 a) ∧ W2.cell? ⟨w.heap.size + 1, 1, none⟩ = some (.int .i64 b) ∧ W2.cell? ⟨w.heap.size + 1, 2, none⟩ = some (.int .i64 c') ∧ W2.cell? ⟨w.heap.size + 1, 3, none⟩ = some (.int .i64 d)) ∧
      LatNew w W2 u xs ∧ W2.ownsRow w.heap.size 29 4 v ps.length (iz (qz ps)) := by
  intro W2
  have hE := (q.o.set 0 (.int .i64 N)).set 1 u
  simp only [List.set_cons_succ, List.set_cons_zero] at hE
  have hE2 := (((hE.far (p := ⟨w.heap.size + 1, 0, none⟩) (by simp) (.int .i64 a)).far (p := ⟨w.heap.size + 1, 1, none⟩) (by simp) (.int .i64 b)).far (p := ⟨w.heap.size + 1, 2, none⟩) (by simp) (.int .i64 c')).far (p := ⟨w.heap.size + 1, 3, none⟩) (by simp) (.int .i64 d)
  have hF := ((((ho.far (p := ⟨w.heap.size, 0, none⟩) (by simp) (.int .i64 N)).far (p := ⟨w.heap.size, 1, none⟩) (by simp) u).set 0 (.int .i64 a)).set 1 (.int .i64 b)).set 2 (.int .i64 c') |>.set 3 (.int .i64 d)
  have e1 := owns_lt q.r (g := w.heap.size) (by omega)
  have e2 := owns_lt q.p (g := w.heap.size) (by omega)
  have f1 := owns_lt q.r (g := w.heap.size + 1) (by omega)
  have f2 := owns_lt q.p (g := w.heap.size + 1) (by omega)
  refine ⟨hE2.two, ⟨hF.cell 0, hF.cell 1, hF.cell 2, hF.cell 3⟩, ⟨hu, hx, ?_, ?_⟩, ?_⟩
  · exact owns_base (owns_far (owns_far (owns_far (owns_far (owns_far (owns_far q.r (only_set (World.grownBy.refl W _)) e1) (only_set (World.grownBy.refl _ _)) e1) (only_set (World.grownBy.refl _ _)) f1) (only_set (World.grownBy.refl _ _)) f1) (only_set (World.grownBy.refl _ _)) f1) (only_set (World.grownBy.refl _ _)) f1) (by omega)
  · exact (((((q.B.setCell (Nat.le_refl _) _).setCell (Nat.le_refl _) _).setCell (by show w.heap.size ≤ w.heap.size + 1; omega) _).setCell (by show w.heap.size ≤ w.heap.size + 1; omega) _).setCell (by show w.heap.size ≤ w.heap.size + 1; omega) _).setCell (by show w.heap.size ≤ w.heap.size + 1; omega) _
  · exact owns_base (owns_far (owns_far (owns_far (owns_far (owns_far (owns_far q.p (only_set (World.grownBy.refl W _)) e2) (only_set (World.grownBy.refl _ _)) e2) (only_set (World.grownBy.refl _ _)) f2) (only_set (World.grownBy.refl _ _)) f2) (only_set (World.grownBy.refl _ _)) f2) (only_set (World.grownBy.refl _ _)) f2) (by omega)
end

set_option maxRecDepth 100000 in
set_option maxHeartbeats 4000000 in
theorem drawPolSet_any (A : Option Addr) (n c : Nat) (w : World) (hA : Byt w A n w.heap.size) (hn : n ≤ 1048576) :
    Calls Try.prog 12 #[.slice A n c] w fun e w' => ∃ N u xs v ps a b c' d, e = .returned (.tuple #[.agg #[.int .i64 N, u], v, pv a b c' d]) ∧ LatNew w w' u xs ∧ w'.ownsRow w.heap.size 29 4 v ps.length (iz (qz ps)) ∧ ps.length ≤ 13 := by
  go_enter Try.func12, Try.ntmps12
  go_wp2_with fail
  refine (l01Open_any A n c _ (by have := hA.below (below_trans (below_alloc w (.cells #[.int .i64 0, .slice none 0 0] 26)) (below_alloc _ (.cells #[.int .i64 0, .int .i64 0, .int .i64 0, .int .i64 0] 29))); exact fun k hk => by obtain ⟨ad, b, e, hl, r⟩ := this k hk; exact ⟨ad, b, e, by simp; omega, r⟩) hn).mono ?_
  rintro e w1 ⟨g, hg, rfl, hC, hB1⟩
  obtain ⟨hO, hP, hB⟩ := box_two (cs := [.int .i64 0, .slice none 0 0]) (ds := [.int .i64 0, .int .i64 0, .int .i64 0, .int .i64 0]) hB1
  simp only [World.size_alloc] at hg
  clear hB1
  go_wp2_with fail
  refine (badLat_any g A n c 0 _ hC hn (by omega)).mono ?_
  rintro e w2 ⟨v, N, xs, rfl, ⟨hu, hx, r, rfl, hrow, hrg⟩, hC2, hG2⟩
  obtain ⟨R, cR, rfl, _⟩ := owns_rd hrow
  have hgl := hC.lt
  have hgl2 := hC2.lt
  have hF := RdF.of hrow hrg
  have hB2 := below_alloc w2 (.cells #[.int .i64 N, .slice R xs.length cR] 26)
  have hq : DQ w (w2.alloc (.cells #[.int .i64 N, .slice R xs.length cR] 26)) g w2.heap.size A n c (0 + 6) N (.slice R xs.length cR) xs (.slice none 0 0) [] :=
    ⟨(own_far hO hG2 (by omega)).alloc _, Own.new w2 _ [.int .i64 N, .slice R xs.length cR], owns_base (hrow.alloc _) (by omega), ⟨by simp [iz, qz], .inl (by simp)⟩, below_trans (below_only_new hB hG2 (by omega)) hB2, hC2.grow hB2, by omega, by omega⟩
  have hP2 := (own_far hP hG2 (by omega)).alloc (.cells #[.int .i64 N, .slice R xs.length cR] 26)
  have hF3 := hF.grow hB2
  clear hO hB hG2 hC hC2 hrow hrg hF hB2 hP
  have HQ := Lib.hid hq
  have HP2 := Lib.hid hP2
  obtain ⟨c0, c1⟩ := hq.l.two
  clear hq hP2
  go_wp2_with fail
  refine (badPolicy_any g A n c (0 + 6) N R cR xs _ HQ.out.cur hn (by omega) hF3 hu (by omega)).mono ?_
  rintro e w4 ⟨v, ps, rfl, r4, hps, hC4, hG4⟩
  have q4 := HQ.out.far hG4 hC4
  have q4 : DQ w w4 g w2.heap.size A n c (0 + 6 + 140) N (.slice R xs.length cR) xs v ps := ⟨q4.o, q4.l, q4.r, owns_base r4 (by have := HQ.out.cur.lt; omega), q4.B, q4.cur, q4.hg, q4.hl⟩
  have HP4 := Lib.hid (own_far HP2.out hG4 (by omega))
  clear HQ hF3 r4 hC4 hG4 c0 c1 HP2
  generalize w2.heap.size = lx at *
  obtain ⟨m, hm⟩ : ∃ m, xs.length = m := ⟨_, rfl⟩
  rw [hm] at q4
  have Q4 := Lib.hid q4
  obtain ⟨c0, c1⟩ := q4.l.two
  clear q4
  go_wp2_with fail
  go_region_with (go_at_call 42; refine (punct_dq Q4.out.drew hn (by omega)).mono ?_; rintro e w5 ⟨a, b, c', d, rfl, q5, hG5⟩; have Q5 := Lib.hid q5; have hP5 := own_far HP4.out (grown_trans (grownBy_of (Below.refl w4.heap.size w4).drew (some g)) hG5) (by omega); have P5 := Lib.hid hP5; have k0 := q5.l.two.1; have k1 := q5.l.two.2; have y0 := q5.o.two.1; have y1 := q5.o.two.2; have f0 := q5.o.free 0; have f1 := q5.o.free 1; have z0 := hP5.four.1; have z1 := hP5.four.2.1; have z2 := hP5.four.2.2.1; have z3 := hP5.four.2.2.2; have zf0 := hP5.free 0; have zf1 := hP5.free 1; have zf2 := hP5.free 2; have zf3 := hP5.free 3; clear q5 hP5)
  all_goals
    obtain ⟨⟨e0, e1⟩, ⟨e2, e3, e4, e5⟩, hL, hPP⟩ := Q5.out.ret2 (a := a) (b := b) (c' := c') (d := d) P5.out (by omega) hu hx
    have HE := Lib.hid (And.intro e0 (And.intro e1 (And.intro e2 (And.intro e3 (And.intro e4 e5)))))
    have HL := Lib.hid hL
    have HPP := Lib.hid hPP
    clear e0 e1 e2 e3 e4 e5 hL hPP
    go_wp2
    obtain ⟨e0, e1, e2, e3, e4, e5⟩ := HE.out
    exact bodyPost_ret (v := .tuple #[.agg #[.int .i64 N, .slice R m cR], v, pv a b c' d]) (by simp [results, Try.results12, go_sem, e0, e1, e2, e3, e4, e5]) rfl ⟨_, _, xs, _, ps, _, _, _, _, rfl, HL.out, HPP.out, hps⟩
end Go.Proofs.Ytipcjofmplpffaa

/-
  laws.pick and laws.samePuncts, for the law of setting and dropping an entry.
-/
namespace Go.Proofs.Ytipcjofmplpffaa
open Go.RowKit

set_option maxHeartbeats 1000000 in
theorem lawPick3_any (A : Option Addr) (n c : Nat) (w : World) (hA : Byt w A n w.heap.size) (hn : n ≤ 1048576) :
    Calls Try.prog 15 #[.slice A n c, .int .i64 3, .int .i64 16] w fun e w' => ∃ r : Int, e = .returned (.int .i64 r) ∧ Below w.heap.size w w' := by
  have HA := Lib.hid (fun W (h : Below w.heap.size w W) => hA.below h)
  clear hA
  by_cases h0 : n = 0
  · subst h0
    go_enter Try.func15, Try.ntmps15
    go_wp2
    go_ret
    exact ⟨0, rfl, Below.refl _ _⟩
  · have hn1 : ((n : Int) == 0) = false := by simp; omega
    have hn2 : (0 : Int) < (n : Int) := by omega
    obtain ⟨ad, b0, rfl, _⟩ := HA.out w (Below.refl _ _) 0 (by omega)
    go_enter Try.func15, Try.ntmps15
    go_wp2
    go_loopw [7, 8] (fun v i wr => ∃ k x : Nat, v = .int .i64 x ∧ i = .int .i64 k ∧ Hid ((k = 0 ∧ x = 0) ∨ (k = 1 ∧ x ≤ 255) ∨ (k = 2 ∧ x ≤ 8160) ∨ (k = 3 ∧ x ≤ 253215)) ∧ Below w.heap.size w wr) (fun _ i _ => 3 - (intOf i).toNat)
    case atStart => exact ⟨0, 0, rfl, rfl, Lib.hid (by omega), Below.refl _ _⟩
    case round =>
      obtain ⟨k, x, rfl, rfl, hkx, hbr⟩ := hrel
      have hk3 : k ≤ 3 := by have := hkx.out; omega
      have hx3 : x ≤ 253215 := by have := hkx.out; omega
      by_cases hlt : k < 3
      · have him : (3 + k) % n < n := Nat.mod_lt _ (by omega)
        obtain ⟨ad', b, e', hl, hb, hc⟩ := HA.out wr hbr ((3 + k) % n) him
        obtain rfl : ad = ad' := by injection e'
        clear e'
        have hi0 : (0 : Int) ≤ (3 + (k : Int)) % (n : Int) := Int.emod_nonneg _ (by omega)
        have hi1 : (3 + (k : Int)) % (n : Int) < (n : Int) := Int.emod_lt_of_pos _ hn2
        go_wp2
        go_roundw
        case rel => exact ⟨k + 1, 31 * x + b, by go_num, by go_num, Lib.hid (by have := hkx.out; omega), hbr⟩
        case measure => simp [intOf]; omega
      · go_wp2
        go_ret
        exact ⟨_, rfl, hbr⟩

set_option maxHeartbeats 1000000 in
theorem samePuncts_same (A B : Option Addr) (ca cb : Nat) (ps : List Pn) (w : World) (hA : Rd w A (iz (qz ps))) (hB : Rd w B (iz (qz ps))) (hn : ps.length ≤ 1048576) :
    Calls Try.prog 21 #[.slice A ps.length ca, .slice B ps.length cb] w fun e w' => e = .returned (.bool true) ∧ Below w.heap.size w w' := by
  have HA := Lib.hid hA
  have HB := Lib.hid hB
  clear hA hB
  have hne : ((ps.length : Int) != (ps.length : Int)) = false := by simp
  go_enter Try.func21, Try.ntmps21
  go_wp2
  go_loopw [5] (fun i wr => ∃ k : Nat, k ≤ ps.length ∧ i = .int .i64 k ∧ Below w.heap.size w wr) (fun i _ => ps.length - (intOf i).toNat)
  case atStart => exact ⟨0, Nat.zero_le _, rfl, Below.refl _ _⟩
  case round =>
    obtain ⟨k, hk, rfl, hbel⟩ := hrel
    by_cases hlt : k < ps.length
    · obtain ⟨ab, ao, rfl, a0, a1, a2, a3⟩ := quad_cells HA.out hbel hlt
      obtain ⟨bb, bo, rfl, b0, b1, b2, b3⟩ := quad_cells HB.out hbel hlt
      generalize qat ps k = q at *
      obtain ⟨y0, y1, y2, y3⟩ := q
      simp only at a0 a1 a2 a3 b0 b1 b2 b3
      go_wp2
      refine wp_region_bel (by kernel_rfl) (by kernel_rfl) ?_
      repeat (go_big_quiet_step (fail))
      refine wpQuiet_nil ?_
      rintro _ ⟨u, rfl⟩
      go_wp2
      go_roundw
      case rel => exact ⟨k + 1, by omega, by go_num, below_trans hbel u.ok⟩
      case measure => simp [intOf]; omega
    · go_wp2
      go_ret
      exact ⟨rfl, hbel⟩
end Go.Proofs.Ytipcjofmplpffaa

/-
  The law: a label set for a key prefix applies to all keys with that prefix unless a longer prefix is set; dropping an entry restores the previous labels.
-/
namespace Go.Proofs.Ytipcjofmplpffaa
open Go.RowKit

section
variable {N : Int} {xs : List Nat} {ps : List Pn} {p : Pn} {k : Int}
theorem set_okL (h : setOk N xs ps p) : okL N xs (setP ps p) := ⟨h.1.1, set_ok h.1.2 h.2.1 h.2.2⟩
theorem pol_here (h : setOk N xs ps p) (hh : hasP p p.1 k) (hl : ¬ longerP ps p k) : forV N xs (setP ps p) p.1 k = p.2.2.2 := by
  rw [← forV_yes ⟨set_okL h, ⟨hh.1.1, hh.1.2.1⟩, hh.2.2.1⟩]
  exact for_set_here h.1.2 h.2.1 h.2.2 hh hl
theorem pol_else (h : setOk N xs ps p) (hh : ¬ hasP p p.1 k ∨ longerP ps p k) : forV N xs (setP ps p) p.1 k = forV N xs ps p.1 k := by
  have hp := h.2.1.2.1
  by_cases hk : 0 ≤ k ∧ k ≤ 15
  · rw [← forV_yes ⟨set_okL h, ⟨hp.1, hp.2.1⟩, hk⟩, ← forV_yes ⟨h.1, ⟨hp.1, hp.2.1⟩, hk⟩]
    exact for_set_else h.1.2 h.2.1 h.2.2 hh
  · rw [← forV_no (fun a => hk a.2.2), ← forV_no (fun a => hk a.2.2)]
theorem pol_drop (h : setOk N xs ps p) : dropOk N xs (setP ps p) p :=
  ⟨set_okL h, fun e => (without_same_length.1 e) p (mem_set.2 (.inl rfl)) (same_refl p)⟩
theorem pol_back (h : setOk N xs ps p) (hn : ∀ q ∈ ps, ¬ sameP q p) : dropV N xs (setP ps p) p = ps := by
  rw [dropV_yes (pol_drop h), drop_set ps p h.1.2.2.2, without_none hn]
theorem pol_len (h : setOk N xs ps p) : (setP ps p).length ≤ 12 := (set_okL h).2.1
end
/-- what the loop has found so far -/
def longTo (ps : List Pn) (a b k : Int) (j : Nat) : Prop := ∃ t, t < j ∧ b < (qat ps t).2.1 ∧ hasP (qat ps t) a k
theorem longTo_succ {ps : List Pn} {a b k : Int} {j : Nat} : longTo ps a b k (j + 1) ↔ longTo ps a b k j ∨ (b < (qat ps j).2.1 ∧ hasP (qat ps j) a k) := by
  constructor
  · rintro ⟨t, ht, h⟩
    by_cases e : t = j
    · subst e; exact .inr h
    · exact .inl ⟨t, by omega, h⟩
  · rintro (⟨t, ht, h⟩ | h)
    · exact ⟨t, by omega, h⟩
    · exact ⟨j, by omega, h⟩
theorem longTo_all {ps : List Pn} {a b c d k : Int} : longTo ps a b k ps.length ↔ longerP ps (a, b, c, d) k := by
  constructor
  · rintro ⟨t, ht, h⟩; exact ⟨_, qat_mem ht, h⟩
  · rintro ⟨q, hq, h⟩; obtain ⟨t, ht, rfl⟩ := mem_qat hq; exact ⟨t, ht, h⟩
theorem noSame_succ {ps : List Pn} {p : Pn} {j : Nat} (h : ∀ t, t < j → ¬ sameP (qat ps t) p) (hj : ¬ sameP (qat ps j) p) : ∀ t, t < j + 1 → ¬ sameP (qat ps t) p := fun t ht => by
  by_cases e : t = j
  · subst e; exact hj
  · exact h t (by omega)

set_option maxRecDepth 100000 in
set_option maxHeartbeats 8000000 in
theorem fnPolicy_walk (A : Option Addr) (ca n : Nat) (w : World) (hA : Byt w A n w.heap.size) (hn : n ≤ 9223372036854775807) :
    Calls Try.prog 3 #[.slice A n ca] w fun e w' => e = .returned (.bool true) ∧ Below w.heap.size w w' := by
  by_cases hb : 1048576 < n
  · go_enter Try.func3, Try.ntmps3
    go_wp2_with fail
    refine (big_any A n ca true _ (by simpa using hb) hn).mono ?_
    rintro e w' ⟨rfl, rfl⟩
    go_wp2
    go_ret
    exact ⟨rfl, Below.refl _ _⟩
  · go_enter Try.func3, Try.ntmps3
    go_wp2_with fail
    refine (big_any A n ca false _ (by simpa using hb) hn).mono ?_
    rintro e w' ⟨rfl, rfl⟩
    go_wp2_with fail
    have hn' : n ≤ 1048576 := by omega
    have HA := Lib.hid (fun W (h : Below w.heap.size w W) => (show Byt W A n W.heap.size from fun k hk => by obtain ⟨ad, b, e, hl, r⟩ := hA.below h k hk; exact ⟨ad, b, e, by have := h.size; omega, r⟩))
    refine (drawPolSet_any A n ca _ hA hn').mono ?_
    rintro e w1 ⟨N, u, xs, v, ps, a, b, c, d, rfl, ⟨hu, hx9, hrow, hb1⟩, hp, hps⟩
    obtain ⟨R, cR, rfl, hR⟩ := owns_rd hrow
    obtain ⟨B, cb, rfl, hB⟩ := owns_rd hp
    have HR := Lib.hid (fun W (h : Below w1.heap.size w1 W) => hR.below h)
    have HB := Lib.hid (fun W (h : Below w1.heap.size w1 W) => hB.below h)
    clear hR hrow hB hp hA hb hn
    obtain ⟨ok, hok⟩ : ∃ ok, tf (setOk N xs ps (a, b, c, d)) = ok := ⟨_, rfl⟩
    have hb0 := below_trans (below_alloc w1 (.cells #[.int .i64 N, .slice R xs.length cR] 26)) (below_alloc _ (.cells #[.int .i64 a, .int .i64 b, .int .i64 c, .int .i64 d] 29))
    go_wp2_with fail
    refine (specPolicySet_any N R cR xs B cb ps a b c d _ (HR.out _ hb0) hu (by omega) (HB.out _ hb0) (by omega)).mono ?_
    rintro e w2 ⟨v0, rfl, _, hb2⟩
    rw [hok]
    obtain ⟨hO, hP, hb2'⟩ := box_two (cs := [.int .i64 N, .slice R xs.length cR]) (ds := [.int .i64 a, .int .i64 b, .int .i64 c, .int .i64 d]) hb2
    clear hb2 hb0
    obtain ⟨c0, c1⟩ := hO.two
    obtain ⟨d0, d1, d2, d3⟩ := hP.four
    go_wp2_with fail
    clear c0 c1 d0 d1 d2 d3
    refine (implPolicySet_any N R cR xs B cb ps a b c d _ (HR.out _ hb2') hu (by omega) (HB.out _ hb2') (by omega)).mono ?_
    rintro e w3 ⟨v1, rfl, hr1, hb3⟩
    rw [hok]
    replace hO := hO.grow hb3
    replace hP := hP.grow hb3
    replace hb2' := below_trans hb2' hb3
    clear hb3
    cases ok
    · go_wp2
      go_ret
      exact ⟨rfl, below_trans hb1 hb2'⟩
    have hS : setOk N xs ps (a, b, c, d) := by
      by_cases h : setOk N xs ps (a, b, c, d)
      · exact h
      · rw [← tf_no h] at hok; cases hok
    rw [setV_yes hS] at hr1
    obtain ⟨C, cc, rfl, hC⟩ := owns_rd hr1
    have hlen := pol_len hS
    obtain ⟨ms, hms⟩ : ∃ ms, setP ps (a, b, c, d) = ms := ⟨_, rfl⟩
    rw [hms] at hC hlen
    have HMS := Lib.hid hms
    have HS := Lib.hid hS
    rw [hms]
    clear hr1 hok hS hms
    have HO := Lib.hid (fun W (h : Below w3.heap.size w3 W) => hO.grow h)
    have HP := Lib.hid (fun W (h : Below w3.heap.size w3 W) => hP.grow h)
    have HR3 := Lib.hid (fun W (h : Below w3.heap.size w3 W) => HR.out W (below_trans hb2' h))
    have HB3 := Lib.hid (fun W (h : Below w3.heap.size w3 W) => HB.out W (below_trans hb2' h))
    have HC3 := Lib.hid (fun W (h : Below w3.heap.size w3 W) => hC.below h)
    have hbw := below_trans hb1 hb2'
    have HA3 := Lib.hid (HA.out _ hbw)
    clear hO hP HR HB hb2' hb1 hC HA
    generalize w1.heap.size = lx at *
    go_wp2_with fail
    refine (lawPick3_any A n ca _ HA3.out hn').mono ?_
    rintro e w4 ⟨k, rfl, hb4⟩
    clear HA3
    go_wp2
    go_loopw [11, 12, 13] (fun lo he i wr => ∃ (j : Nat) (z1 z2 : Bool), j ≤ ps.length ∧ i = .int .i64 j ∧ lo = .bool z1 ∧ he = .bool z2 ∧ Hid ((z1 = true ↔ longTo ps a b k j) ∧ (z2 = false → ∀ t, t < j → ¬ sameP (qat ps t) (a, b, c, d))) ∧ Below w3.heap.size w3 wr) (fun _ _ i _ => ps.length - (intOf i).toNat)
    case atStart => exact ⟨0, false, false, Nat.zero_le _, rfl, rfl, rfl, Lib.hid ⟨by simp [longTo], fun _ t ht => by omega⟩, hb4⟩
    case round =>
      obtain ⟨j, z1, z2, hj, rfl, rfl, rfl, hz, hbel⟩ := hrel
      by_cases hlt : j < ps.length
      · obtain ⟨pb, off, rfl, c0, c1, c2, c3⟩ := quad_cells (HB3.out _ (Below.refl _ _)) hbel hlt
        have HL := Lib.hid (longTo_succ (ps := ps) (a := a) (b := b) (k := k) (j := j))
        have HN := Lib.hid (fun h1 h2 => noSame_succ (ps := ps) (p := (a, b, c, d)) (j := j) h1 h2)
        have p0 : ∀ x : Bel wr, x.w.cell? ⟨lx + 1, 0, none⟩ = some (.int .i64 a) := fun x => (HP.out _ (below_trans hbel x.ok)).four.1
        have p1 : ∀ x : Bel wr, x.w.cell? ⟨lx + 1, 1, none⟩ = some (.int .i64 b) := fun x => (HP.out _ (below_trans hbel x.ok)).four.2.1
        have p2 : ∀ x : Bel wr, x.w.cell? ⟨lx + 1, 2, none⟩ = some (.int .i64 c) := fun x => (HP.out _ (below_trans hbel x.ok)).four.2.2.1
        have p3 : ∀ x : Bel wr, x.w.cell? ⟨lx + 1, 3, none⟩ = some (.int .i64 d) := fun x => (HP.out _ (below_trans hbel x.ok)).four.2.2.2
        generalize qat ps j = q at c0 c1 c2 c3 HL HN
        obtain ⟨q0, q1, q2, q3⟩ := q
        simp only at c0 c1 c2 c3
        cases z1
        · by_cases hg : b < q1
          · obtain ⟨y, hy⟩ : ∃ y, decide (hasP (q0, q1, q2, q3) a k) = y := ⟨_, rfl⟩
            have HY := Lib.hid hy
            have HF1 := Lib.hid (show y = true ↔ longTo ps a b k (j + 1) by
              rw [HL.out, ← hz.out.1, ← hy]; simp [hg])
            clear hy
            go_wp2
            refine wp_region_bel (by kernel_rfl) (by kernel_rfl) ?_
            repeat (go_big_quiet_step ((go_at_call 16; exact bel_of _ (specPunctHas_is HY.out _))))
            refine wpQuiet_nil ?_
            rintro _ ⟨u, rfl⟩
            clear HY hg HL
            have hbel5 := below_trans hbel u.ok
            have b0 : ∀ x : Bel u.w, x.w.cell? ⟨pb, off + j * 4, none⟩ = some (.int .i64 q0) := fun x => c0 ⟨x.w, below_trans u.ok x.ok⟩
            have b1 : ∀ x : Bel u.w, x.w.cell? ⟨pb, off + j * 4 + 1, none⟩ = some (.int .i64 q1) := fun x => c1 ⟨x.w, below_trans u.ok x.ok⟩
            have b2 : ∀ x : Bel u.w, x.w.cell? ⟨pb, off + j * 4 + 2, none⟩ = some (.int .i64 q2) := fun x => c2 ⟨x.w, below_trans u.ok x.ok⟩
            have e0 : ∀ x : Bel u.w, x.w.cell? ⟨lx + 1, 0, none⟩ = some (.int .i64 a) := fun x => p0 ⟨x.w, below_trans u.ok x.ok⟩
            have e1 : ∀ x : Bel u.w, x.w.cell? ⟨lx + 1, 1, none⟩ = some (.int .i64 b) := fun x => p1 ⟨x.w, below_trans u.ok x.ok⟩
            have e2 : ∀ x : Bel u.w, x.w.cell? ⟨lx + 1, 2, none⟩ = some (.int .i64 c) := fun x => p2 ⟨x.w, below_trans u.ok x.ok⟩
            clear c0 c1 c2 c3 p0 p1 p2 p3
            cases z2
            · by_cases g0 : q0 = a
              · have g0' : (q0 == a) = true := by simp [g0]
                by_cases g1 : q1 = b
                · have g1' : (q1 == b) = true := by simp [g1]
                  have HG := Lib.hid (show (q2 == c) = false → ∀ t, t < j + 1 → ¬ sameP (qat ps t) (a, b, c, d) from fun h => HN.out (hz.out.2 rfl) (fun hs => by have := hs.2.2; simp at h this; exact h this))
                  clear hz g0 g1 HN
                  go_wp2
                  refine wp_region_bel (by kernel_rfl) (by kernel_rfl) ?_
                  repeat (go_big_quiet_step (fail))
                  refine wpQuiet_nil ?_
                  rintro _ ⟨x, rfl⟩
                  go_wp2
                  go_roundw
                  case rel => exact ⟨j + 1, _, _, by omega, by go_num, rfl, rfl, Lib.hid ⟨by first | exact HF1.out | simpa using HF1.out, by first | exact HG.out | simpa using HG.out⟩, below_trans hbel5 x.ok⟩
                  case measure => simp [intOf]; omega
                · have g1' : (q1 == b) = false := by simp [g1]
                  have HG := Lib.hid (show false = false → ∀ t, t < j + 1 → ¬ sameP (qat ps t) (a, b, c, d) from fun _ => HN.out (hz.out.2 rfl) (fun hs => g1 hs.2.1))
                  clear hz g0 g1 HN
                  go_wp2
                  refine wp_region_bel (by kernel_rfl) (by kernel_rfl) ?_
                  repeat (go_big_quiet_step (fail))
                  refine wpQuiet_nil ?_
                  rintro _ ⟨x, rfl⟩
                  go_wp2
                  go_roundw
                  case rel => exact ⟨j + 1, _, _, by omega, by go_num, rfl, rfl, Lib.hid ⟨by first | exact HF1.out | simpa using HF1.out, by first | exact HG.out | simpa using HG.out⟩, below_trans hbel5 x.ok⟩
                  case measure => simp [intOf]; omega
              · have g0' : (q0 == a) = false := by simp [g0]
                have HG := Lib.hid (show false = false → ∀ t, t < j + 1 → ¬ sameP (qat ps t) (a, b, c, d) from fun _ => HN.out (hz.out.2 rfl) (fun hs => g0 hs.1))
                clear hz g0 HN
                go_wp2
                refine wp_region_bel (by kernel_rfl) (by kernel_rfl) ?_
                repeat (go_big_quiet_step (fail))
                refine wpQuiet_nil ?_
                rintro _ ⟨x, rfl⟩
                go_wp2
                go_roundw
                case rel => exact ⟨j + 1, _, _, by omega, by go_num, rfl, rfl, Lib.hid ⟨by first | exact HF1.out | simpa using HF1.out, by first | exact HG.out | simpa using HG.out⟩, below_trans hbel5 x.ok⟩
                case measure => simp [intOf]; omega
            · have HG := Lib.hid (show true = false → ∀ t, t < j + 1 → ¬ sameP (qat ps t) (a, b, c, d) from fun h => by cases h)
              clear hz HN
              go_wp2
              refine wp_region_bel (by kernel_rfl) (by kernel_rfl) ?_
              repeat (go_big_quiet_step (fail))
              refine wpQuiet_nil ?_
              rintro _ ⟨x, rfl⟩
              go_wp2
              go_roundw
              case rel => exact ⟨j + 1, _, _, by omega, by go_num, rfl, rfl, Lib.hid ⟨by first | exact HF1.out | simpa using HF1.out, by first | exact HG.out | simpa using HG.out⟩, below_trans hbel5 x.ok⟩
              case measure => simp [intOf]; omega
          · have HF1 := Lib.hid (show false = true ↔ longTo ps a b k (j + 1) by
              rw [HL.out, ← hz.out.1]; simp [hg])
            have HG0 := Lib.hid hg
            go_wp2
            have hg2 : ¬ b < q1 := by have := HG0.out; omega
            have hg3 : (decide (b < q1)) = false := decide_eq_false hg2
            refine wp_region_bel (by kernel_rfl) (by kernel_rfl) ?_
            repeat (go_big_quiet_step (fail))
            refine wpQuiet_nil ?_
            rintro _ ⟨u, rfl⟩
            clear hg hg2 hg3 HG0 HL
            have hbel5 := below_trans hbel u.ok
            have b0 : ∀ x : Bel u.w, x.w.cell? ⟨pb, off + j * 4, none⟩ = some (.int .i64 q0) := fun x => c0 ⟨x.w, below_trans u.ok x.ok⟩
            have b1 : ∀ x : Bel u.w, x.w.cell? ⟨pb, off + j * 4 + 1, none⟩ = some (.int .i64 q1) := fun x => c1 ⟨x.w, below_trans u.ok x.ok⟩
            have b2 : ∀ x : Bel u.w, x.w.cell? ⟨pb, off + j * 4 + 2, none⟩ = some (.int .i64 q2) := fun x => c2 ⟨x.w, below_trans u.ok x.ok⟩
            have e0 : ∀ x : Bel u.w, x.w.cell? ⟨lx + 1, 0, none⟩ = some (.int .i64 a) := fun x => p0 ⟨x.w, below_trans u.ok x.ok⟩
            have e1 : ∀ x : Bel u.w, x.w.cell? ⟨lx + 1, 1, none⟩ = some (.int .i64 b) := fun x => p1 ⟨x.w, below_trans u.ok x.ok⟩
            have e2 : ∀ x : Bel u.w, x.w.cell? ⟨lx + 1, 2, none⟩ = some (.int .i64 c) := fun x => p2 ⟨x.w, below_trans u.ok x.ok⟩
            clear c0 c1 c2 c3 p0 p1 p2 p3
            cases z2
            · by_cases g0 : q0 = a
              · have g0' : (q0 == a) = true := by simp [g0]
                by_cases g1 : q1 = b
                · have g1' : (q1 == b) = true := by simp [g1]
                  have HG := Lib.hid (show (q2 == c) = false → ∀ t, t < j + 1 → ¬ sameP (qat ps t) (a, b, c, d) from fun h => HN.out (hz.out.2 rfl) (fun hs => by have := hs.2.2; simp at h this; exact h this))
                  clear hz g0 g1 HN
                  go_wp2
                  refine wp_region_bel (by kernel_rfl) (by kernel_rfl) ?_
                  repeat (go_big_quiet_step (fail))
                  refine wpQuiet_nil ?_
                  rintro _ ⟨x, rfl⟩
                  go_wp2
                  go_roundw
                  case rel => exact ⟨j + 1, _, _, by omega, by go_num, rfl, rfl, Lib.hid ⟨by first | exact HF1.out | simpa using HF1.out, by first | exact HG.out | simpa using HG.out⟩, below_trans hbel5 x.ok⟩
                  case measure => simp [intOf]; omega
                · have g1' : (q1 == b) = false := by simp [g1]
                  have HG := Lib.hid (show false = false → ∀ t, t < j + 1 → ¬ sameP (qat ps t) (a, b, c, d) from fun _ => HN.out (hz.out.2 rfl) (fun hs => g1 hs.2.1))
                  clear hz g0 g1 HN
                  go_wp2
                  refine wp_region_bel (by kernel_rfl) (by kernel_rfl) ?_
                  repeat (go_big_quiet_step (fail))
                  refine wpQuiet_nil ?_
                  rintro _ ⟨x, rfl⟩
                  go_wp2
                  go_roundw
                  case rel => exact ⟨j + 1, _, _, by omega, by go_num, rfl, rfl, Lib.hid ⟨by first | exact HF1.out | simpa using HF1.out, by first | exact HG.out | simpa using HG.out⟩, below_trans hbel5 x.ok⟩
                  case measure => simp [intOf]; omega
              · have g0' : (q0 == a) = false := by simp [g0]
                have HG := Lib.hid (show false = false → ∀ t, t < j + 1 → ¬ sameP (qat ps t) (a, b, c, d) from fun _ => HN.out (hz.out.2 rfl) (fun hs => g0 hs.1))
                clear hz g0 HN
                go_wp2
                refine wp_region_bel (by kernel_rfl) (by kernel_rfl) ?_
                repeat (go_big_quiet_step (fail))
                refine wpQuiet_nil ?_
                rintro _ ⟨x, rfl⟩
                go_wp2
                go_roundw
                case rel => exact ⟨j + 1, _, _, by omega, by go_num, rfl, rfl, Lib.hid ⟨by first | exact HF1.out | simpa using HF1.out, by first | exact HG.out | simpa using HG.out⟩, below_trans hbel5 x.ok⟩
                case measure => simp [intOf]; omega
            · have HG := Lib.hid (show true = false → ∀ t, t < j + 1 → ¬ sameP (qat ps t) (a, b, c, d) from fun h => by cases h)
              clear hz HN
              go_wp2
              refine wp_region_bel (by kernel_rfl) (by kernel_rfl) ?_
              repeat (go_big_quiet_step (fail))
              refine wpQuiet_nil ?_
              rintro _ ⟨x, rfl⟩
              go_wp2
              go_roundw
              case rel => exact ⟨j + 1, _, _, by omega, by go_num, rfl, rfl, Lib.hid ⟨by first | exact HF1.out | simpa using HF1.out, by first | exact HG.out | simpa using HG.out⟩, below_trans hbel5 x.ok⟩
              case measure => simp [intOf]; omega
        · have HF1 := Lib.hid (show true = true ↔ longTo ps a b k (j + 1) by
            rw [HL.out, ← hz.out.1]; simp)
          go_wp2
          refine wp_region_bel (by kernel_rfl) (by kernel_rfl) ?_
          repeat (go_big_quiet_step (fail))
          refine wpQuiet_nil ?_
          rintro _ ⟨u, rfl⟩
          clear HL
          have hbel5 := below_trans hbel u.ok
          have b0 : ∀ x : Bel u.w, x.w.cell? ⟨pb, off + j * 4, none⟩ = some (.int .i64 q0) := fun x => c0 ⟨x.w, below_trans u.ok x.ok⟩
          have b1 : ∀ x : Bel u.w, x.w.cell? ⟨pb, off + j * 4 + 1, none⟩ = some (.int .i64 q1) := fun x => c1 ⟨x.w, below_trans u.ok x.ok⟩
          have b2 : ∀ x : Bel u.w, x.w.cell? ⟨pb, off + j * 4 + 2, none⟩ = some (.int .i64 q2) := fun x => c2 ⟨x.w, below_trans u.ok x.ok⟩
          have e0 : ∀ x : Bel u.w, x.w.cell? ⟨lx + 1, 0, none⟩ = some (.int .i64 a) := fun x => p0 ⟨x.w, below_trans u.ok x.ok⟩
          have e1 : ∀ x : Bel u.w, x.w.cell? ⟨lx + 1, 1, none⟩ = some (.int .i64 b) := fun x => p1 ⟨x.w, below_trans u.ok x.ok⟩
          have e2 : ∀ x : Bel u.w, x.w.cell? ⟨lx + 1, 2, none⟩ = some (.int .i64 c) := fun x => p2 ⟨x.w, below_trans u.ok x.ok⟩
          clear c0 c1 c2 c3 p0 p1 p2 p3
          cases z2
          · by_cases g0 : q0 = a
            · have g0' : (q0 == a) = true := by simp [g0]
              by_cases g1 : q1 = b
              · have g1' : (q1 == b) = true := by simp [g1]
                have HG := Lib.hid (show (q2 == c) = false → ∀ t, t < j + 1 → ¬ sameP (qat ps t) (a, b, c, d) from fun h => HN.out (hz.out.2 rfl) (fun hs => by have := hs.2.2; simp at h this; exact h this))
                clear hz g0 g1 HN
                go_wp2
                refine wp_region_bel (by kernel_rfl) (by kernel_rfl) ?_
                repeat (go_big_quiet_step (fail))
                refine wpQuiet_nil ?_
                rintro _ ⟨x, rfl⟩
                go_wp2
                go_roundw
                case rel => exact ⟨j + 1, _, _, by omega, by go_num, rfl, rfl, Lib.hid ⟨by first | exact HF1.out | simpa using HF1.out, by first | exact HG.out | simpa using HG.out⟩, below_trans hbel5 x.ok⟩
                case measure => simp [intOf]; omega
              · have g1' : (q1 == b) = false := by simp [g1]
                have HG := Lib.hid (show false = false → ∀ t, t < j + 1 → ¬ sameP (qat ps t) (a, b, c, d) from fun _ => HN.out (hz.out.2 rfl) (fun hs => g1 hs.2.1))
                clear hz g0 g1 HN
                go_wp2
                refine wp_region_bel (by kernel_rfl) (by kernel_rfl) ?_
                repeat (go_big_quiet_step (fail))
                refine wpQuiet_nil ?_
                rintro _ ⟨x, rfl⟩
                go_wp2
                go_roundw
                case rel => exact ⟨j + 1, _, _, by omega, by go_num, rfl, rfl, Lib.hid ⟨by first | exact HF1.out | simpa using HF1.out, by first | exact HG.out | simpa using HG.out⟩, below_trans hbel5 x.ok⟩
                case measure => simp [intOf]; omega
            · have g0' : (q0 == a) = false := by simp [g0]
              have HG := Lib.hid (show false = false → ∀ t, t < j + 1 → ¬ sameP (qat ps t) (a, b, c, d) from fun _ => HN.out (hz.out.2 rfl) (fun hs => g0 hs.1))
              clear hz g0 HN
              go_wp2
              refine wp_region_bel (by kernel_rfl) (by kernel_rfl) ?_
              repeat (go_big_quiet_step (fail))
              refine wpQuiet_nil ?_
              rintro _ ⟨x, rfl⟩
              go_wp2
              go_roundw
              case rel => exact ⟨j + 1, _, _, by omega, by go_num, rfl, rfl, Lib.hid ⟨by first | exact HF1.out | simpa using HF1.out, by first | exact HG.out | simpa using HG.out⟩, below_trans hbel5 x.ok⟩
              case measure => simp [intOf]; omega
          · have HG := Lib.hid (show true = false → ∀ t, t < j + 1 → ¬ sameP (qat ps t) (a, b, c, d) from fun h => by cases h)
            clear hz HN
            go_wp2
            refine wp_region_bel (by kernel_rfl) (by kernel_rfl) ?_
            repeat (go_big_quiet_step (fail))
            refine wpQuiet_nil ?_
            rintro _ ⟨x, rfl⟩
            go_wp2
            go_roundw
            case rel => exact ⟨j + 1, _, _, by omega, by go_num, rfl, rfl, Lib.hid ⟨by first | exact HF1.out | simpa using HF1.out, by first | exact HG.out | simpa using HG.out⟩, below_trans hbel5 x.ok⟩
            case measure => simp [intOf]; omega
      · have hj' : j = ps.length := by omega
        have hz1 : z1 = true ↔ longerP ps (a, b, c, d) k := by rw [hz.out.1, hj']; exact longTo_all
        have HZ2 := Lib.hid (show z2 = false → dropV N xs ms (a, b, c, d) = ps from fun h => by
          rw [← HMS.out]; exact pol_back HS.out (fun q hq => by obtain ⟨t, ht, rfl⟩ := mem_qat hq; exact hz.out.2 h t (by omega)))
        obtain ⟨To, hTo⟩ : ∃ T, forV N xs ps a k = T := ⟨_, rfl⟩
        obtain ⟨Tn, hTn⟩ : ∃ T, forV N xs ms a k = T := ⟨_, rfl⟩
        have HH := Lib.hid (show hasP (a, b, c, d) a k → ¬ z1 = true → d = Tn from fun h1 h2 => by
          rw [← hTn, ← HMS.out]; exact (pol_here HS.out h1 (fun h => h2 (hz1.2 h))).symm)
        have HE := Lib.hid (show (¬ hasP (a, b, c, d) a k ∨ z1 = true) → To = Tn from fun h => by
          rw [← hTn, ← hTo, ← HMS.out]; exact (pol_else HS.out (h.imp id hz1.1)).symm)
        have HD := Lib.hid (show dropOk N xs ms (a, b, c, d) from HMS.out ▸ pol_drop HS.out)
        have HK := Lib.hid (show okL N xs ms from HMS.out ▸ set_okL HS.out)
        have HW := Lib.hid (show wfPl (a, b, c) from by have hN := HS.out.1.1.len; exact (good_wf (by omega) HS.out.2.1).1)
        have HTo := Lib.hid hTo
        have HTn := Lib.hid hTn
        clear hz hz1 hTo hTn HMS HS hlt hj
        obtain ⟨c0, c1⟩ := (HO.out _ hbel).two
        obtain ⟨d0, d1, d2, d3⟩ := (HP.out _ hbel).four
        go_wp2_with fail
        clear c0 c1 d0 d1 d2 d3
        refine (as_int HTo.out (implPolicyFor_any N R cR xs B cb ps a k _ (HR3.out _ hbel) hu (by omega) (HB3.out _ hbel) (by omega))).mono ?_
        rintro e w5 ⟨rfl, hbx⟩
        replace hbel := below_trans hbel hbx
        clear hbx
        obtain ⟨c0, c1⟩ := (HO.out _ hbel).two
        obtain ⟨d0, d1, d2, d3⟩ := (HP.out _ hbel).four
        go_wp2_with fail
        clear c0 c1 d0 d1 d2 d3
        refine (as_int HTn.out (implPolicyFor_any N R cR xs C cc ms a k _ (HR3.out _ hbel) hu (by omega) (HC3.out _ hbel) (by omega))).mono ?_
        rintro e w6 ⟨rfl, hbx⟩
        replace hbel := below_trans hbel hbx
        clear hbx
        clear HTo HTn
        obtain ⟨y, hy⟩ : ∃ y, decide (hasP (a, b, c, d) a k) = y := ⟨_, rfl⟩
        have HY := Lib.hid hy
        clear hy
        obtain ⟨c0, c1⟩ := (HO.out _ hbel).two
        obtain ⟨d0, d1, d2, d3⟩ := (HP.out _ hbel).four
        go_wp2_with fail
        clear c0 c1 d0 d1 d2 d3
        refine (implPunctHas_is HY.out _).mono ?_
        rintro e w7 ⟨rfl, hbx⟩
        replace hbel := below_trans hbel hbx
        clear hbx
        cases y
        · obtain rfl := HE.out (.inl (by simpa using HY.out))
          have hne : (To != To) = false := by simp
          clear HH HE
          obtain ⟨c0, c1⟩ := (HO.out _ hbel).two
          obtain ⟨d0, d1, d2, d3⟩ := (HP.out _ hbel).four
          go_wp2_with fail
          clear c0 c1 d0 d1 d2 d3
          refine (implPunctHas_is HY.out _).mono ?_
          rintro e w8 ⟨rfl, hbx⟩
          replace hbel := below_trans hbel hbx
          clear hbx
          obtain ⟨c0, c1⟩ := (HO.out _ hbel).two
          obtain ⟨d0, d1, d2, d3⟩ := (HP.out _ hbel).four
          go_wp2_with fail
          clear c0 c1 d0 d1 d2 d3
          refine (implPolicyDrop_any N R cR xs C cc ms a b c d _ (HR3.out _ hbel) hu (by omega) (HC3.out _ hbel) (by omega) HW.out).mono ?_
          rintro e w9 ⟨v2, rfl, hr2, hbx⟩
          replace hbel := below_trans hbel hbx
          clear hbx
          rw [← tf_yes HD.out]
          cases z2
          · rw [HZ2.out rfl] at hr2
            obtain ⟨D, cd, rfl, hDr⟩ := owns_rd hr2
            clear hr2
            obtain ⟨c0, c1⟩ := (HO.out _ hbel).two
            obtain ⟨d0, d1, d2, d3⟩ := (HP.out _ hbel).four
            go_wp2_with fail
            clear c0 c1 d0 d1 d2 d3
            refine (as_bool (tf_yes HK.out).symm (specPolicyOk_any N R cR xs C cc ms _ (HR3.out _ hbel) hu (by omega) (HC3.out _ hbel) (by omega))).mono ?_
            rintro e wa ⟨rfl, hbx⟩
            replace hDr := hDr.below hbx
            replace hbel := below_trans hbel hbx
            clear hbx
            go_wp2_with fail
            refine (samePuncts_same D B cd cb ps _ hDr (HB3.out _ hbel) (by omega)).mono ?_
            rintro e wb ⟨rfl, hbx⟩
            go_wp2
            go_ret
            exact ⟨rfl, below_trans hbw (below_trans hbel hbx)⟩
          · clear hr2
            obtain ⟨c0, c1⟩ := (HO.out _ hbel).two
            obtain ⟨d0, d1, d2, d3⟩ := (HP.out _ hbel).four
            go_wp2_with fail
            clear c0 c1 d0 d1 d2 d3
            refine (as_bool (tf_yes HK.out).symm (specPolicyOk_any N R cR xs C cc ms _ (HR3.out _ hbel) hu (by omega) (HC3.out _ hbel) (by omega))).mono ?_
            rintro e wa ⟨rfl, hbx⟩
            replace hbel := below_trans hbel hbx
            clear hbx
            go_wp2
            go_ret
            exact ⟨rfl, below_trans hbw hbel⟩
        · cases z1
          · obtain rfl := HH.out (by simpa using HY.out) (by simp)
            have hne : (d != d) = false := by simp
            clear HH HE
            obtain ⟨c0, c1⟩ := (HO.out _ hbel).two
            obtain ⟨d0, d1, d2, d3⟩ := (HP.out _ hbel).four
            go_wp2_with fail
            clear c0 c1 d0 d1 d2 d3
            refine (implPunctHas_is HY.out _).mono ?_
            rintro e w8 ⟨rfl, hbx⟩
            replace hbel := below_trans hbel hbx
            clear hbx
            obtain ⟨c0, c1⟩ := (HO.out _ hbel).two
            obtain ⟨d0, d1, d2, d3⟩ := (HP.out _ hbel).four
            go_wp2_with fail
            clear c0 c1 d0 d1 d2 d3
            refine (implPolicyDrop_any N R cR xs C cc ms a b c d _ (HR3.out _ hbel) hu (by omega) (HC3.out _ hbel) (by omega) HW.out).mono ?_
            rintro e w9 ⟨v2, rfl, hr2, hbx⟩
            replace hbel := below_trans hbel hbx
            clear hbx
            rw [← tf_yes HD.out]
            cases z2
            · rw [HZ2.out rfl] at hr2
              obtain ⟨D, cd, rfl, hDr⟩ := owns_rd hr2
              clear hr2
              obtain ⟨c0, c1⟩ := (HO.out _ hbel).two
              obtain ⟨d0, d1, d2, d3⟩ := (HP.out _ hbel).four
              go_wp2_with fail
              clear c0 c1 d0 d1 d2 d3
              refine (as_bool (tf_yes HK.out).symm (specPolicyOk_any N R cR xs C cc ms _ (HR3.out _ hbel) hu (by omega) (HC3.out _ hbel) (by omega))).mono ?_
              rintro e wa ⟨rfl, hbx⟩
              replace hDr := hDr.below hbx
              replace hbel := below_trans hbel hbx
              clear hbx
              go_wp2_with fail
              refine (samePuncts_same D B cd cb ps _ hDr (HB3.out _ hbel) (by omega)).mono ?_
              rintro e wb ⟨rfl, hbx⟩
              go_wp2
              go_ret
              exact ⟨rfl, below_trans hbw (below_trans hbel hbx)⟩
            · clear hr2
              obtain ⟨c0, c1⟩ := (HO.out _ hbel).two
              obtain ⟨d0, d1, d2, d3⟩ := (HP.out _ hbel).four
              go_wp2_with fail
              clear c0 c1 d0 d1 d2 d3
              refine (as_bool (tf_yes HK.out).symm (specPolicyOk_any N R cR xs C cc ms _ (HR3.out _ hbel) hu (by omega) (HC3.out _ hbel) (by omega))).mono ?_
              rintro e wa ⟨rfl, hbx⟩
              replace hbel := below_trans hbel hbx
              clear hbx
              go_wp2
              go_ret
              exact ⟨rfl, below_trans hbw hbel⟩
          · obtain rfl := HE.out (.inr rfl)
            have hne : (To != To) = false := by simp
            clear HH HE
            obtain ⟨c0, c1⟩ := (HO.out _ hbel).two
            obtain ⟨d0, d1, d2, d3⟩ := (HP.out _ hbel).four
            go_wp2_with fail
            clear c0 c1 d0 d1 d2 d3
            refine (implPunctHas_is HY.out _).mono ?_
            rintro e w8 ⟨rfl, hbx⟩
            replace hbel := below_trans hbel hbx
            clear hbx
            obtain ⟨c0, c1⟩ := (HO.out _ hbel).two
            obtain ⟨d0, d1, d2, d3⟩ := (HP.out _ hbel).four
            go_wp2_with fail
            clear c0 c1 d0 d1 d2 d3
            refine (implPolicyDrop_any N R cR xs C cc ms a b c d _ (HR3.out _ hbel) hu (by omega) (HC3.out _ hbel) (by omega) HW.out).mono ?_
            rintro e w9 ⟨v2, rfl, hr2, hbx⟩
            replace hbel := below_trans hbel hbx
            clear hbx
            rw [← tf_yes HD.out]
            cases z2
            · rw [HZ2.out rfl] at hr2
              obtain ⟨D, cd, rfl, hDr⟩ := owns_rd hr2
              clear hr2
              obtain ⟨c0, c1⟩ := (HO.out _ hbel).two
              obtain ⟨d0, d1, d2, d3⟩ := (HP.out _ hbel).four
              go_wp2_with fail
              clear c0 c1 d0 d1 d2 d3
              refine (as_bool (tf_yes HK.out).symm (specPolicyOk_any N R cR xs C cc ms _ (HR3.out _ hbel) hu (by omega) (HC3.out _ hbel) (by omega))).mono ?_
              rintro e wa ⟨rfl, hbx⟩
              replace hDr := hDr.below hbx
              replace hbel := below_trans hbel hbx
              clear hbx
              go_wp2_with fail
              refine (samePuncts_same D B cd cb ps _ hDr (HB3.out _ hbel) (by omega)).mono ?_
              rintro e wb ⟨rfl, hbx⟩
              go_wp2
              go_ret
              exact ⟨rfl, below_trans hbw (below_trans hbel hbx)⟩
            · clear hr2
              obtain ⟨c0, c1⟩ := (HO.out _ hbel).two
              obtain ⟨d0, d1, d2, d3⟩ := (HP.out _ hbel).four
              go_wp2_with fail
              clear c0 c1 d0 d1 d2 d3
              refine (as_bool (tf_yes HK.out).symm (specPolicyOk_any N R cR xs C cc ms _ (HR3.out _ hbel) hu (by omega) (HC3.out _ hbel) (by omega))).mono ?_
              rintro e wa ⟨rfl, hbx⟩
              replace hbel := below_trans hbel hbx
              clear hbx
              go_wp2
              go_ret
              exact ⟨rfl, below_trans hbw hbel⟩
end Go.Proofs.Ytipcjofmplpffaa
