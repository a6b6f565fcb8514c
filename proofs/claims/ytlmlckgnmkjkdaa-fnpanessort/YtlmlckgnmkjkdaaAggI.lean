/-
  An aggregate that grows, behind a pointer: what include and agg do; AggOf of the program.
-/
import Derived.Test.YtlmlckgnmkjkdaaKitAgg
import Derived.Deep.RegionHeld3
namespace Go.Proofs.Ytlmlckgnmkjkdaa
open Go.RowKit

/-- the cells of a tally: the row, the count, the sum, the smallest -/
abbrev tc (l : List Int) (N h lw sm : Int) : List Value := rowCells l [.int .i64 N, .int .i64 h, .int .u64 lw, .int .i64 sm]
theorem tc_cells {l : List Int} {a b c d N h lw sm : Int} (e : pad4 l = [a, b, c, d]) : tc l N h lw sm = [.int .i64 a, .int .i64 b, .int .i64 c, .int .i64 d, .int .i64 (l.length : Int), .int .i64 N, .int .i64 h, .int .u64 lw, .int .i64 sm] := rowCells_four e
section
variable {w : World} {g : Nat} {t : TypeId} {l : List Int} {N h lw sm : Int}
theorem tally_cells (ho : Own w g t (tc l N h lw sm)) (hl : l.length ≤ 4) : w.cell? ⟨g, 0, none⟩ = some (.int .i64 (iat l 0)) ∧ w.cell? ⟨g, 4, none⟩ = some (.int .i64 (l.length : Int)) ∧ w.cell? ⟨g, 5, none⟩ = some (.int .i64 N) ∧ w.cell? ⟨g, 6, none⟩ = some (.int .i64 h) ∧ w.cell? ⟨g, 7, none⟩ = some (.int .u64 lw) ∧ w.cell? ⟨g, 8, none⟩ = some (.int .i64 sm) := by
  obtain ⟨a, b, c, d, e⟩ := four_of (pad4_length hl)
  have h0 : iat l 0 = a := by rw [← pad4_head, e]; rfl
  rw [tc_cells e] at ho
  exact ⟨by rw [h0]; exact ho.cell 0, ho.cell 4, ho.cell 5, ho.cell 6, ho.cell 7, ho.cell 8⟩
theorem tally_min (ho : Own w g t (tc l N h lw sm)) (hl : l.length ≤ 4) (sm' : Int) : Own (w.setCell ⟨g, 8, none⟩ (.int .i64 sm')) g t (tc l N h lw sm') := by
  obtain ⟨a, b, c, d, e⟩ := four_of (pad4_length hl)
  rw [tc_cells e] at ho ⊢
  exact ho.set 8 _
theorem tally_count (ho : Own w g t (tc l N h lw sm)) (hl : l.length ≤ 4) (N' : Int) : Own (w.setCell ⟨g, 5, none⟩ (.int .i64 N')) g t (tc l N' h lw sm) := by
  obtain ⟨a, b, c, d, e⟩ := four_of (pad4_length hl)
  rw [tc_cells e] at ho ⊢
  exact ho.set 5 _
theorem tally_sum (ho : Own w g t (tc l N h lw sm)) (hl : l.length ≤ 4) (h' l' : Int) : Own ((w.setCell ⟨g, 6, none⟩ (.int .i64 h')).setCell ⟨g, 7, none⟩ (.int .u64 l')) g t (tc l N h' l' sm) := by
  obtain ⟨a, b, c, d, e⟩ := four_of (pad4_length hl)
  rw [tc_cells e] at ho ⊢
  exact (ho.set 6 _).set 7 _
end
/-- the smallest, with one more -/
noncomputable def smNew (N sm sm' : Int) : Int := if N = 0 ∨ sm' < sm then sm' else sm

set_option maxRecDepth 100000 in
set_option maxHeartbeats 4000000 in
theorem include_any (g : Nat) (l : List Int) (N z sm : Int) (cnt z' sm' h' l' : Int) (A : Option Addr) (n c : Nat) (vs : List Int) (w : World) (ho : Own w g 159 (tc l N (hi z) (lo z) sm)) (hl : l.length ≤ 4) (hd : Desc l)
    (hR : Rd w A (iz vs)) (hz : vs.length = n) (hn : n ≤ 1048576) (hA : 0 < vs.length → ∀ ad, A = some ad → ad.block ≠ g) (hN : 0 ≤ N ∧ N ≤ 1000000) (hc : 0 ≤ cnt ∧ cnt ≤ 1000000) (eh : h' = hi z') (el : l' = lo z') :
    Calls Try.prog 140 #[.pointer (some ⟨g, 0, none⟩), .int .i64 cnt, .agg #[.int .i64 h', .int .u64 l'], .int .i64 sm', .slice A n c] w fun e w' => e = .returned (.tuple #[]) ∧
      Own w' g 159 (tc (vs.foldl put4 l) (N + cnt) (hi (z + z')) (lo (z + z')) (smNew N sm sm')) ∧ w.grownBy w' (some g) := by
  have hlt := ho.lt
  obtain ⟨c0, c4, c5, c6, c7, c8⟩ := tally_cells ho hl
  have f5 := ho.free 5
  have f8 := ho.free 8
  have HL := Lib.hid hl
  have HR0 := Lib.hid hR
  have HZ := Lib.hid hz
  obtain ⟨hN1, hN2⟩ := hN
  obtain ⟨hc1, hc2⟩ := hc
  have HO := Lib.hid ho
  have EH := Lib.hid eh
  have EL := Lib.hid el
  clear ho hR hl hz eh el
  have three : N = 0 ∨ (¬ N = 0 ∧ sm' < sm) ∨ (¬ N = 0 ∧ ¬ sm' < sm) := by omega
  rcases three with h0 | ⟨h0, h1⟩ | ⟨h0, h1⟩
  case' inl =>
    have HE := Lib.hid (show smNew N sm sm' = sm' by unfold smNew; rw [if_pos (.inl h0)])
    rw [HE.out]
    have HV := Lib.hid (show Own ((w.setCell ⟨g, 8, none⟩ (.int .i64 sm')).setCell ⟨g, 5, none⟩ (.int .i64 cnt)) g 159 (tc l (N + cnt) (hi z) (lo z) sm') by have h := tally_count (tally_min HO.out HL.out sm') HL.out cnt; rw [h0, Int.zero_add]; exact h)
    have HW := Lib.hid (show w.grownBy ((w.setCell ⟨g, 8, none⟩ (.int .i64 sm')).setCell ⟨g, 5, none⟩ (.int .i64 cnt)) (some g) from only_set (only_set (World.grownBy.refl w (some g))))
    have HS : Hid (((w.setCell ⟨g, 8, none⟩ (.int .i64 sm')).setCell ⟨g, 5, none⟩ (.int .i64 cnt)).heap.size = w.heap.size) := Lib.hid (by simp)
    clear HE
    go_enter Try.func140, Try.ntmps140
    go_upto_region 4 with (fail)
    clear f5 f8 c0 c4 c5 c6 c7 c8
    generalize (w.setCell ⟨g, 8, none⟩ (.int .i64 sm')).setCell ⟨g, 5, none⟩ (.int .i64 cnt) = v at *
  case' inr.inl =>
    have HE := Lib.hid (show smNew N sm sm' = sm' by unfold smNew; rw [if_pos (.inr h1)])
    rw [HE.out]
    have HV := Lib.hid (show Own ((w.setCell ⟨g, 8, none⟩ (.int .i64 sm')).setCell ⟨g, 5, none⟩ (.int .i64 (N + cnt))) g 159 (tc l (N + cnt) (hi z) (lo z) sm') from tally_count (tally_min HO.out HL.out sm') HL.out (N + cnt))
    have HW := Lib.hid (show w.grownBy ((w.setCell ⟨g, 8, none⟩ (.int .i64 sm')).setCell ⟨g, 5, none⟩ (.int .i64 (N + cnt))) (some g) from only_set (only_set (World.grownBy.refl w (some g))))
    have HS : Hid (((w.setCell ⟨g, 8, none⟩ (.int .i64 sm')).setCell ⟨g, 5, none⟩ (.int .i64 (N + cnt))).heap.size = w.heap.size) := Lib.hid (by simp)
    clear HE
    go_enter Try.func140, Try.ntmps140
    go_upto_region 4 with (fail)
    clear f5 f8 c0 c4 c5 c6 c7 c8
    generalize (w.setCell ⟨g, 8, none⟩ (.int .i64 sm')).setCell ⟨g, 5, none⟩ (.int .i64 (N + cnt)) = v at *
  case' inr.inr =>
    have HE := Lib.hid (show smNew N sm sm' = sm by unfold smNew; rw [if_neg (by omega)])
    rw [HE.out]
    have HV := Lib.hid (show Own (w.setCell ⟨g, 5, none⟩ (.int .i64 (N + cnt))) g 159 (tc l (N + cnt) (hi z) (lo z) sm) from tally_count HO.out HL.out (N + cnt))
    have HW := Lib.hid (show w.grownBy (w.setCell ⟨g, 5, none⟩ (.int .i64 (N + cnt))) (some g) from only_set (World.grownBy.refl w (some g)))
    have HS : Hid ((w.setCell ⟨g, 5, none⟩ (.int .i64 (N + cnt))).heap.size = w.heap.size) := Lib.hid (by simp)
    clear HE
    go_enter Try.func140, Try.ntmps140
    go_upto_region 4 with (fail)
    clear f5 f8 c0 c4 c5 c6 c7 c8
    generalize w.setCell ⟨g, 5, none⟩ (.int .i64 (N + cnt)) = v at *
  all_goals
    have HO1 := Lib.hid (HV.out.alloc (.cells #[.int .i64 h', .int .u64 l'] 70))
    have HB1 := Lib.hid (show Own (v.alloc (.cells #[.int .i64 h', .int .u64 l'] 70)) w.heap.size 70 [.int .i64 h', .int .u64 l'] by have := Own.new v 70 [.int .i64 h', .int .u64 l']; rwa [HS.out] at this)
    have HG1 := Lib.hid (grownBy_trans HW.out (grownBy_of (below_alloc v (.cells #[.int .i64 h', .int .u64 l'] 70)) (some g)))
    clear HO HV HW HS
    generalize v.alloc (.cells #[.int .i64 h', .int .u64 l'] 70) = v1 at *
    have HR1 := Lib.hid (rd_far (HR0.out) HG1.out (by rw [iz_length]; exact hA))
    have k6 : ∀ u : Bel v1, u.w.cell? ⟨g, 6, none⟩ = some (.int .i64 (hi z)) := fun u => (tally_cells (HO1.out.grow u.ok) HL.out).2.2.2.1
    have k7 : ∀ u : Bel v1, u.w.cell? ⟨g, 7, none⟩ = some (.int .u64 (lo z)) := fun u => (tally_cells (HO1.out.grow u.ok) HL.out).2.2.2.2.1
    have b0 : ∀ u : Bel v1, u.w.cell? ⟨w.heap.size, 0, none⟩ = some (.int .i64 h') := fun u => (HB1.out.grow u.ok).two.1
    have b1 : ∀ u : Bel v1, u.w.cell? ⟨w.heap.size, 1, none⟩ = some (.int .u64 l') := fun u => (HB1.out.grow u.ok).two.2
    refine wp_region_belt 9 (by kernel_rfl) (by kernel_rfl) ?_
    simp only [List.take_succ_cons, List.take_zero, List.drop_succ_cons, List.drop_zero]
    repeat (go_big_quiet_step ((go_at_call 133; exact bel_of _ (implWideAdd_any _ _ _ _ z z' _ rfl rfl EH.out EL.out))))
    refine wpQuiet_nil ?_
    rintro _ ⟨u, rfl⟩
    clear k6 k7 b0 b1
    have HO2 := Lib.hid (HO1.out.grow u.ok)
    have HG2 := Lib.hid (grownBy_trans HG1.out (grownBy_of u.ok (some g)))
    have HR2 := Lib.hid (HR1.out.below u.ok)
    clear HO1 HB1 HG1 HR1
    generalize u.w = v2 at *
    obtain ⟨-, -, -, d6, d7, -⟩ := tally_cells HO2.out HL.out
    have f6 := HO2.out.free 6
    have f7 := HO2.out.free 7
    have HO3 := Lib.hid (tally_sum HO2.out HL.out (hi (z + z')) (lo (z + z')))
    have HG3 := Lib.hid (show w.grownBy ((v2.setCell ⟨g, 6, none⟩ (.int .i64 (hi (z + z')))).setCell ⟨g, 7, none⟩ (.int .u64 (lo (z + z')))) (some g) from only_set (only_set HG2.out))
    have HR3 := Lib.hid (show Rd ((v2.setCell ⟨g, 6, none⟩ (.int .i64 (hi (z + z')))).setCell ⟨g, 7, none⟩ (.int .u64 (lo (z + z')))) A (iz vs) from rd_far HR2.out (only_set (only_set (World.grownBy.refl v2 (some g)))) (by rw [iz_length]; exact hA))
    clear HO2 HG2 HR2
    go_wp2_with fail
    refine (put_any g _ l _ A n c vs _ HO3.out HL.out hd HR3.out HZ.out hn hA).mono ?_
    rintro e w3 ⟨rfl, ho3, hg3⟩
    have hg4 := grownBy_trans HG3.out hg3
    clear HO3 HG3 HR3 d6 d7 f6 f7 hg3
    go_wp2
    go_end0
    exact ⟨rfl, ho3, hg4⟩

/-- The call hands back an aggregate whose Top lies in memory of its own. -/
def AggRes (N z mn mx : Int) (top : List Int) (w : World) (e : Ending) (w' : World) : Prop :=
  ∃ A c, e = .returned (agv N (hi z) (lo z) mn mx (.slice A top.length c)) ∧ RowAt w.heap.size w'.heap.size w' 3 1 (.slice A top.length c) top.length (iz top) ∧ Below w.heap.size w w'

set_option maxRecDepth 100000 in
set_option maxHeartbeats 4000000 in
theorem agg_any (g : Nat) (l : List Int) (N z sm : Int) (w : World) (ho : Own w g 159 (tc l N (hi z) (lo z) sm)) (hl : l.length ≤ 4) :
    Calls Try.prog 141 #[.pointer (some ⟨g, 0, none⟩)] w (AggRes N z sm (iat l 0) l w) := by
  have hlt := ho.lt
  have o1 := ho.alloc (.cells (agc 0 0 0 0 0 (.slice none 0 0)).toArray 72)
  have bx := Own.new w 72 (agc 0 0 0 0 0 (.slice none 0 0))
  have hb0 := below_alloc w (.cells (agc 0 0 0 0 0 (.slice none 0 0)).toArray 72)
  have HL := Lib.hid hl
  clear ho hl
  go_enter Try.func141, Try.ntmps141
  go_upto_region 1 with (fail)
  revert o1 bx hb0
  generalize w.alloc (.cells (agc 0 0 0 0 0 (.slice none 0 0)).toArray 72) = v
  intro o1 bx hb0
  have hne : g ≠ w.heap.size := by omega
  have HO := Lib.hid (fun W (h : v.grownBy W (some w.heap.size)) => own_kept o1 h (fun e => hne (by cases e; rfl)))
  have HX := Lib.hid bx
  have k0 : ∀ W, v.grownBy W (some w.heap.size) → W.cell? ⟨g, 0, none⟩ = some (.int .i64 (iat l 0)) := fun W h => (tally_cells (HO.out W h) HL.out).1
  have k5 : ∀ W, v.grownBy W (some w.heap.size) → W.cell? ⟨g, 5, none⟩ = some (.int .i64 N) := fun W h => (tally_cells (HO.out W h) HL.out).2.2.1
  have k6 : ∀ W, v.grownBy W (some w.heap.size) → W.cell? ⟨g, 6, none⟩ = some (.int .i64 (hi z)) := fun W h => (tally_cells (HO.out W h) HL.out).2.2.2.1
  have k7 : ∀ W, v.grownBy W (some w.heap.size) → W.cell? ⟨g, 7, none⟩ = some (.int .u64 (lo z)) := fun W h => (tally_cells (HO.out W h) HL.out).2.2.2.2.1
  have k8 : ∀ W, v.grownBy W (some w.heap.size) → W.cell? ⟨g, 8, none⟩ = some (.int .i64 sm) := fun W h => (tally_cells (HO.out W h) HL.out).2.2.2.2.2
  clear o1 bx
  go_region_held3 (fun W => v.grownBy W (some w.heap.size)) (first | (with_reducible assumption) | (with_reducible exact grownBy_of (Below.refl _ _).drew _) | (with_reducible exact only_set (only_set (only_set (only_set (only_set (only_set (by with_reducible assumption))))))))
    ((go_at_call 146; refine (list_any g _ l _ _ (HO.out _ (by assumption)) HL.out).mono ?_; rintro e w1 ⟨A, c, rfl, hrow, hb1⟩; have hB : Below v.heap.size v w1 := below_trans (Below.refl _ _).drew hb1; have hG := grownBy_of hB (some w.heap.size); have hX := HX.out.grow hB; obtain ⟨e0, e1, e2, e3, e4, e5⟩ := hX.six; have g0 := hX.free 0; have g1 := hX.free 1; have g2 := hX.free 2; have g3 := hX.free 3; have g4 := hX.free 4; have g5 := hX.free 5))
  have hvs := HX.out.lt
  have HR := Lib.hid (show RowAt v.heap.size w1.heap.size w1 3 1 (.slice A l.length c) l.length (iz l) from RowAt.of hrow)
  have HBB := Lib.hid (below_trans hb0 hB)
  clear k0 k5 k6 k7 k8 HO hb1 hB hG hX hrow
  go_wp2
  refine bodyPost_ret (v := agv N (hi z) (lo z) sm (iat l 0) (.slice A l.length c)) (by simp [results, Try.results141, go_sem, e0, e1, e2, e3, e4, e5]) rfl ⟨A, c, rfl, ?_, ?_⟩
  · simp only [size_set]
    exact ((((((HR.out.set _ _ hvs).set _ _ hvs).set _ _ hvs).set _ _ hvs).set _ _ hvs).set _ _ hvs).base (by omega)
  · exact (((((HBB.out.setCell (Nat.le_refl _) _).setCell (Nat.le_refl _) _).setCell (Nat.le_refl _) _).setCell (Nat.le_refl _) _).setCell (Nat.le_refl _) _).setCell (Nat.le_refl _) _

/-- what a tally holds of the first k of a list -/
noncomputable def sumTo (ts : List Int) (k : Nat) : Int := (ts.take k).sum
theorem sumTo_succ {ts : List Int} {k : Nat} (h : k < ts.length) : sumTo ts (k + 1) = sumTo ts k + iat ts k := by unfold sumTo; rw [take_snoc h, sum_snoc]
theorem smNew_first (sm v : Int) : smNew 0 sm v = v := by unfold smNew; rw [if_pos (.inl rfl)]
theorem smNew_next {ts : List Int} {k : Nat} (h : k < ts.length) : smNew k (mnOf (ts.take k)) (iat ts k) = mnOf (ts.take (k + 1)) := by
  cases k with
  | zero => rw [take_snoc h]; show smNew 0 _ _ = _; rw [smNew_first]; rfl
  | succ k =>
    have hne : ts.take (k + 1) ≠ [] := by
      intro e
      rcases List.take_eq_nil_iff.1 e with h' | h'
      · omega
      · rw [h'] at h; simp at h
    rw [take_snoc h, mnOf_snoc _ hne]
    unfold smNew
    split <;> omega
theorem topTo_succ {ts : List Int} {k : Nat} (h : k < ts.length) : topOf (ts.take (k + 1)) = put4 (topOf (ts.take k)) (iat ts k) := by rw [take_snoc h, topOf_snoc]

/-- the aggregate of a list that is not too long; of others the zero value -/
noncomputable def aggL (ts : List Int) : List Int := if ts.length ≤ 1000000 then ts else []
def AggOfRes (ts : List Int) : World → Ending → World → Prop := AggRes (aggL ts).length (aggL ts).sum (mnOf (aggL ts)) (mxOf (aggL ts)) (topOf (aggL ts))

set_option maxRecDepth 100000 in
set_option maxHeartbeats 4000000 in
theorem implAggOf_any (A : Option Addr) (n ca : Nat) (ts : List Int) (w : World) (hA : Rd w A (iz ts)) (hz : ts.length = n) (hn : n ≤ 1048576) (hi64 : ∀ x ∈ ts, I64 x) :
    Calls Try.prog 132 #[.slice A n ca] w (AggOfRes ts w) := by
  by_cases hl : n ≤ 1000000
  · have hg0 : aggL ts = ts := by unfold aggL; rw [if_pos (by omega)]
    have HRES := Lib.hid (show AggOfRes ts w = AggRes (n : Int) (sumTo ts n) (mnOf (ts.take n)) (iat (topOf (ts.take n)) 0) (topOf (ts.take n)) w by
      unfold AggOfRes sumTo mxOf; rw [hg0, List.take_of_length_le (by omega), hz])
    rw [HRES.out]
    have HA := Lib.hid hA
    have HZ := Lib.hid hz
    have H64 := Lib.hid hi64
    clear hA hz hi64 hg0 HRES
    go_enter Try.func132, Try.ntmps132
    go_wp2_with fail
    go_loopw [12] (fun s12 wr => ∃ k : Nat, k ≤ n ∧ s12 = .int .i64 k ∧ Own wr w.heap.size 72 (agc 0 0 0 0 0 (.slice none 0 0)) ∧ Own wr (w.heap.size + 1) 159 (tc (topOf (ts.take k)) k (hi (sumTo ts k)) (lo (sumTo ts k)) (mnOf (ts.take k))) ∧ Below w.heap.size w wr) (fun s12 _ => n - (intOf s12).toNat)
    case atStart =>
      exact ⟨0, Nat.zero_le _, rfl, (Own.new w 72 (agc 0 0 0 0 0 (.slice none 0 0))).alloc _, new_second w _ 159 (tc [] 0 0 0 0), below2 _ _ _⟩
    case round =>
      obtain ⟨k, hk, rfl, oB, oT, hbel⟩ := hrel
      by_cases hlt : k < n
      · have hlv : k < ts.length := by rw [HZ.out]; exact hlt
        obtain ⟨ad, rfl, hc0⟩ := rd_int (HA.out.below hbel) (by omega)
        have hc := hc0 wr (Below.refl _ _) k hlv
        clear hc0
        have HV := Lib.hid (H64.out _ (show iat ts k ∈ ts by rw [show iat ts k = ts[k] by simp [iat, hlv]]; exact List.getElem_mem hlv))
        have HS1 := Lib.hid (topTo_succ hlv)
        have HS2 := Lib.hid (sumTo_succ hlv)
        have HS3 := Lib.hid (smNew_next hlv)
        have HLD := Lib.hid (And.intro (show (topOf (ts.take k)).length ≤ 4 by rw [topOf_length]; omega) (topOf_desc (ts.take k)))
        generalize topOf (ts.take k) = l at *
        generalize sumTo ts k = z at *
        generalize mnOf (ts.take k) = sm at *
        generalize iat ts k = v at *
        go_wp2_with fail
        refine (implWideOf_any v _ HV.out).mono ?_
        rintro e w2 ⟨rfl, hb2⟩
        have oT2 := oT.grow hb2
        have oB2 := oB.grow hb2
        have hbel2 := below_trans hbel hb2
        have hlt2 := oT2.lt
        clear oT oB hbel hb2 hc
        go_wp2_with fail
        refine (include_any (w.heap.size + 1) l k z sm 1 v v _ _ (some ⟨w2.heap.size, 0, none⟩) 1 1 [v] _ (oT2.alloc _) HLD.out.1 HLD.out.2 (Own.new w2 3 [.int .i64 v]).rd rfl (by omega) (fun _ ad e => by cases e; show w2.heap.size ≠ w.heap.size + 1; omega) ⟨by omega, by omega⟩ ⟨by omega, by omega⟩ rfl rfl).mono ?_
        rintro e w3 ⟨rfl, oT3, hg3⟩
        have oB3 := own_kept (oB2.alloc (.cells #[.int .i64 v] 3)) hg3 (fun e => by have := Option.some.inj e; omega)
        have hbel3 := below_grown (hbel2.alloc (by omega) (.cells #[.int .i64 v] 3)) hg3 (by omega) (by simp; omega)
        have HN := Lib.hid (show Own w3 (w.heap.size + 1) 159 (tc (topOf (ts.take (k + 1))) ((k + 1 : Nat) : Int) (hi (sumTo ts (k + 1))) (lo (sumTo ts (k + 1))) (mnOf (ts.take (k + 1)))) by
          rw [HS1.out, HS2.out, ← HS3.out]; exact oT3)
        clear oT2 oB2 hbel2 oT3 hg3
        go_wp2_with fail
        go_roundw
        case rel => exact ⟨k + 1, by omega, by go_num, oB3, HN.out, hbel3⟩
        case measure => simp [intOf]; omega
      · have hkn : k = n := by omega
        subst hkn
        have HLD := Lib.hid (show (topOf (ts.take k)).length ≤ 4 by rw [topOf_length]; omega)
        generalize topOf (ts.take k) = l at *
        generalize sumTo ts k = z at *
        generalize mnOf (ts.take k) = sm at *
        go_wp2_with fail
        refine (agg_any (w.heap.size + 1) l k z sm _ oT HLD.out).mono ?_
        rintro e w2 ⟨A2, c2, rfl, r2, hb2⟩
        have oB2 := oB.grow hb2
        have hlt2 := oB.lt
        obtain ⟨e0, e1, e2, e3, e4, e5⟩ := oB2.six
        have g0 := oB2.free 0
        have g1 := oB2.free 1
        have g2 := oB2.free 2
        have g3 := oB2.free 3
        have g4 := oB2.free 4
        have g5 := oB2.free 5
        have HR := Lib.hid r2
        have HB := Lib.hid (below_trans hbel hb2)
        clear oT oB oB2 r2 hb2 hbel
        go_wp2
        refine bodyPost_ret (v := agv k (hi z) (lo z) sm (iat l 0) (.slice A2 l.length c2)) (by simp [results, Try.results132, go_sem, e0, e1, e2, e3, e4, e5]) rfl ⟨A2, c2, rfl, ?_, ?_⟩
        · simp only [size_set]
          exact ((((((HR.out.set _ _ hlt2).set _ _ hlt2).set _ _ hlt2).set _ _ hlt2).set _ _ hlt2).set _ _ hlt2).base (by omega)
        · exact (((((HB.out.setCell (Nat.le_refl _) _).setCell (Nat.le_refl _) _).setCell (Nat.le_refl _) _).setCell (Nat.le_refl _) _).setCell (Nat.le_refl _) _).setCell (Nat.le_refl _) _
  · have hg0 : aggL ts = [] := by unfold aggL; rw [if_neg (by omega)]
    have HRES := Lib.hid (show AggOfRes ts w = AggRes 0 0 0 0 [] w by unfold AggOfRes; rw [hg0]; rfl)
    rw [HRES.out]
    have hl' : 1000000 < (n : Int) := by omega
    clear hg0 HRES hA hz hi64
    go_enter Try.func132, Try.ntmps132
    go_wp2
    refine bodyPost_ret (v := agv 0 0 0 0 0 (.slice none 0 0)) (by simp [results, Try.results132, go_sem]) rfl ⟨none, 0, rfl, ⟨⟨rfl, .inl ⟨rfl, rfl⟩⟩, fun k h => by simp [Value.ownBlock] at h⟩, below_alloc _ _⟩
end Go.Proofs.Ytlmlckgnmkjkdaa
