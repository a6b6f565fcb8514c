/-
  AggOf of the model.
-/
import Derived.Test.YtlmlckgnmkjkdaaAggI
import Derived.Test.YtlmlckgnmkjkdaaTopS
import Derived.Test.YtlmlckgnmkjkdaaBoxTail
namespace Go.Proofs.Ytlmlckgnmkjkdaa
open Go.RowKit

/-- the least and the greatest of the first k, of the first one at least -/
def mnT (ts : List Int) (k : Nat) : Int := mnOf (ts.take (max k 1))
def mxT (ts : List Int) (k : Nat) : Int := mxOf (ts.take (max k 1))
theorem take_ne {ts : List Int} {k : Nat} (h : 0 < ts.length) (hk : 0 < k) : ts.take k ≠ [] := by
  intro e
  rcases List.take_eq_nil_iff.1 e with h' | h'
  · omega
  · rw [h'] at h; simp at h
theorem mnT_zero {ts : List Int} (h : 0 < ts.length) : mnT ts 0 = iat ts 0 := by
  cases ts with
  | nil => simp at h
  | cons a l => rfl
theorem mxT_zero {ts : List Int} (h : 0 < ts.length) : mxT ts 0 = iat ts 0 := by
  cases ts with
  | nil => simp at h
  | cons a l => rfl
theorem mnT_succ {ts : List Int} {k : Nat} (h : k < ts.length) : (if iat ts k < mnT ts k then iat ts k else mnT ts k) = mnT ts (k + 1) := by
  cases k with
  | zero =>
    rw [mnT_zero h]
    have : mnT ts (0 + 1) = iat ts 0 := mnT_zero h
    rw [this]; simp
  | succ k =>
    unfold mnT
    rw [show max (k + 1) 1 = k + 1 by omega, show max (k + 1 + 1) 1 = k + 1 + 1 by omega, take_snoc h, mnOf_snoc _ (take_ne (by omega) (by omega))]
    split <;> omega
theorem mxT_succ {ts : List Int} {k : Nat} (h : k < ts.length) : (if mxT ts k < iat ts k then iat ts k else mxT ts k) = mxT ts (k + 1) := by
  cases k with
  | zero =>
    rw [mxT_zero h]
    have : mxT ts (0 + 1) = iat ts 0 := mxT_zero h
    rw [this]; simp
  | succ k =>
    unfold mxT
    rw [show max (k + 1) 1 = k + 1 by omega, show max (k + 1 + 1) 1 = k + 1 + 1 by omega, take_snoc h, mxOf_snoc _ (take_ne (by omega) (by omega))]
    split <;> omega
theorem topT_succ {ts : List Int} {k : Nat} (h : k < ts.length) : topOf (topOf (ts.take k) ++ [iat ts k]) = topOf (ts.take (k + 1)) := by
  rw [topOf_append, topOf_top, take_snoc h, topOf_append]

/-- the aggregate while it grows, in block X -/
structure AS (w wr : World) (X : Nat) (N S mn mx : Int) (A3 : Option Addr) (c3 : Nat) (l : List Int) : Prop where
  oB : Own wr w.heap.size 72 (agc 0 0 0 0 0 (.slice none 0 0))
  oX : Own wr X 72 (agc N (hi S) (lo S) mn mx (.slice A3 l.length c3))
  rT : wr.ownsRow (X + 1) 3 1 (.slice A3 l.length c3) l.length (iz l)
  hX : w.heap.size < X
  hb : Below w.heap.size w wr
section
variable {w wr w' : World} {X : Nat} {N S mn mx : Int} {A3 : Option Addr} {c3 : Nat} {l : List Int}
theorem AS.grow (h : AS w wr X N S mn mx A3 c3 l) (hb : Below wr.heap.size wr w') : AS w w' X N S mn mx A3 c3 l :=
  ⟨h.oB.grow hb, h.oX.grow hb, owns_grow h.rT hb, h.hX, below_trans h.hb hb⟩
theorem AS.far (h : AS w wr X N S mn mx A3 c3 l) (j : Nat) (u : Value) : Own (wr.setCell ⟨X, j, none⟩ u) w.heap.size 72 (agc 0 0 0 0 0 (.slice none 0 0)) ∧ (wr.setCell ⟨X, j, none⟩ u).ownsRow (X + 1) 3 1 (.slice A3 l.length c3) l.length (iz l) ∧ Below w.heap.size w (wr.setCell ⟨X, j, none⟩ u) :=
  ⟨h.oB.far (by have := h.hX; show w.heap.size ≠ X; omega) _, owns_far h.rT (only_set (World.grownBy.refl wr (some X))) (owns_lt h.rT (by omega)), h.hb.setCell (Nat.le_of_lt h.hX) _⟩
theorem AS.sum (h : AS w wr X N S mn mx A3 c3 l) (S' : Int) : AS w ((wr.setCell ⟨X, 1, none⟩ (.int .i64 (hi S'))).setCell ⟨X, 2, none⟩ (.int .u64 (lo S'))) X N S' mn mx A3 c3 l := by
  have f1 := h.far 1 (.int .i64 (hi S'))
  exact ⟨f1.1.far (by have := h.hX; show w.heap.size ≠ X; omega) _, (h.oX.set 1 _).set 2 _, owns_far f1.2.1 (only_set (World.grownBy.refl _ (some X))) (owns_lt f1.2.1 (by omega)), h.hX, f1.2.2.setCell (Nat.le_of_lt h.hX) _⟩
theorem AS.min (h : AS w wr X N S mn mx A3 c3 l) (mn' : Int) : AS w (wr.setCell ⟨X, 3, none⟩ (.int .i64 mn')) X N S mn' mx A3 c3 l := by
  have f1 := h.far 3 (.int .i64 mn')
  exact ⟨f1.1, h.oX.set 3 _, f1.2.1, h.hX, f1.2.2⟩
theorem AS.max (h : AS w wr X N S mn mx A3 c3 l) (mx' : Int) : AS w (wr.setCell ⟨X, 4, none⟩ (.int .i64 mx')) X N S mn mx' A3 c3 l := by
  have f1 := h.far 4 (.int .i64 mx')
  exact ⟨f1.1, h.oX.set 4 _, f1.2.1, h.hX, f1.2.2⟩
theorem AS.top (h : AS w wr X N S mn mx A3 c3 l) {A4 : Option Addr} {c4 : Nat} {l' : List Int} (hr : wr.ownsRow (X + 1) 3 1 (.slice A4 l'.length c4) l'.length (iz l')) : AS w (wr.setCell ⟨X, 5, none⟩ (.slice A4 l'.length c4)) X N S mn mx A4 c4 l' := by
  have f1 := h.far 5 (.slice A4 l'.length c4)
  exact ⟨f1.1, h.oX.set 5 _, owns_far hr (only_set (World.grownBy.refl wr (some X))) (owns_lt hr (by omega)), h.hX, f1.2.2⟩
end

set_option maxRecDepth 100000 in
set_option maxHeartbeats 4000000 in
theorem specAggOf_any (A : Option Addr) (n ca : Nat) (ts : List Int) (w : World) (hA : Rd w A (iz ts)) (hz : ts.length = n) (hn : n ≤ 1048576) (hf : SFit A n ca) (hi64 : ∀ x ∈ ts, I64 x) :
    Calls Try.prog 87 #[.slice A n ca] w (AggOfRes ts w) := by
  by_cases hl : 1 ≤ n ∧ n ≤ 1000000
  · obtain ⟨hl1, hl2⟩ := hl
    have hg0 : aggL ts = ts := by unfold aggL; rw [if_pos (by omega)]
    have HRES := Lib.hid (show AggOfRes ts w = AggRes (n : Int) (sumTo ts n) (mnT ts n) (mxT ts n) (topOf (ts.take n)) w by
      unfold AggOfRes sumTo mnT mxT; rw [hg0, show max n 1 = n by omega, List.take_of_length_le (by omega), hz])
    rw [HRES.out]
    have h0 : ((n : Int) == 0) = false := by simp; omega
    have h00 : decide ((1000000 : Int) < (n : Int)) = false := by simp; omega
    obtain ⟨ad, rfl, hc0⟩ := rd_int hA (by omega)
    have HA := Lib.hid hA
    have HC := Lib.hid hc0
    have HZ := Lib.hid hz
    have H64 := Lib.hid hi64
    have HF := Lib.hid hf
    have HB0 := Lib.hid (below_alloc w (.cells (agc 0 0 0 0 0 (.slice none 0 0)).toArray 72))
    have HO0 := Lib.hid (Own.new w 72 (agc 0 0 0 0 0 (.slice none 0 0)))
    have HTOP0 := Lib.hid (show topOf (ts.take 0) = [] from rfl)
    have HMN0 := Lib.hid (mnT_zero (ts := ts) (by omega))
    have HMX0 := Lib.hid (mxT_zero (ts := ts) (by omega))
    clear hA hz hi64 hg0 HRES hc0 hf
    go_enter Try.func87, Try.ntmps87
    go_upto_region 3 with (fail)
    have HV : Hid (w.heap.size < (w.alloc (.cells (agc 0 0 0 0 0 (.slice none 0 0)).toArray 72)).heap.size) := Lib.hid (by simp)
    generalize w.alloc (.cells (agc 0 0 0 0 0 (.slice none 0 0)).toArray 72) = v at *
    refine wp_region_box 9 3 72 (agc 0 0 0 0 0 (.slice none 0 0)) (by kernel_rfl) (by kernel_rfl) rfl rfl rfl rfl (by kernel_rfl) (fun a w => by simp [execOp, go_sem, ptr]) ?_
    apply Exists.intro
    refine And.intro ?walk0 ?rest0
    case walk0 =>
      intro w6 hb6
      have f1 : ∀ u : Bel w6, u.w.cell? ad = some (.int .i64 (iat ts 0)) := fun u => by
        have := HC.out _ (below_trans (below_trans HB0.out hb6) u.ok) 0 (by rw [HZ.out]; omega)
        rwa [show ad.add 0 = ad by simp [go_sem]] at this
      show wpQuiet _ _ _ _ [_, _, _, _, _, _, _, _, _] _
      repeat (go_big_quiet_step (fail))
      exact wpQuiet_nil rfl
    case rest0 =>
    intro X w6 hbb hO6 hw6
    show wpList _ _ _ [_] _ _
    simp only [Act.put, ptr]
    have hX : w.heap.size < X := Nat.lt_of_lt_of_le HV.out hbb
    have oX := (((((hO6.set 0 (.int .i64 n)).set 1 (.int .i64 0)).set 2 (.int .u64 0)).set 3 (.int .i64 (iat ts 0))).set 4 (.int .i64 (iat ts 0))).set 5 (.slice none 0 0)
    have oB := (((((((HO0.out.grow hw6).far (p := ⟨X, 0, none⟩) (show w.heap.size ≠ X by omega) (.int .i64 n)).far (p := ⟨X, 1, none⟩) (show w.heap.size ≠ X by omega) (.int .i64 0)).far (p := ⟨X, 2, none⟩) (show w.heap.size ≠ X by omega) (.int .u64 0)).far (p := ⟨X, 3, none⟩) (show w.heap.size ≠ X by omega) (.int .i64 (iat ts 0))).far (p := ⟨X, 4, none⟩) (show w.heap.size ≠ X by omega) (.int .i64 (iat ts 0))).far (p := ⟨X, 5, none⟩) (show w.heap.size ≠ X by omega) (.slice none 0 0))
    have hbX := ((((((below_trans HB0.out hw6).setCell (p := ⟨X, 0, none⟩) (Nat.le_of_lt hX) (.int .i64 n)).setCell (p := ⟨X, 1, none⟩) (Nat.le_of_lt hX) (.int .i64 0)).setCell (p := ⟨X, 2, none⟩) (Nat.le_of_lt hX) (.int .u64 0)).setCell (p := ⟨X, 3, none⟩) (Nat.le_of_lt hX) (.int .i64 (iat ts 0))).setCell (p := ⟨X, 4, none⟩) (Nat.le_of_lt hX) (.int .i64 (iat ts 0))).setCell (p := ⟨X, 5, none⟩) (Nat.le_of_lt hX) (.slice none 0 0)
    have HAS0 := Lib.hid (show AS w _ X n (sumTo ts 0) (mnT ts 0) (mxT ts 0) none 0 (topOf (ts.take 0)) from ⟨oB, by rw [HMN0.out, HMX0.out]; exact oX, ⟨rfl, .inl ⟨rfl, rfl⟩⟩, hX, hbX⟩)
    obtain ⟨e0, e1, e2, e3, e4, e5⟩ := hO6.six
    have g0 := hO6.free 0
    have g1 := hO6.free 1
    have g2 := hO6.free 2
    have g3 := hO6.free 3
    have g4 := hO6.free 4
    have g5 := hO6.free 5
    clear oX oB hbX hO6 hw6 HB0 HO0 HV HMN0 HMX0 hbb
    go_wp2_with fail
    clear e0 e1 e2 e3 e4 e5 g0 g1 g2 g3 g4 g5
    go_loopw [4] (fun s4 wr => ∃ (k : Nat) (A3 : Option Addr) (c3 : Nat), k ≤ n ∧ s4 = .int .i64 k ∧ Hid (AS w wr X n (sumTo ts k) (mnT ts k) (mxT ts k) A3 c3 (topOf (ts.take k)))) (fun s4 _ => n - (intOf s4).toNat)
    case atStart => exact ⟨0, none, 0, Nat.zero_le _, rfl, HAS0⟩
    case round =>
      obtain ⟨k, A3, c3, hk, rfl, HAS⟩ := hrel
      clear HAS0
      by_cases hlt : k < n
      · have hlv : k < ts.length := by rw [HZ.out]; exact hlt
        have HV := Lib.hid (H64.out _ (show iat ts k ∈ ts by rw [show iat ts k = ts[k] by simp [iat, hlv]]; exact List.getElem_mem hlv))
        have HCK := Lib.hid (fun W (h : Below w.heap.size w W) => HC.out W h k hlv)
        have HS2 := Lib.hid (sumTo_succ hlv)
        have HS3 := Lib.hid (mnT_succ hlv)
        have HS4 := Lib.hid (mxT_succ hlv)
        have HS5 := Lib.hid (topT_succ hlv)
        have HLD := Lib.hid (show (topOf (ts.take k)).length ≤ 4 by rw [topOf_length]; omega)
        have H1 := Lib.hid (int_one HA.out HZ.out hlt HF.out)
        generalize topOf (ts.take k) = l at *
        generalize sumTo ts k = z at *
        generalize mnT ts k = mn at *
        generalize mxT ts k = mx at *
        generalize hmn : mnT ts (k + 1) = mn2 at *
        generalize hmx : mxT ts (k + 1) = mx2 at *
        have HMN := Lib.hid hmn
        have HMX := Lib.hid hmx
        clear hmn hmx
        generalize iat ts k = v' at *
        have k1 : ∀ u : Bel wr, u.w.cell? ⟨X, 1, none⟩ = some (.int .i64 (hi z)) := fun u => (HAS.out.grow u.ok).oX.six.2.1
        have k2 : ∀ u : Bel wr, u.w.cell? ⟨X, 2, none⟩ = some (.int .u64 (lo z)) := fun u => (HAS.out.grow u.ok).oX.six.2.2.1
        have kc : ∀ u : Bel wr, u.w.cell? (ad.add k) = some (.int .i64 v') := fun u => HCK.out _ (below_trans HAS.out.hb u.ok)
        go_wp2_with fail
        refine wp_region_belt 9 (by kernel_rfl) (by kernel_rfl) ?_
        simp only [List.take_succ_cons, List.take_zero, List.drop_succ_cons, List.drop_zero]
        repeat (go_big_quiet_step (first | (go_at_call 104; exact bel_of _ (specWideOf_any v' _ HV.out)) | (go_at_call 103; exact bel_of _ (specWideAdd_any _ _ _ _ z v' _ rfl rfl rfl rfl))))
        refine wpQuiet_nil ?_
        rintro _ ⟨u, rfl⟩
        clear k1 k2 kc
        have HAS1 := Lib.hid (HAS.out.grow u.ok)
        clear HAS
        generalize u.w = v1 at *
        obtain ⟨d0, d1, d2, d3, d4, d5⟩ := HAS1.out.oX.six
        have f1 := HAS1.out.oX.free 1
        have f2 := HAS1.out.oX.free 2
        have HAS2 := Lib.hid (HAS1.out.sum (z + v'))
        clear HAS1
        go_upto_region 8 with (fail)
        clear d0 d1 d2 d3 d4 d5 f1 f2
        generalize (v1.setCell ⟨X, 1, none⟩ (.int .i64 (hi (z + v')))).setCell ⟨X, 2, none⟩ (.int .u64 (lo (z + v'))) = v2 at *
        have k3 : ∀ u : Bel v2, u.w.cell? ⟨X, 3, none⟩ = some (.int .i64 mn) := fun u => (HAS2.out.grow u.ok).oX.six.2.2.2.1
        have kc : ∀ u : Bel v2, u.w.cell? (ad.add k) = some (.int .i64 v') := fun u => HCK.out _ (below_trans HAS2.out.hb u.ok)
        refine wp_region_belt 8 (by kernel_rfl) (by kernel_rfl) ?_
        simp only [List.take_succ_cons, List.take_zero, List.drop_succ_cons, List.drop_zero]
        repeat (go_big_quiet_step (fail))
        refine wpQuiet_nil ?_
        rintro _ ⟨u, rfl⟩
        clear k3 kc
        have HAS3 := Lib.hid (HAS2.out.grow u.ok)
        clear HAS2
        generalize u.w = v3 at *
        rw [HS3.out]
        have d3 := HAS3.out.oX.six.2.2.2.1
        have f3 := HAS3.out.oX.free 3
        have HAS4 := Lib.hid (HAS3.out.min mn2)
        clear HAS3
        go_upto_region 9 with (fail)
        clear d3 f3
        generalize v3.setCell ⟨X, 3, none⟩ (.int .i64 mn2) = v4 at *
        have k4 : ∀ u : Bel v4, u.w.cell? ⟨X, 4, none⟩ = some (.int .i64 mx) := fun u => (HAS4.out.grow u.ok).oX.six.2.2.2.2.1
        have kc : ∀ u : Bel v4, u.w.cell? (ad.add k) = some (.int .i64 v') := fun u => HCK.out _ (below_trans HAS4.out.hb u.ok)
        refine wp_region_belt 8 (by kernel_rfl) (by kernel_rfl) ?_
        simp only [List.take_succ_cons, List.take_zero, List.drop_succ_cons, List.drop_zero]
        repeat (go_big_quiet_step (fail))
        refine wpQuiet_nil ?_
        rintro _ ⟨u, rfl⟩
        clear k4 kc
        have HAS5 := Lib.hid (HAS4.out.grow u.ok)
        clear HAS4
        generalize u.w = v5 at *
        rw [HS4.out]
        have d4 := HAS5.out.oX.six.2.2.2.2.1
        have f4 := HAS5.out.oX.free 4
        have HAS6 := Lib.hid (HAS5.out.max mx2)
        clear HAS5
        go_upto_region 10 with (fail)
        clear d4 f4
        generalize v5.setCell ⟨X, 4, none⟩ (.int .i64 mx2) = v6 at *
        have d5 := HAS6.out.oX.six.2.2.2.2.2
        have hr1 := H1.out.1
        have hwk : IntKind.i64.wrap ((k : Int) + 1) = (k : Int) + 1 := by rw [IntKind.wrap_i64]; omega
        have HTC := Lib.hid (fun W (h : Below v6.heap.size v6 W) => specTopOf_any A3 l.length c3 l (some (ad.add k)) 1 (ca - k) [v'] W ((RowAt.reads (RowAt.of HAS6.out.rT)).below h) rfl (by have := HLD.out; omega) (owns_fit HAS6.out.rT) (H1.out.2.1.below (below_trans HAS6.out.hb h)) rfl (by omega) H1.out.2.2)
        go_region_with (go_at_call 102; refine (HTC.out _ (Below.refl _ _).drew).mono ?_; rintro e w7 ⟨A7, c7, rfl, r7, hb7⟩; have hb67 : Below v6.heap.size v6 w7 := below_trans (Below.refl _ _).drew hb7; have e5 := (HAS6.out.grow hb67).oX.six.2.2.2.2.2; have g5 := (HAS6.out.grow hb67).oX.free 5)
        all_goals
          have hXlt := HAS6.out.oX.lt
          have HAS7 := Lib.hid (show AS w (w7.setCell ⟨X, 5, none⟩ (.slice A7 (topOf (ts.take (k + 1))).length c7)) X n (sumTo ts (k + 1)) mn2 mx2 A7 c7 (topOf (ts.take (k + 1))) by
            rw [HS2.out, ← HS5.out]
            exact (HAS6.out.grow hb67).top (owns_base r7.1 (show X + 1 ≤ v6.heap.size from hXlt)))
          rw [HS5.out]
          clear d5 hr1 hwk HTC HAS6 r7 hb7 hb67 e5 g5
          go_wp2_with fail
          go_roundw
          case rel => exact ⟨k + 1, A7, c7, by omega, by go_num, by rw [HMN.out, HMX.out]; exact HAS7⟩
          case measure => simp [intOf]; omega
      · have hkn : k = n := by omega
        subst hkn
        generalize topOf (ts.take k) = l at *
        generalize sumTo ts k = z at *
        generalize mnT ts k = mn at *
        generalize mxT ts k = mx at *
        obtain ⟨d0, d1, d2, d3, d4, d5⟩ := HAS.out.oX.six
        obtain ⟨e0, e1, e2, e3, e4, e5⟩ := HAS.out.oB.six
        have g0 := HAS.out.oB.free 0
        have g1 := HAS.out.oB.free 1
        have g2 := HAS.out.oB.free 2
        have g3 := HAS.out.oB.free 3
        have g4 := HAS.out.oB.free 4
        have g5 := HAS.out.oB.free 5
        have HR := Lib.hid (show RowAt (X + 1) wr.heap.size wr 3 1 (.slice A3 l.length c3) l.length (iz l) from RowAt.of HAS.out.rT)
        have HB := Lib.hid HAS.out.hb
        have hlt2 : w.heap.size < X + 1 := by omega
        clear HAS
        go_wp2
        refine bodyPost_ret (v := agv k (hi z) (lo z) mn mx (.slice A3 l.length c3)) (by simp [results, Try.results87, go_sem, e0, e1, e2, e3, e4, e5]) rfl ⟨A3, c3, rfl, ?_, ?_⟩
        · simp only [size_set]
          exact ((((((HR.out.set _ _ hlt2).set _ _ hlt2).set _ _ hlt2).set _ _ hlt2).set _ _ hlt2).set _ _ hlt2).base (by omega)
        · exact (((((HB.out.setCell (Nat.le_refl _) _).setCell (Nat.le_refl _) _).setCell (Nat.le_refl _) _).setCell (Nat.le_refl _) _).setCell (Nat.le_refl _) _).setCell (Nat.le_refl _) _
  · have hg0 : aggL ts = [] := by
      unfold aggL
      split
      · exact List.eq_nil_of_length_eq_zero (by omega)
      · rfl
    have HRES := Lib.hid (show AggOfRes ts w = AggRes 0 0 0 0 [] w by unfold AggOfRes; rw [hg0]; rfl)
    rw [HRES.out]
    clear hg0 HRES hA hz hi64 hf
    by_cases h0 : n = 0
    · subst h0
      go_enter Try.func87, Try.ntmps87
      go_wp2
      refine bodyPost_ret (v := agv 0 0 0 0 0 (.slice none 0 0)) (by simp [results, Try.results87, go_sem]) rfl ⟨none, 0, rfl, ⟨⟨rfl, .inl ⟨rfl, rfl⟩⟩, fun k h => by simp [Value.ownBlock] at h⟩, below_alloc _ _⟩
    · have h1 : ((n : Int) == 0) = false := by simp; omega
      have h2 : decide ((1000000 : Int) < (n : Int)) = true := by simp; omega
      go_enter Try.func87, Try.ntmps87
      go_wp2
      refine bodyPost_ret (v := agv 0 0 0 0 0 (.slice none 0 0)) (by simp [results, Try.results87, go_sem]) rfl ⟨none, 0, rfl, ⟨⟨rfl, .inl ⟨rfl, rfl⟩⟩, fun k h => by simp [Value.ownBlock] at h⟩, below_alloc _ _⟩
end Go.Proofs.Ytlmlckgnmkjkdaa
