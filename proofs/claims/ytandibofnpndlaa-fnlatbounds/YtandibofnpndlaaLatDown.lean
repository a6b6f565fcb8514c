/-
  The program's and the model's LatDown.
-/
import Derived.Test.YtandibofnpndlaaLatSpecD
namespace Go.Proofs.Ytandibofnpndlaa
open Go.RowKit

/-- The call hands back a row of its own (nil, or in new memory) that holds the cells cs. -/
def RowOf (t : TypeId) (s : Nat) (w : World) (n : Nat) (cs : List Value) (e : Ending) (w' : World) : Prop := ∃ v, e = .returned v ∧ w'.ownsRow w.heap.size t s v n cs ∧ Below w.heap.size w w'

def downTo (xs : List Nat) (c k : Nat) : List Int := ((List.range k).filter fun a => le xs a c).map fun a : Nat => (a : Int)
theorem downTo_yes {xs : List Nat} {c k : Nat} (h : le xs k c = true) : downTo xs c (k + 1) = downTo xs c k ++ [(k : Int)] := by simp [downTo, List.range_succ, h]
theorem downTo_no {xs : List Nat} {c k : Nat} (h : le xs k c = false) : downTo xs c (k + 1) = downTo xs c k := by simp [downTo, List.range_succ, h]
theorem downTo_le (xs : List Nat) (c k : Nat) : (downTo xs c k).length ≤ k := by
  have := List.length_filter_le (fun a => le xs a c) (List.range k)
  simpa [downTo] using this
/-- the labels at or below c, none where the lattice or the label is not valid -/
noncomputable def downV (N : Int) (xs : List Nat) (c : Int) : List Int := if tf (LatP N xs ∧ Lab xs c) = true then downTo xs c.toNat xs.length else []
theorem downV_no {N : Int} {xs : List Nat} {c : Int} (h : ¬ (LatP N xs ∧ Lab xs c)) : downV N xs c = [] := by unfold downV; rw [← tf_no h]; rfl
theorem downV_yes {N : Int} {xs : List Nat} {c : Nat} (h : LatP N xs ∧ Lab xs c) : downV N xs c = downTo xs c xs.length := by unfold downV; rw [← tf_yes h]; rfl
theorem downV_le (N : Int) (xs : List Nat) (c : Int) : (downV N xs c).length ≤ xs.length := by
  unfold downV
  split
  · exact downTo_le _ _ _
  · simp

theorem append_box {wr w2 : World} {o : Obj} {v : Value} {g base n s : Nat} {t e : TypeId} {cs bs : List Value} (hrow : wr.ownsRow base e s v n cs) (hown : Own wr g t bs) (hg : g < base) (hgrow : (wr.alloc o).grownBy w2 v.ownBlock) : Own w2 g t bs :=
  (hgrow.block g (by have := hown.lt; simp; omega) (fun h => owns_lt hrow hg h.symm)).trans (hown.alloc o)
theorem append_below {w wr w2 : World} {o : Obj} {v : Value} {B base n s : Nat} {e : TypeId} {cs : List Value} (hbel : Below B w wr) (hB : B ≤ wr.heap.size) (hrow : wr.ownsRow base e s v n cs) (hbase : B ≤ base) (hgrow : (wr.alloc o).grownBy w2 v.ownBlock) : Below B w w2 :=
  (hbel.alloc hB o).grown hgrow (by simp; omega) (fun k h => by have := (hrow.lt k h).1; omega)


set_option maxHeartbeats 1000000 in
theorem implLatDown_any (N : Int) (A : Option Addr) (ca : Nat) (xs : List Nat) (c : Int) (w : World) (hA : Rd w A (us xs)) (hu : U64 xs) (hn : xs.length ≤ 1048576) :
    Calls Try.prog 31 #[.agg #[.int .i64 N, .slice A xs.length ca], .int .i64 c] w (RowOf 3 1 w (downV N xs c).length (iz (downV N xs c))) := by
  have HA := Lib.hid (fun W (h : Below w.heap.size w W) => hA.below h)
  clear hA
  by_cases hL : LatP N xs
  · obtain ⟨rfl, h1, h16⟩ := hL.len
    go_enter Try.func31, Try.ntmps31
    go_wp2_with fail
    refine (as_bool (tf_yes hL).symm (implLatOk_any _ A ca xs _ (HA.out _ (below_alloc _ _)) hu hn)).mono ?_
    have HL := Lib.hid hL
    clear hL
    rintro e w1 ⟨rfl, hb1⟩
    obtain ⟨ho1, hB1⟩ := box_own hb1
    have hz1 : w.heap.size + 1 ≤ w1.heap.size := by have := hb1.size; simp at this; omega
    clear hb1
    obtain ⟨c0, c1⟩ := ho1.two
    by_cases hc : Lab xs c
    · obtain ⟨c, rfl⟩ := Int.eq_ofNat_of_zero_le hc.1
      have hcl : c < xs.length := by have := hc.2; omega
      have Hc := Lib.hid hc
      clear hc
      go_wp2_with fail
      refine (isLabel_is xs.length c xs true _ rfl (tf_yes Hc.out).symm).mono ?_
      rintro e w' ⟨rfl, rfl⟩
      go_wp2
      obtain ⟨i0, hi, hz0, hz1', hz2⟩ := info_parts info_int
      have HI := Lib.hid hi
      have HZ0 := Lib.hid hz0
      have HZ1 := Lib.hid hz1'
      have HZ2 := Lib.hid hz2
      clear hi hz0 hz1' hz2 c0 c1
      go_loopw [5, 19] (fun v i wr => ∃ k : Nat, k ≤ xs.length ∧ i = .int .i64 k ∧ wr.ownsRow (w.heap.size + 1) 3 1 v (downTo xs c k).length (iz (downTo xs c k)) ∧ Own wr w.heap.size 26 [.int .i64 (xs.length : Int), .slice A xs.length ca] ∧ w.heap.size + 1 ≤ wr.heap.size ∧ Below w.heap.size w wr) (fun _ i _ => xs.length - (intOf i).toNat)
      case atStart => exact ⟨0, Nat.zero_le _, rfl, World.ownsRow_nil _ _ _ _, ho1, hz1, hB1⟩
      case round =>
        clear ho1 hz1 hB1
        obtain ⟨k, hk, rfl, hrow, hown, hsz, hbel⟩ := hrel
        obtain ⟨c0, c1⟩ := hown.two
        by_cases hlt : k < xs.length
        · have hR := HA.out _ hbel
          obtain ⟨ad, e', hcs⟩ := hR.nat (by omega)
          subst e'
          have ga : wr.cell? (ad.add k) = some (.int .u64 (row xs k : Int)) := hcs _ (Below.refl _ _) k hlt
          have hra : row xs k < 18446744073709551616 := hu.at k
          have hdl := downTo_le xs c k
          clear hcs hR
          cases hbit : (row xs k).testBit c with
          | false =>
            go_wp2_with (go_at_call 70; refine (hasLabel_any (row xs k) c _ hra (by omega)).mono ?_; rintro e w' ⟨rfl, rfl⟩)
            go_roundw
            case rel => exact ⟨k + 1, by omega, by go_num, by rw [downTo_no hbit]; exact hrow, hown, hsz, hbel⟩
            case measure => simp [intOf]; omega
          | true =>
            go_wp2_with (first
              | (go_at_call 70; refine (hasLabel_any (row xs k) c _ hra (by omega)).mono ?_; rintro e w' ⟨rfl, rfl⟩)
              | (at_builtin; refine wpList_append_own _ rfl _ _ 43 rfl (w.heap.size + 1) 3 i0 (.int .i64 0) 1 8 Try.underlying43 HI.out HZ0.out HZ1.out HZ2.out rfl (by decide) _ _ _ rfl (hrow.alloc _) ⟨wr.heap.size, 0, none⟩ 1 1 [.int .i64 (k : Int)] rfl rfl ?c1 ?c2 ?c3 ?c4 ?c5 ?_))
            case c1 =>
              intro j u hj
              match j, hj with
              | 0, hj => simp at hj; subst hj; simp [Addr.add]
            case c2 => intro u hu'; simp at hu'; subst hu'; rfl
            case c3 => unfold maxLen; omega
            case c4 => omega
            case c5 => simp; omega
            intro v' w2 hrow' hgrow _
            have hR2 : w2.ownsRow (w.heap.size + 1) 3 1 v' (downTo xs c (k + 1)).length (iz (downTo xs c (k + 1))) := by
              rw [downTo_yes hbit, iz_append]; simpa [iz] using hrow'
            have hO2 := append_box hrow hown (by omega) hgrow
            have hB2 := append_below hbel (by omega) hrow (by omega) hgrow
            have hS2 : w.heap.size + 1 ≤ w2.heap.size := by have := hgrow.size; simp at this; omega
            clear hrow' hgrow hrow hown hbel hsz c0 c1 ga
            go_wp2
            go_roundw
            case rel => exact ⟨k + 1, by omega, by go_num, hR2, hO2, hS2, hB2⟩
            case measure => simp [intOf]; omega
        · go_wp2
          go_ret
          refine ⟨_, rfl, ?_, hbel⟩
          have hkn : k = xs.length := by omega
          subst hkn
          rw [downV_yes ⟨HL.out, Hc.out⟩]
          exact owns_base hrow (by omega)
    · have Hc := Lib.hid hc
      clear hc
      go_wp2_with fail
      refine (isLabel_is xs.length c xs false _ rfl (tf_no Hc.out).symm).mono ?_
      rintro e w' ⟨rfl, rfl⟩
      go_wp2
      go_ret
      refine ⟨_, rfl, ?_, hB1⟩
      rw [downV_no (fun h => Hc.out h.2)]
      exact World.ownsRow_nil _ _ _ _
  · go_enter Try.func31, Try.ntmps31
    go_wp2_with fail
    refine (as_bool (tf_no hL).symm (implLatOk_any N A ca xs _ (HA.out _ (below_alloc _ _)) hu hn)).mono ?_
    have HL := Lib.hid hL
    clear hL
    rintro e w1 ⟨rfl, hb1⟩
    go_wp2
    go_ret
    refine ⟨_, rfl, ?_, (box_own hb1).2⟩
    rw [downV_no (fun h => HL.out h.1)]
    exact World.ownsRow_nil _ _ _ _

set_option maxHeartbeats 1000000 in
theorem specLatDown_any (N : Int) (A : Option Addr) (ca : Nat) (xs : List Nat) (c : Int) (w : World) (hA : Rd w A (us xs)) (hu : U64 xs) (hn : xs.length ≤ 1048576) :
    Calls Try.prog 33 #[.agg #[.int .i64 N, .slice A xs.length ca], .int .i64 c] w (RowOf 3 1 w (downV N xs c).length (iz (downV N xs c))) := by
  have HA := Lib.hid (fun W (h : Below w.heap.size w W) => hA.below h)
  clear hA
  by_cases hL : LatP N xs ∧ Lab xs c
  · obtain ⟨rfl, h1, h16⟩ := hL.1.len
    obtain ⟨c, rfl⟩ := Int.eq_ofNat_of_zero_le hL.2.1
    have hcl : c < xs.length := by have := hL.2.2; omega
    have HL := Lib.hid hL
    clear hL
    go_enter Try.func33, Try.ntmps33
    go_wp2
    obtain ⟨i0, hi, hz0, hz1', hz2⟩ := info_parts info_int
    have HI := Lib.hid hi
    have HZ0 := Lib.hid hz0
    have HZ1 := Lib.hid hz1'
    have HZ2 := Lib.hid hz2
    clear hi hz0 hz1' hz2
    go_loopw [5, 6] (fun v i wr => ∃ k : Nat, k ≤ xs.length ∧ i = .int .i64 k ∧ wr.ownsRow (w.heap.size + 1) 3 1 v (downTo xs c k).length (iz (downTo xs c k)) ∧ Own wr w.heap.size 26 [.int .i64 (xs.length : Int), .slice A xs.length ca] ∧ w.heap.size + 1 ≤ wr.heap.size ∧ Below w.heap.size w wr) (fun _ i _ => xs.length - (intOf i).toNat)
    case atStart =>
      refine ⟨0, Nat.zero_le _, rfl, ?_, ?_, ?_, ?_⟩
      · have := World.ownsRow_lit (base := w.heap.size + 1) (e := 3) (size := 1) (w.alloc (.cells #[.int .i64 (xs.length : Int), .slice A xs.length ca] 26)) #[] 0 (by simp) (by simp) (by simp)
        simpa [downTo, iz] using this
      · exact (Own.new _ _ _).alloc _
      · simp
      · exact below_trans (below_alloc _ _) (below_alloc _ _)
    case round =>
      obtain ⟨k, hk, rfl, hrow, hown, hsz, hbel⟩ := hrel
      obtain ⟨c0, c1⟩ := hown.two
      go_wp2_with fail
      refine (as_bool (tf_yes HL.out).symm (l01Label_any _ A ca xs c _ (HA.out _ hbel) hu hn)).mono ?_
      rintro e w1 ⟨rfl, hb1⟩
      have hrow1 := owns_grow hrow hb1
      have hown1 := hown.grow hb1
      have hbel1 := below_trans hbel hb1
      have hsz1 : w.heap.size + 1 ≤ w1.heap.size := by have := hb1.size; omega
      clear hrow hown hbel hsz hb1 c0 c1
      obtain ⟨c0, c1⟩ := hown1.two
      by_cases hlt : k < xs.length
      · have hR := HA.out _ hbel1
        obtain ⟨ad, e', hcs⟩ := hR.nat (by omega)
        subst e'
        have ga : w1.cell? (ad.add k) = some (.int .u64 (row xs k : Int)) := hcs _ (Below.refl _ _) k hlt
        have hra : row xs k < 18446744073709551616 := hu.at k
        have hdl := downTo_le xs c k
        clear hcs hR
        cases hbit : (row xs k).testBit c with
        | false =>
          go_wp2_with (go_at_call 58; refine (l01Bit_any (row xs k) c _ hra (by omega)).mono ?_; rintro e w' ⟨rfl, rfl⟩)
          go_roundw
          case rel => exact ⟨k + 1, by omega, by go_num, by rw [downTo_no hbit]; exact hrow1, hown1, hsz1, hbel1⟩
          case measure => simp [intOf]; omega
        | true =>
          go_wp2_with (first
            | (go_at_call 58; refine (l01Bit_any (row xs k) c _ hra (by omega)).mono ?_; rintro e w' ⟨rfl, rfl⟩)
            | (at_builtin; refine wpList_append_own _ rfl _ _ 43 rfl (w.heap.size + 1) 3 i0 (.int .i64 0) 1 8 Try.underlying43 HI.out HZ0.out HZ1.out HZ2.out rfl (by decide) _ _ _ rfl (hrow1.alloc _) ⟨w1.heap.size, 0, none⟩ 1 1 [.int .i64 (k : Int)] rfl rfl ?c1 ?c2 ?c3 ?c4 ?c5 ?_))
          case c1 =>
            intro j u hj
            match j, hj with
            | 0, hj => simp at hj; subst hj; simp [Addr.add]
          case c2 => intro u hu'; simp at hu'; subst hu'; rfl
          case c3 => unfold maxLen; omega
          case c4 => omega
          case c5 => simp; omega
          intro v' w2 hrow' hgrow _
          have hR2 : w2.ownsRow (w.heap.size + 1) 3 1 v' (downTo xs c (k + 1)).length (iz (downTo xs c (k + 1))) := by
            rw [downTo_yes hbit, iz_append]; simpa [iz] using hrow'
          have hO2 := append_box hrow1 hown1 (by omega) hgrow
          have hB2 := append_below hbel1 (by omega) hrow1 (by omega) hgrow
          have hS2 : w.heap.size + 1 ≤ w2.heap.size := by have := hgrow.size; simp at this; omega
          clear hrow' hgrow hrow1 hown1 hbel1 hsz1 c0 c1 ga
          go_wp2
          go_roundw
          case rel => exact ⟨k + 1, by omega, by go_num, hR2, hO2, hS2, hB2⟩
          case measure => simp [intOf]; omega
      · go_wp2
        go_ret
        refine ⟨_, rfl, ?_, hbel1⟩
        have hkn : k = xs.length := by omega
        subst hkn
        rw [downV_yes HL.out]
        exact owns_base hrow1 (by omega)
  · have HL := Lib.hid hL
    clear hL
    go_enter Try.func33, Try.ntmps33
    go_wp2
    refine wp_loop_rounds 1 ?_
    rw [rounds_succ]
    go_wp2_with fail
    refine (as_bool (tf_no HL.out).symm (l01Label_any N A ca xs c _ (HA.out _ (below_trans (below_alloc _ _) (below_alloc _ _))) hu hn)).mono ?_
    rintro e w1 ⟨rfl, hb1⟩
    go_wp2
    go_ret
    refine ⟨_, rfl, ?_, below_trans (below_trans (below_alloc _ _) (below_alloc _ _)) hb1⟩
    rw [downV_no HL.out]
    have h0 := World.ownsRow_lit (base := w.heap.size) (e := 3) (size := 1) (w.alloc (.cells #[.int .i64 N, .slice A xs.length ca] 26)) #[] 0 (by simp) (by simp) (by simp)
    have h1 := owns_grow h0 hb1
    simpa [iz] using h1
end Go.Proofs.Ytandibofnpndlaa
