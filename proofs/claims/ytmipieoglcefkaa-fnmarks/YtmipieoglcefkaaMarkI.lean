/-
  Watermarks: the program's small functions: what they return.
-/
import Derived.Test.YtmipieoglcefkaaMarkS
import Derived.Test.YtmipieoglcefkaaOnly
namespace Go.Proofs.Ytmipieoglcefkaa
open Go.RowKit

set_option maxHeartbeats 400000 in
theorem isTime_any (t : Int) (w : World) : Calls Try.prog 35 #[.int .i64 t] w fun e w' => e = .returned (.bool (tf (isT t))) ∧ w = w' := by
  by_cases h0 : 0 ≤ t
  · by_cases h1 : t ≤ 1000
    · go_enter Try.func35, Try.ntmps35
      go_wp2
      go_ret
      exact ⟨ret_bool (by rw [← tf_yes (show isT t from ⟨h0, h1⟩)]), rfl⟩
    · go_enter Try.func35, Try.ntmps35
      go_wp2
      go_ret
      exact ⟨ret_bool (tf_no (fun h : isT t => by have := h.2; omega)), rfl⟩
  · go_enter Try.func35, Try.ntmps35
    go_wp2
    go_ret
    exact ⟨ret_bool (tf_no (fun h : isT t => by have := h.1; omega)), rfl⟩


/-- the least so far, in a block of its own -/
def leastCells (p : Mk) : List Value := [.int .i64 p.1, .bool p.2]
/-- keep, bound to that block -/
def keepAt (g : Nat) : Value := .func (.func 43) #[.pointer (some ⟨g, 0, none⟩)] #[]

set_option maxHeartbeats 400000 in
theorem keep_any (g : Nat) (p : Mk) (x : Int) (w : World) (h : Own w g 62 (leastCells p)) :
    Calls Try.prog 43 #[.pointer (some ⟨g, 0, none⟩), .int .i64 x] w fun e w' => e = .returned (.tuple #[]) ∧ Own w' g 62 (leastCells (lst p (x, false))) ∧ w.grownBy w' (some g) := by
  obtain ⟨l, s⟩ := p
  obtain ⟨c0, c1⟩ := Own.two (c0 := .int .i64 l) (c1 := .bool s) h
  have f0 := h.free 0
  have f1 := h.free 1
  have HH := Lib.hid h
  have HW := Lib.hid (show Own ((w.setCell ⟨g, 0, none⟩ (.int .i64 x)).setCell ⟨g, 1, none⟩ (.bool true)) g 62 (leastCells (x, true)) from (h.set 0 _).set 1 _)
  have HG := Lib.hid (show w.grownBy ((w.setCell ⟨g, 0, none⟩ (.int .i64 x)).setCell ⟨g, 1, none⟩ (.bool true)) (some g) from only_set (only_set (World.grownBy.refl _ _)))
  clear h
  cases s with
  | false =>
    go_enter Try.func43, Try.ntmps43
    go_wp2
    go_end0
    refine ⟨rfl, ?_, HG.out⟩
    rw [lst_take (by simp)]
    exact HW.out
  | true =>
    by_cases hx : x < l
    · go_enter Try.func43, Try.ntmps43
      go_wp2
      go_end0
      refine ⟨rfl, ?_, HG.out⟩
      rw [lst_take ⟨rfl, .inr hx⟩]
      exact HW.out
    · go_enter Try.func43, Try.ntmps43
      go_wp2
      go_end0
      refine ⟨rfl, ?_, World.grownBy.refl _ _⟩
      rw [lst_keep (by simp; omega)]
      exact HH.out

set_option maxHeartbeats 400000 in
theorem tell_any (b off g : Nat) (x : Int) (d : Bool) (p : Mk) (w : World) (h : Own w g 62 (leastCells p)) (c0 : w.cell? ⟨b, off, none⟩ = some (.int .i64 x)) (c1 : w.cell? ⟨b, off + 1, none⟩ = some (.bool d)) :
    Calls Try.prog 44 #[.pointer (some ⟨b, off, none⟩), keepAt g] w fun e w' => e = .returned (.tuple #[]) ∧ Own w' g 62 (leastCells (lst p (x, d))) ∧ w.grownBy w' (some g) := by
  have HH := Lib.hid h
  clear h
  unfold keepAt
  cases d with
  | true =>
    go_enter Try.func44, Try.ntmps44
    go_wp2
    go_end0
    refine ⟨rfl, ?_, World.grownBy.refl _ _⟩
    rw [lst_keep (by simp)]
    exact HH.out
  | false =>
    go_enter Try.func44, Try.ntmps44
    go_wp2_with fail
    refine (keep_any g p x _ HH.out).mono ?_
    rintro e w1 ⟨rfl, ho, hg⟩
    go_wp2
    go_end0
    exact ⟨rfl, ho, hg⟩

set_option maxHeartbeats 1000000 in
theorem implMarksLeast_any (G : Int) (A : Option Addr) (n ca : Nat) (ms : List Mk) (w : World) (hA : Rd w A (mz ms)) (hz : ms.length = n) (hn : n ≤ 1048576) :
    Calls Try.prog 19 #[msv G (.slice A n ca)] w fun e w' => e = .returned (.int .i64 (leastOf ms)) ∧ Below w.heap.size w w' := by
  have hmf : ∀ (fn : Fn) (first cap : Array Value) (w : World), (Instr.makeFunc fn first cap).run Try.prog w = .ok (.func fn first cap) w := fun _ _ _ _ => rfl
  have HZ := Lib.hid hz
  have HA := Lib.hid hA
  clear hz hA
  go_enter Try.func19, Try.ntmps19
  go_wp2
  go_loopw [11] (fun i wr => ∃ k : Nat, k ≤ n ∧ i = .int .i64 k ∧ Own wr w.heap.size 26 [.int .i64 G, .slice A n ca] ∧ Own wr (w.heap.size + 1) 62 (leastCells (leastTo ms k)) ∧ Below w.heap.size w wr) (fun i _ => n - (intOf i).toNat)
  case atStart =>
    refine ⟨0, Nat.zero_le _, rfl, (Own.new w 26 [.int .i64 G, .slice A n ca]).alloc _, ?_, below_trans (below_alloc _ _) (below_alloc _ _)⟩
    rw [leastTo_zero]
    show Own _ _ _ [.int .i64 (-1), .bool false]
    have := Own.new (w.alloc (.cells #[.int .i64 G, .slice A n ca] 26)) 62 [.int .i64 (-1), .bool false]
    simpa using this
  case round =>
    obtain ⟨k, hk, rfl, ho, hl, hbel⟩ := hrel
    obtain ⟨o0, o1⟩ := ho.two
    by_cases hlt : k < n
    · have hlm : k < ms.length := by rw [HZ.out]; exact hlt
      obtain ⟨b, off, rfl, hb, hc⟩ := HA.out.mark hlm
      obtain ⟨c0, c1⟩ := hc _ hbel
      clear hc
      go_wp2_with fail
      refine (tell_any b (off + k * 2) (w.heap.size + 1) _ _ _ _ hl c0 c1).mono ?_
      rintro e w1 ⟨rfl, hl1, hg⟩
      have HS := Lib.hid (leastTo_succ hlm)
      have ho1 : Own w1 w.heap.size 26 [.int .i64 G, .slice (some ⟨b, off, none⟩) n ca] := (hg.block _ ho.lt (by simp)).trans ho
      have hb1 : Below w.heap.size w w1 := hbel.grown hg hbel.size (fun j hj => by injection hj with hj; omega)
      clear o0 o1 c0 c1 hg hl ho hbel
      go_wp2
      go_roundw
      case rel => exact ⟨k + 1, by omega, by go_num, ho1, by rw [HS.out]; exact hl1, hb1⟩
      case measure => simp [intOf]; omega
    · obtain ⟨l0, l1⟩ := Own.two (c0 := .int .i64 (leastTo ms k).1) (c1 := .bool (leastTo ms k).2) hl
      go_wp2
      go_ret
      have hkn : k = ms.length := by rw [HZ.out]; omega
      subst hkn
      exact ⟨rfl, hbel⟩

set_option maxHeartbeats 1000000 in
theorem implMarksOk_any (G : Int) (A : Option Addr) (n ca : Nat) (ms : List Mk) (w : World) (hA : Rd w A (mz ms)) (hz : ms.length = n) (hn : n ≤ 1048576) :
    Calls Try.prog 13 #[msv G (.slice A n ca)] w fun e w' => e = .returned (.bool (tf (marksOk G ms))) ∧ Below w.heap.size w w' := by
  have hb0 := below_alloc w (.cells #[.int .i64 G, .slice A n ca] 26)
  have HZ := Lib.hid hz
  have HA := Lib.hid hA
  clear hz hA
  by_cases h1 : (n : Int) < 1
  · go_enter Try.func13, Try.ntmps13
    go_wp2_with fail
    go_ret
    exact ⟨ret_bool (tf_no (ok_no1 (by rw [HZ.out]; omega))), hb0⟩
  by_cases h4 : 4 < (n : Int)
  · go_enter Try.func13, Try.ntmps13
    go_wp2_with fail
    go_ret
    exact ⟨ret_bool (tf_no (ok_no2 (by rw [HZ.out]; omega))), hb0⟩
  have HN := Lib.hid (show 1 ≤ n ∧ n ≤ 4 by omega)
  go_enter Try.func13, Try.ntmps13
  go_wp2_with fail
  go_loopw [3, 19] (fun g i wr => ∃ k : Nat, k ≤ n ∧ i = .int .i64 k ∧ g = .int .i64 (mostTo ms k) ∧ Hid (timesTo ms k) ∧ Own wr w.heap.size 26 [.int .i64 G, .slice A n ca] ∧ Below w.heap.size w wr) (fun _ i _ => n - (intOf i).toNat)
  case atStart => exact ⟨0, Nat.zero_le _, rfl, by rw [mostTo_zero], Lib.hid fun j hj => by omega, Own.new w 26 [.int .i64 G, .slice A n ca], hb0⟩
  case round =>
    obtain ⟨k, hk, rfl, rfl, HT, ho, hbel⟩ := hrel
    by_cases hlt : k < n
    · have hlm : k < ms.length := by rw [HZ.out]; exact hlt
      obtain ⟨b, off, rfl, hb, hc⟩ := HA.out.mark hlm
      obtain ⟨c0, c1⟩ := hc _ hbel
      clear hc
      have HS := Lib.hid (mostTo_succ hlm)
      have HO := Lib.hid (ho.alloc (.cells #[.int .i64 (mat ms k).1, .bool (mat ms k).2] 36))
      have HB := Lib.hid (below_trans hbel (below_alloc wr (.cells #[.int .i64 (mat ms k).1, .bool (mat ms k).2] 36)))
      by_cases ht : isT (mat ms k).1
      · have HT2 := Lib.hid (timesTo_succ HT.out ht)
        have HTT := Lib.hid ht
        clear ht
        go_wp2_with (go_at_call 35; refine (as_bool (tf_yes HTT.out).symm (isTime_any _ _)).mono ?_; rintro e _ ⟨rfl, rfl⟩)
        go_roundw
        case rel => exact ⟨k + 1, by omega, by go_num, by rw [HS.out, max_is], HT2, HO.out, HB.out⟩
        case measure => simp [intOf]; omega
      · have HTT := Lib.hid ht
        clear ht
        go_wp2_with (go_at_call 35; refine (as_bool (tf_no HTT.out).symm (isTime_any _ _)).mono ?_; rintro e _ ⟨rfl, rfl⟩)
        go_ret
        exact ⟨ret_bool (tf_no (ok_no4 hlm HTT.out)), HB.out⟩
    · have hkn : k = ms.length := by rw [HZ.out]; omega
      have HE := Lib.hid (show marksOk G ms ↔ isT G ∧ leastOf ms ≤ G ∧ G ≤ mostTo ms k from ⟨fun q => by rw [hkn]; exact ⟨q.2.2.1, q.2.2.2.2.1, q.2.2.2.2.2⟩, fun q => ⟨by rw [HZ.out]; exact HN.out.1, by rw [HZ.out]; exact HN.out.2, q.1, by have := HT.out; rwa [hkn] at this, q.2.1, by have := q.2.2; rwa [hkn] at this⟩⟩)
      have k0 : ∀ u : Bel wr, u.w.cell? ⟨w.heap.size, 0, none⟩ = some (.int .i64 G) := fun u => (ho.grow u.ok).two.1
      have k1 : ∀ u : Bel wr, u.w.cell? ⟨w.heap.size, 1, none⟩ = some (.slice A n ca) := fun u => (ho.grow u.ok).two.2
      have HC := Lib.hid (fun (u : Bel wr) => implMarksLeast_any G A n ca ms u.w (HA.out.below (below_trans hbel u.ok)) HZ.out hn)
      clear hkn HA
      generalize mostTo ms k = M at *
      generalize leastOf ms = L at *
      by_cases hG : isT G
      · have HG := Lib.hid hG
        clear hG
        by_cases hL : L ≤ G
        · have hd : decide (L ≤ G) = true := by simp [hL]
          have hd2 : decide (G ≥ L) = true := by simp [hL]
          go_wp2_with fail
          refine wp_region_bel (by kernel_rfl) (by kernel_rfl) ?_
          repeat (go_big_quiet_step (first | (go_at_call 35; exact bel_of_same _ (as_bool (tf_yes HG.out).symm (isTime_any G _))) | (go_at_call 19; exact bel_of _ (HC.out _))))
          refine wpQuiet_nil ?_
          rintro _ ⟨u, rfl⟩
          go_wp2
          go_ret
          refine ⟨ret_bool ?_, below_trans hbel u.ok⟩
          by_cases hM : G ≤ M
          · rw [← tf_yes (HE.out.2 ⟨HG.out, hL, hM⟩)]; simp [hM]
          · rw [← tf_no (fun q => hM (HE.out.1 q).2.2)]; simp [hM]
        · have hd : decide (L ≤ G) = false := by simp; omega
          have hd2 : decide (G ≥ L) = false := by simp; omega
          go_wp2_with fail
          refine wp_region_bel (by kernel_rfl) (by kernel_rfl) ?_
          repeat (go_big_quiet_step (first | (go_at_call 35; exact bel_of_same _ (as_bool (tf_yes HG.out).symm (isTime_any G _))) | (go_at_call 19; exact bel_of _ (HC.out _))))
          refine wpQuiet_nil ?_
          rintro _ ⟨u, rfl⟩
          go_wp2
          go_ret
          exact ⟨ret_bool (tf_no (fun q => by have := (HE.out.1 q).2.1; omega)), below_trans hbel u.ok⟩
      · have HG := Lib.hid hG
        clear hG
        go_wp2_with fail
        refine wp_region_bel (by kernel_rfl) (by kernel_rfl) ?_
        repeat (go_big_quiet_step (first | (go_at_call 35; exact bel_of_same _ (as_bool (tf_no HG.out).symm (isTime_any G _))) | (go_at_call 19; exact bel_of _ (HC.out _))))
        refine wpQuiet_nil ?_
        rintro _ ⟨u, rfl⟩
        go_wp2
        go_ret
        exact ⟨ret_bool (tf_no (fun q => HG.out (HE.out.1 q).1)), below_trans hbel u.ok⟩

set_option maxHeartbeats 1000000 in
theorem implMarksLate_any (G : Int) (A : Option Addr) (n ca : Nat) (ms : List Mk) (t : Int) (w : World) (hA : Rd w A (mz ms)) (hz : ms.length = n) (hn : n ≤ 1048576) :
    Calls Try.prog 20 #[msv G (.slice A n ca), .int .i64 t] w fun e w' => e = .returned (.bool (tf (marksOk G ms ∧ t < G))) ∧ Below w.heap.size w w' := by
  have HC := Lib.hid (implMarksOk_any G A n ca ms _ (hA.below (below_alloc w (.cells #[.int .i64 G, .slice A n ca] 26))) hz hn)
  clear hA
  by_cases hok : marksOk G ms
  · have HK := Lib.hid hok
    clear hok
    go_enter Try.func20, Try.ntmps20
    go_wp2_with fail
    refine (as_bool (tf_yes HK.out).symm HC.out).mono ?_
    rintro e w1 ⟨rfl, hb1⟩
    obtain ⟨ho, hb⟩ := box_own hb1
    clear hb1
    obtain ⟨c0, c1⟩ := ho.two
    go_wp2
    go_ret
    refine ⟨ret_bool ?_, hb⟩
    by_cases h : t < G
    · rw [← tf_yes ⟨HK.out, h⟩]; simp [h]
    · rw [← tf_no (fun q => h q.2)]; simp [h]
  · have HK := Lib.hid hok
    clear hok
    go_enter Try.func20, Try.ntmps20
    go_wp2_with fail
    refine (as_bool (tf_no HK.out).symm HC.out).mono ?_
    rintro e w1 ⟨rfl, hb1⟩
    obtain ⟨ho, hb⟩ := box_own hb1
    clear hb1
    go_wp2
    go_ret
    exact ⟨ret_bool (tf_no (fun q => HK.out q.1)), hb⟩

set_option maxHeartbeats 1000000 in
theorem marksHave_any (G : Int) (A : Option Addr) (n ca : Nat) (ms : List Mk) (src : Int) (w : World) (hA : Rd w A (mz ms)) (hz : ms.length = n) (hn : n ≤ 1048576) :
    Calls Try.prog 36 #[msv G (.slice A n ca), .int .i64 src] w fun e w' => e = .returned (.bool (tf (hasSrc G ms src))) ∧ Below w.heap.size w w' := by
  have HC := Lib.hid (implMarksOk_any G A n ca ms _ (hA.below (below_alloc w (.cells #[.int .i64 G, .slice A n ca] 26))) hz hn)
  have HZ := Lib.hid hz
  clear hA hz
  by_cases hok : marksOk G ms
  · have HK := Lib.hid hok
    clear hok
    by_cases h0 : 0 ≤ src
    · go_enter Try.func36, Try.ntmps36
      go_wp2_with fail
      refine (as_bool (tf_yes HK.out).symm HC.out).mono ?_
      rintro e w1 ⟨rfl, hb1⟩
      obtain ⟨ho, hb⟩ := box_own hb1
      clear hb1
      obtain ⟨c0, c1⟩ := ho.two
      go_wp2
      go_ret
      refine ⟨ret_bool ?_, hb⟩
      have hl := HZ.out
      by_cases h : src < n
      · rw [← tf_yes (show hasSrc G ms src from ⟨HK.out, h0, by omega⟩)]; simp [h]
      · rw [← tf_no (fun q : hasSrc G ms src => by have := q.2.2; omega)]; simp; omega
    · go_enter Try.func36, Try.ntmps36
      go_wp2_with fail
      refine (as_bool (tf_yes HK.out).symm HC.out).mono ?_
      rintro e w1 ⟨rfl, hb1⟩
      obtain ⟨ho, hb⟩ := box_own hb1
      clear hb1
      obtain ⟨c0, c1⟩ := ho.two
      go_wp2
      go_ret
      exact ⟨ret_bool (tf_no (fun q => by have := q.2.1; omega)), hb⟩
  · have HK := Lib.hid hok
    clear hok
    go_enter Try.func36, Try.ntmps36
    go_wp2_with fail
    refine (as_bool (tf_no HK.out).symm HC.out).mono ?_
    rintro e w1 ⟨rfl, hb1⟩
    obtain ⟨ho, hb⟩ := box_own hb1
    clear hb1
    go_wp2
    go_ret
    exact ⟨ret_bool (tf_no (fun q => HK.out q.1)), hb⟩
end Go.Proofs.Ytmipieoglcefkaa
