/-
  MarkSet and MarkIdle, the model's: what they return.
-/
import Derived.Test.YtmipieoglcefkaaMarkSetS
import Derived.Test.YtmipieoglcefkaaMarkSetJ
namespace Go.Proofs.Ytmipieoglcefkaa
open Go.RowKit

/-- what was handed back by a callee, in a variable of the caller -/
theorem res_moved {M : Int} {rs : List Mk} {w w2 w3 : World} {A : Option Addr} {n c R : Nat} (hR : w.heap.size ≤ R) (hR2 : R < w2.heap.size) (hw : w.heap.size ≤ w2.heap.size) (hrow : RowAt w2.heap.size w3.heap.size w3 36 2 (.slice A n c) n (mz rs)) (hb : Below w.heap.size w w3) :
    RowAt w.heap.size ((w3.setCell ⟨R, 0, none⟩ (.int .i64 M)).setCell ⟨R, 1, none⟩ (.slice A n c)).heap.size ((w3.setCell ⟨R, 0, none⟩ (.int .i64 M)).setCell ⟨R, 1, none⟩ (.slice A n c)) 36 2 (.slice A n c) n (mz rs) ∧
    Below w.heap.size w ((w3.setCell ⟨R, 0, none⟩ (.int .i64 M)).setCell ⟨R, 1, none⟩ (.slice A n c)) := by
  have h1 := owns_lt hrow.1 hR2
  refine ⟨RowAt.of (owns_base (base := w2.heap.size) ?_ hw), (hb.setCell (p := ⟨R, 0, none⟩) hR _).setCell (p := ⟨R, 1, none⟩) hR _⟩
  exact owns_far (owns_far hrow.1 (only_set (g := R) (World.grownBy.refl _ _)) h1) (only_set (g := R) (World.grownBy.refl _ _)) h1

set_option maxRecDepth 100000 in
set_option maxHeartbeats 2000000 in
theorem specMarkSet_any (G : Int) (A : Option Addr) (n ca : Nat) (ms : List Mk) (src x : Int) (w : World) (hA : Rd w A (mz ms)) (hz : ms.length = n) (hn : n ≤ 1048576) :
    Calls Try.prog 16 #[msv G (.slice A n ca), .int .i64 src, .int .i64 x] w (MkRes (setG G ms src x) w) := by
  have HA := Lib.hid (fun W (h : Below w.heap.size w W) => hA.below h)
  have HZ := Lib.hid hz
  have hA0 := hA
  clear hA hz
  obtain ⟨p0, p1, hb⟩ := two_new (w := w) (c1 := [.int .i64 G, .slice A n ca]) (c2 := [.int .i64 0, .slice none 0 0]) (t1 := 26) (t2 := 26)
  by_cases hh : hasSrc G ms src
  · obtain ⟨k, rfl, hk⟩ := hasSrc_nat hh
    obtain ⟨b, off, rfl, _, hc⟩ := hA0.mark hk
    rw [HZ.out] at hk
    go_enter Try.func16, Try.ntmps16
    go_wp2_with fail
    refine (as_bool (tf_yes hh).symm (l05Src_any G _ n ca ms k _ (HA.out _ hb) HZ.out hn)).mono ?_
    rintro e w2 ⟨rfl, hb2⟩
    replace p0 := p0.grow hb2
    replace p1 := p1.grow hb2
    replace hb := below_trans hb hb2
    clear hb2 hA0
    obtain ⟨k0, k1⟩ := p0.two
    obtain ⟨k2, k3⟩ := p1.two
    have fr0 := p1.free 0
    have fr1 := p1.free 1
    by_cases ht : isT x
    · have HT := Lib.hid (And.intro hh ht)
      clear hh ht
      obtain ⟨m0, m1⟩ := hc _ hb
      clear hc
      by_cases hx : x < (mat ms k).1
      · go_wp2_with (go_at_call 34; refine (as_bool (tf_yes HT.out.2).symm (l05Time_any x _)).mono ?_; rintro e _ ⟨rfl, rfl⟩)
        refine bodyPost_ret (v := .tuple #[msv 0 (.slice none 0 0), .int .i64 2]) (by simp [results, Try.results16, go_sem, k2, k3]) rfl ?_
        rw [setG_back HT.out (by simpa using hx)]
        exact ⟨none, 0, rfl, row_none w _, (hb.setCell (by simp) _).setCell (by simp) _⟩
      · have HX := Lib.hid hx
        go_wp2_with fail
        refine (as_bool (tf_yes HT.out.2).symm (l05Time_any x _)).mono ?_
        rintro e _ ⟨rfl, rfl⟩
        go_wp2_with fail
        clear k0 k1 k2 k3 fr0 fr1 m0 m1 hx
        refine (l05With_any G _ n ca ms k x false _ (HA.out _ hb) HZ.out hn hk).mono ?_
        rintro e w3 ⟨A3, c3, rfl, r3, hb3⟩
        have q1 := p1.grow hb3
        have HD := Lib.hid (res_moved (M := (withM G ms k (x, false)).1) (R := w.heap.size + 1) (by omega) p1.lt hb.size r3 (below_trans hb hb3))
        have HF := Lib.hid (show setG G ms k x = ((withM G ms k (x, false)).1, (withM G ms k (x, false)).2, 0) by rw [setG_fine HT.out (by rw [Int.toNat_natCast]; have := HX.out; omega), Int.toNat_natCast])
        generalize withM G ms k (x, false) = R at *
        obtain ⟨t0, t1⟩ := q1.two
        have ft0 := q1.free 0
        have ft1 := q1.free 1
        clear p0 p1 hb hb3 r3 q1 HA
        go_wp2
        refine bodyPost_ret (v := .tuple #[msv R.1 (.slice A3 R.2.length c3), .int .i64 0]) (by simp [results, Try.results16, go_sem, t0, t1]) rfl ?_
        rw [HF.out]
        exact ⟨A3, c3, rfl, HD.out.1, HD.out.2⟩
    · have HT := Lib.hid ht
      clear ht
      go_wp2_with (go_at_call 34; refine (as_bool (tf_no HT.out).symm (l05Time_any x _)).mono ?_; rintro e _ ⟨rfl, rfl⟩)
      refine bodyPost_ret (v := .tuple #[msv 0 (.slice none 0 0), .int .i64 1]) (by simp [results, Try.results16, go_sem, k2, k3]) rfl ?_
      rw [setG_form (fun q => HT.out q.2)]
      exact ⟨none, 0, rfl, row_none w _, (hb.setCell (by simp) _).setCell (by simp) _⟩
  · go_enter Try.func16, Try.ntmps16
    go_wp2_with fail
    refine (as_bool (tf_no hh).symm (l05Src_any G _ n ca ms src _ (HA.out _ hb) HZ.out hn)).mono ?_
    rintro e w2 ⟨rfl, hb2⟩
    replace p1 := p1.grow hb2
    replace hb := below_trans hb hb2
    clear hb2 hA0
    obtain ⟨k2, k3⟩ := p1.two
    have fr0 := p1.free 0
    have fr1 := p1.free 1
    have HH := Lib.hid hh
    clear hh
    go_wp2
    refine bodyPost_ret (v := .tuple #[msv 0 (.slice none 0 0), .int .i64 1]) (by simp [results, Try.results16, go_sem, k2, k3]) rfl ?_
    rw [setG_form (fun q => HH.out q.1)]
    exact ⟨none, 0, rfl, row_none w _, (hb.setCell (by simp) _).setCell (by simp) _⟩
set_option maxRecDepth 100000 in
set_option maxHeartbeats 2000000 in
theorem specMarkIdle_any (G : Int) (A : Option Addr) (n ca : Nat) (ms : List Mk) (src : Int) (i : Bool) (w : World) (hA : Rd w A (mz ms)) (hz : ms.length = n) (hn : n ≤ 1048576) :
    Calls Try.prog 18 #[msv G (.slice A n ca), .int .i64 src, .bool i] w (MkRes (idleG G ms src i) w) := by
  have HA := Lib.hid (fun W (h : Below w.heap.size w W) => hA.below h)
  have HZ := Lib.hid hz
  have hA0 := hA
  clear hA hz
  obtain ⟨p0, p1, hb⟩ := two_new (w := w) (c1 := [.int .i64 G, .slice A n ca]) (c2 := [.int .i64 0, .slice none 0 0]) (t1 := 26) (t2 := 26)
  by_cases hh : hasSrc G ms src
  · obtain ⟨k, rfl, hk⟩ := hasSrc_nat hh
    obtain ⟨b, off, rfl, _, hc⟩ := hA0.mark hk
    rw [HZ.out] at hk
    go_enter Try.func18, Try.ntmps18
    go_wp2_with fail
    refine (as_bool (tf_yes hh).symm (l05Src_any G _ n ca ms k _ (HA.out _ hb) HZ.out hn)).mono ?_
    rintro e w2 ⟨rfl, hb2⟩
    replace p0 := p0.grow hb2
    replace p1 := p1.grow hb2
    replace hb := below_trans hb hb2
    clear hb2 hA0
    obtain ⟨k0, k1⟩ := p0.two
    obtain ⟨k2, k3⟩ := p1.two
    have fr0 := p1.free 0
    have fr1 := p1.free 1
    have HT := Lib.hid hh
    clear hh
    obtain ⟨m0, m1⟩ := hc _ hb
    clear hc
    have hd0 : 0 ≤ (k : Int) ∧ (k : Int) < n := by omega
    have HP := Lib.hid (And.intro p0 p1)
    have HB := Lib.hid hb
    go_upto_region 3 with (fail)
    clear p0 p1 hb
    go_region_with (go_at_call 41; refine (l05With_any G _ n ca ms k _ i _ (HA.out _ (HB.out.drew)) HZ.out hn hk).mono ?_; rintro e w3 ⟨A3, c3, rfl, r3, hb3⟩; have hb4 : Below w2.heap.size w2 w3 := below_trans (Below.refl w2.heap.size w2).drew hb3; obtain ⟨t0, t1⟩ := (HP.out.2.grow hb4).two; have ft0 := (HP.out.2.grow hb4).free 0; have ft1 := (HP.out.2.grow hb4).free 1)
    all_goals
      have HD := Lib.hid (res_moved (M := (withM G ms k ((mat ms k).1, i)).1) (R := w.heap.size + 1) (by omega) HP.out.2.lt HB.out.size r3 (below_trans HB.out hb4))
      have HF := Lib.hid (show idleG G ms k i = ((withM G ms k ((mat ms k).1, i)).1, (withM G ms k ((mat ms k).1, i)).2, 0) by rw [idleG_fine HT.out, Int.toNat_natCast])
      clear hb3 hb4 r3 HP HB HA k0 k1 k2 k3 fr0 fr1 m0 m1
      generalize withM G ms k ((mat ms k).1, i) = R at *
      go_wp2
      refine bodyPost_ret (v := .tuple #[msv R.1 (.slice A3 R.2.length c3), .int .i64 0]) (by simp [results, Try.results18, go_sem, t0, t1]) rfl ?_
      rw [HF.out]
      exact ⟨A3, c3, rfl, HD.out.1, HD.out.2⟩
  · go_enter Try.func18, Try.ntmps18
    go_wp2_with fail
    refine (as_bool (tf_no hh).symm (l05Src_any G _ n ca ms src _ (HA.out _ hb) HZ.out hn)).mono ?_
    rintro e w2 ⟨rfl, hb2⟩
    replace p1 := p1.grow hb2
    replace hb := below_trans hb hb2
    clear hb2 hA0
    obtain ⟨k2, k3⟩ := p1.two
    have fr0 := p1.free 0
    have fr1 := p1.free 1
    have HH := Lib.hid hh
    clear hh
    go_wp2
    refine bodyPost_ret (v := .tuple #[msv 0 (.slice none 0 0), .int .i64 1]) (by simp [results, Try.results18, go_sem, k2, k3]) rfl ?_
    rw [idleG_form HH.out]
    exact ⟨none, 0, rfl, row_none w _, (hb.setCell (by simp) _).setCell (by simp) _⟩
end Go.Proofs.Ytmipieoglcefkaa
