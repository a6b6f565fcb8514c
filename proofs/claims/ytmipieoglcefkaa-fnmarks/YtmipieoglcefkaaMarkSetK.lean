/-
  MarkIdle, the program's: what it returns.
-/
import Derived.Test.YtmipieoglcefkaaMarkSetJ
namespace Go.Proofs.Ytmipieoglcefkaa
open Go.RowKit

set_option maxRecDepth 100000 in
set_option maxHeartbeats 2000000 in
theorem implMarkIdle_any (G : Int) (A : Option Addr) (n ca : Nat) (ms : List Mk) (src : Int) (i : Bool) (w : World) (hA : Rd w A (mz ms)) (hz : ms.length = n) (hn : n ≤ 1048576) :
    Calls Try.prog 17 #[msv G (.slice A n ca), .int .i64 src, .bool i] w (MkRes (idleG G ms src i) w) := by
  have HA := Lib.hid (fun W (h : Below w.heap.size w W) => hA.below h)
  have HZ := Lib.hid hz
  have hA0 := hA
  clear hA hz
  obtain ⟨p0, p1, hb⟩ := two_new (w := w) (c1 := [.int .i64 G, .slice A n ca]) (c2 := [.int .i64 0, .slice none 0 0]) (t1 := 26) (t2 := 26)
  by_cases hh : hasSrc G ms src
  · obtain ⟨k, rfl, hk⟩ := hasSrc_nat hh
    obtain ⟨b, off, rfl, _, hc⟩ := hA0.mark hk
    rw [HZ.out] at hk
    go_enter Try.func17, Try.ntmps17
    go_wp2_with fail
    refine (as_bool (tf_yes hh).symm (marksHave_any G _ n ca ms k _ (HA.out _ hb) HZ.out hn)).mono ?_
    rintro e w2 ⟨rfl, hb2⟩
    replace p0 := p0.grow hb2
    replace p1 := p1.grow hb2
    replace hb := below_trans hb hb2
    clear hb2 hA0
    obtain ⟨k0, k1⟩ := p0.two
    obtain ⟨k2, k3⟩ := p1.two
    have fr0 := p1.free 0
    have fr1 := p1.free 1
    have HT := Lib.hid hh
    clear hh hc
    go_wp2_with fail
    clear k0 k1 k2 k3 fr0 fr1
    refine (copyMarks_any G b off n ca ms _ (HA.out _ hb) HZ.out hn).mono ?_
    rintro e w3 ⟨A3, c3, rfl, hrow, hb3⟩
    obtain ⟨g, cap, hAg⟩ : ∃ g cap, Value.slice A3 n c3 = .slice (some ⟨g, 0, none⟩) n cap := by
      rcases hrow.2 with ⟨_, h'⟩ | ⟨g, cap, cur, h, _⟩
      · omega
      · exact ⟨g, cap, h⟩
    obtain ⟨rfl, rfl⟩ : A3 = some ⟨g, 0, none⟩ ∧ c3 = cap := by injection hAg with h1 h2 h3; exact ⟨h1, h3⟩
    clear hAg
    have hw2 := p1.lt
    have hz3 := hb3.size
    have hgl := hrow.lt g rfl
    have q1 := (p1.grow hb3).alloc (.cells #[.int .i64 G, .slice (some ⟨g, 0, none⟩) n c3] 26)
    have hob := Own.new w3 26 [.int .i64 G, .slice (some ⟨g, 0, none⟩) n c3]
    have hb4 := below_trans (below_trans hb hb3) (below_alloc w3 (.cells #[.int .i64 G, .slice (some ⟨g, 0, none⟩) n c3] 26))
    replace hrow := owns_grow hrow (below_alloc w3 (.cells #[.int .i64 G, .slice (some ⟨g, 0, none⟩) n c3] 26))
    clear hb hb3 p0 p1
    have hd0 : 0 ≤ (k : Int) ∧ (k : Int) < n := by omega
    have HH := Lib.hid (And.intro hob (And.intro q1 (And.intro hb4 hrow)))
    clear hob q1 hb4 hrow
    go_wp2_with fail
    revert HH
    generalize w3.alloc (.cells #[.int .i64 G, .slice (some ⟨g, 0, none⟩) n c3] 26) = w4
    intro HH
    obtain ⟨hob, q1, hb4, hrow⟩ := HH.out
    clear HH
    have hlm : k < ms.length := by rw [HZ.out]; omega
    have c0 : w4.cell? ⟨g, k * 2, none⟩ = some (.int .i64 (mat ms k).1) := by
      rw [hrow.cellAt (k * 2) (by omega), mz_lo hlm]
    have c1 : w4.cell? ⟨g, k * 2 + 1, none⟩ = some (.bool (mat ms k).2) := by
      rw [hrow.cellAt (k * 2 + 1) (by omega), mz_hi hlm]
    have f0 := hrow.frozenAt (k * 2)
    have f1 := hrow.frozenAt (k * 2 + 1)
    refine (rest_any g (k * 2) i _ _ c1 f1).mono ?_
    rintro e w5 ⟨rfl, rfl⟩
    have s0 := hrow.stored (k * 2 + 1) (.bool i)
    have hs := s0.1
    rw [mz_set_hi hlm] at hs
    have hg := s0.2
    replace hob := own_kept hob hg (by simp; omega)
    replace q1 := own_kept q1 hg (by simp; omega)
    replace hb4 : Below w.heap.size w (w4.setCell ⟨g, k * 2 + 1, none⟩ (.bool i)) := hb4.setCell (by simp; omega) _
    clear hg s0 hrow c0 c1 f0 f1
    have HH := Lib.hid (And.intro hob (And.intro q1 (And.intro hb4 hs)))
    clear hob q1 hb4 hs
    revert HH
    generalize w4.setCell ⟨g, k * 2 + 1, none⟩ (.bool i) = w5
    intro HH
    obtain ⟨hob, q1, hb4, hs⟩ := HH.out
    clear HH
    have hl2 : (ms.set k ((mat ms k).1, i)).length = n := by rw [List.length_set]; exact HZ.out
    have hrd : Rd w5 (some ⟨g, 0, none⟩) (mz (ms.set k ((mat ms k).1, i))) := by obtain ⟨A', c', e', h'⟩ := owns_rd hs; cases e'; exact h'
    go_wp2_with fail
    refine (advance_any w3.heap.size G (some ⟨g, 0, none⟩) n c3 _ w5 hob hrd hl2 hn).mono ?_
    rintro e _ ⟨rfl, w6, hb6, rfl⟩
    have hob6 := (hob.grow hb6).set 0 (.int .i64 (max G (leastOf (ms.set k ((mat ms k).1, i)))))
    have q6 := (q1.grow hb6).far (p := ⟨w3.heap.size, 0, none⟩) (show w.heap.size + 1 ≠ w3.heap.size by omega) (.int .i64 (max G (leastOf (ms.set k ((mat ms k).1, i)))))
    have hb7 := below_trans hb4 hb6
    have hs6 := owns_grow hs hb6
    have HD := Lib.hid (res_done (M := max G (leastOf (ms.set k ((mat ms k).1, i)))) (R := w.heap.size + 1) (B := w3.heap.size) (by omega) (by omega) (by omega) (by omega) (by omega) hs6 hb7)
    have HF := Lib.hid (show idleG G ms k i = ((withM G ms k ((mat ms k).1, i)).1, (withM G ms k ((mat ms k).1, i)).2, 0) by rw [idleG_fine HT.out, Int.toNat_natCast])
    clear hrd hs hs6 hob q1 hb4 hb6 hb7 HA
    have HW := Lib.hid (show withM G ms k ((mat ms k).1, i) = (max G (leastOf (ms.set k ((mat ms k).1, i))), ms.set k ((mat ms k).1, i)) from rfl)
    generalize withM G ms k ((mat ms k).1, i) = R at *
    generalize ms.set k ((mat ms k).1, i) = rs at *
    generalize max G (leastOf rs) = M at *
    obtain ⟨o0, o1⟩ := Own.two (c0 := .int .i64 M) (c1 := .slice (some ⟨g, 0, none⟩) n c3) hob6
    obtain ⟨t0, t1⟩ := q6.two
    have ft0 := q6.free 0
    have ft1 := q6.free 1
    go_wp2
    refine bodyPost_ret (v := .tuple #[msv M (.slice (some ⟨g, 0, none⟩) n c3), .int .i64 0]) (by simp [results, Try.results17, go_sem, t0, t1]) rfl ?_
    rw [HF.out, HW.out]
    refine ⟨some ⟨g, 0, none⟩, c3, by rw [hl2], ?_, HD.out.2⟩
    rw [hl2]
    exact HD.out.1
  · go_enter Try.func17, Try.ntmps17
    go_wp2_with fail
    refine (as_bool (tf_no hh).symm (marksHave_any G _ n ca ms src _ (HA.out _ hb) HZ.out hn)).mono ?_
    rintro e w2 ⟨rfl, hb2⟩
    replace p1 := p1.grow hb2
    replace hb := below_trans hb hb2
    clear hb2 hA0
    obtain ⟨k2, k3⟩ := p1.two
    have fr0 := p1.free 0
    have fr1 := p1.free 1
    have HH := Lib.hid hh
    clear hh
    go_wp2
    refine bodyPost_ret (v := .tuple #[msv 0 (.slice none 0 0), .int .i64 1]) (by simp [results, Try.results17, go_sem, k2, k3]) rfl ?_
    rw [idleG_form HH.out]
    exact ⟨none, 0, rfl, row_none w _, (hb.setCell (by simp) _).setCell (by simp) _⟩
end Go.Proofs.Ytmipieoglcefkaa
