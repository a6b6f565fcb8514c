/-
  MarkSet and MarkIdle, the model's: what they return.
-/
import Derived.Test.YtmipieoglcefkaaMarkS
import Derived.Test.YtmipieoglcefkaaMarkKit
import Derived.Deep.DeepCutAuto
import Derived.Deep.CutBlock
namespace Go.Proofs.Ytmipieoglcefkaa
open Go.RowKit

set_option maxRecDepth 100000 in
set_option maxHeartbeats 2000000 in
theorem l05With_any (G : Int) (A : Option Addr) (n ca : Nat) (ms : List Mk) (src : Nat) (x : Int) (d : Bool) (w : World) (hA : Rd w A (mz ms)) (hz : ms.length = n) (hn : n ≤ 1048576) (hs : src < n) :
    Calls Try.prog 41 #[msv G (.slice A n ca), .int .i64 src, mv x d] w (MkRes1 (withM G ms src (x, d)).1 (withM G ms src (x, d)).2 w) := by
  obtain ⟨b, off, rfl, hb, _⟩ := hA.mark (k := src) (by omega)
  go_enter Try.func41, Try.ntmps41
  obtain ⟨p0, p1, p2, hbw, hsz⟩ := box_three (w := w) (c1 := [.int .i64 G, .slice (some ⟨b, off, none⟩) n ca]) (c2 := [.int .i64 x, .bool d]) (c3 := [.int .i64 0, .slice none 0 0]) (t1 := 26) (t2 := 36) (t3 := 26)
  go_upto_region 1 with (fail)
  revert p0 p1 p2 hbw hsz
  generalize ((w.alloc (.cells #[.int .i64 G, .slice (some ⟨b, off, none⟩) n ca] 26)).alloc (.cells #[.int .i64 x, .bool d] 36)).alloc (.cells #[.int .i64 0, .slice none 0 0] 26) = v0
  intro p0 p1 p2 hbw hsz
  have HSZ := Lib.hid hsz
  clear hsz
  have hR := hA.below hbw
  obtain ⟨i0, hi, hz0, hz1', hz2⟩ := info_parts info_Mark
  have HI := Lib.hid hi
  have HZ0 := Lib.hid hz0
  have HZ1 := Lib.hid hz1'
  have HZ2 := Lib.hid hz2
  clear hi hz0 hz1' hz2 hA
  go_cut [7] (fun s7 wx => ∃ (B : Nat) (v : Value), s7 = .pointer (some ⟨B, 0, none⟩) ∧ v0.heap.size ≤ B ∧ Own wx B 26 [.int .i64 G, v] ∧ wx.ownsRow v0.heap.size 36 2 v n (mz ms) ∧ Below v0.heap.size v0 wx)
  case first =>
    obtain ⟨k0, k1⟩ := p0.two
    have hpl : w.heap.size < v0.heap.size := p0.lt
    have HP := Lib.hid (fun W (h : Below v0.heap.size v0 W) => (p0.grow h).two)
    have HR := Lib.hid (fun W (h : Below v0.heap.size v0 W) => hR.below h)
    have HB := Lib.hid (fun o => (below_alloc v0 o).drew)
    have HB2 := Lib.hid (fun o o' => (below_trans (below_alloc v0 o) (below_alloc _ o')).drew)
    have HE1 := Lib.hid (owns_empty (size := 2) (Own.new v0 36 []) (Nat.le_refl v0.heap.size))
    have HE2 := Lib.hid (fun o => owns_empty (size := 2) ((Own.new v0 36 []).alloc o) (Nat.le_refl v0.heap.size))
    have HE3 := Lib.hid (fun o => owns_empty (size := 2) (base := v0.heap.size) (new_second v0 o 36 []) (by omega))
    have HN2 := Lib.hid (show ∀ o, Own ((v0.alloc o).alloc (.cells #[.int .i64 0, .slice none 0 0] 26)).drew (v0.heap.size + 1) 26 [.int .i64 0, .slice none 0 0] from fun o => new_second v0 o 26 [.int .i64 0, .slice none 0 0])
    have HN3 := Lib.hid (show ∀ o, Own ((v0.alloc (.cells #[.int .i64 0, .slice none 0 0] 26)).alloc o).drew v0.heap.size 26 [.int .i64 0, .slice none 0 0] from fun o => (Own.new v0 26 [.int .i64 0, .slice none 0 0]).alloc o)
    go_region_law (first
      | (refine step_append_own rfl (.tmp 10) (.tmp 12) 24 rfl v0.heap.size 36 i0 (.agg #[.int .i64 0, .bool false]) 2 16 Try.underlying24 HI.out HZ0.out HZ1.out HZ2.out rfl (by decide) _ 0 [] rfl (by first | exact HE1.out | exact HE2.out _ | exact HE3.out _) ⟨b, off, none⟩ n ca (mz ms) rfl (by rw [mz_length, hz]) (rd_news (HR.out _ (by first | exact HB.out _ | exact HB2.out _ _))) (mz_one _) (by unfold maxLen; omega) (by omega) (by first | exact (HB.out _).size | exact (HB2.out _ _).size) ?_; intro v5 w5 hown5 hgrow5 hnil5; have hbel5 := app_below (by first | exact HB.out _ | exact HB2.out _ _) (by first | exact HE1.out | exact HE2.out _ | exact HE3.out _) hgrow5; rw [Nat.zero_add, List.nil_append] at hown5; clear hnil5; obtain ⟨A5, c5, rfl, _⟩ := owns_rd hown5; obtain ⟨f0, f1⟩ := HP.out _ hbel5; have hlt5 := Nat.lt_of_lt_of_le hpl hbel5.size; first | (have hq := own_kept (HN2.out _) hgrow5 (fun h => absurd (show some (v0.heap.size + 1) = some v0.heap.size from h) (by simp)); obtain ⟨e0, e1⟩ := hq.two; have e2 := hq.free 0; have e3 := hq.free 1) | (have hq := own_kept (HN3.out _) hgrow5 (fun h => absurd (show some v0.heap.size = some (v0.heap.size + 1) from h) (by simp)); obtain ⟨e0, e1⟩ := hq.two; have e2 := hq.free 0; have e3 := hq.free 1) | skip))
    all_goals
      go_wp2_with fail
      go_meet
      case rel =>
        first
          | exact ⟨_, _, rfl, hbel5.size, Own.new w5 _ [_, _], owns_grow hown5 (below_alloc _ _), below_trans hbel5 (below_alloc _ _)⟩
          | exact ⟨_, _, rfl, by omega, (hq.set 0 _).set 1 _, owns_far hown5 (only_set (only_set (World.grownBy.refl _ _))) (types_farS hq (by decide) hown5), (hbel5.setCell (by first | exact Nat.le_refl _ | exact Nat.le_succ _) _).setCell (by first | exact Nat.le_refl _ | exact Nat.le_succ _) _⟩
  case rest =>
    obtain ⟨B, v, rfl, hB, hob, hrow, hbc⟩ := hcut
    have hfar := types_farS hob (by decide) hrow
    obtain ⟨g, cap, rfl⟩ : ∃ g cap, v = .slice (some ⟨g, 0, none⟩) n cap := by
      rcases hrow.2 with ⟨_, h'⟩ | ⟨g, cap, cur, h, _⟩
      · omega
      · exact ⟨g, cap, h⟩
    have hgB : g ≠ B := by
      intro e
      apply hfar
      simp [Value.ownBlock, e]
    have q1 := p1.grow hbc
    have q2 := p2.grow hbc
    have hgb := (hrow.lt g rfl).1
    have hb2 := below_trans hbw hbc
    have hsz2 := HSZ.out
    have hsc := hbc.size
    clear p0 p1 p2 hR HI HZ0 HZ1 HZ2 hbw hfar
    have hlm : src < ms.length := by omega
    have c0 : wc.cell? ⟨g, src * 2, none⟩ = some (.int .i64 (mat ms src).1) := by
      rw [hrow.cellAt (src * 2) (by omega), mz_lo hlm]
    have c1 : wc.cell? ⟨g, src * 2 + 1, none⟩ = some (.bool (mat ms src).2) := by
      rw [hrow.cellAt (src * 2 + 1) (by omega), mz_hi hlm]
    have f0 := hrow.frozenAt (src * 2)
    have f1 := hrow.frozenAt (src * 2 + 1)
    have s0 := hrow.stored (src * 2) (.int .i64 x)
    have s1 := s0.1.stored (src * 2 + 1) (.bool d)
    have hs := s1.1
    rw [mz_set hlm] at hs
    have hg := grownBy_trans s0.2 s1.2
    have hob' := own_kept hob hg (by simp; omega)
    have q2' := own_kept q2 hg (by simp; omega)
    have hb3 : Below w.heap.size w ((wc.setCell ⟨g, src * 2, none⟩ (.int .i64 x)).setCell ⟨g, src * 2 + 1, none⟩ (.bool d)) := (hb2.setCell (by simp; omega) _).setCell (by simp; omega) _
    have HH := Lib.hid (And.intro hs (And.intro hob' (And.intro q2' hb3)))
    obtain ⟨o0, o1⟩ := hob.two
    obtain ⟨x0, x1⟩ := q1.two
    clear hs hg hob' q2' hb3 s0 s1 hrow hob q1 q2 HSZ hbc
    go_upto_region 3 with (fail)
    clear c0 c1 f0 f1 o0 o1 x0 x1 hb2
    revert HH
    generalize (wc.setCell ⟨g, src * 2, none⟩ (.int .i64 x)).setCell ⟨g, src * 2 + 1, none⟩ (.bool d) = wd
    intro HH
    obtain ⟨hs, hob, q2, hb⟩ := HH.out
    clear HH
    have hl2 : (ms.set src (x, d)).length = n := by rw [List.length_set, hz]
    have HRow := Lib.hid hs
    have hrd := Lib.hid (show Rd wd (some ⟨g, 0, none⟩) (mz (ms.set src (x, d))) from by obtain ⟨A', c', e', h'⟩ := owns_rd hs; cases e'; exact h')
    have k0 : ∀ u : Bel wd, u.w.cell? ⟨B, 0, none⟩ = some (.int .i64 G) := fun u => (hob.grow u.ok).two.1
    have k1 : ∀ u : Bel wd, u.w.cell? ⟨B, 1, none⟩ = some (.slice (some ⟨g, 0, none⟩) n cap) := fun u => (hob.grow u.ok).two.2
    have HE := Lib.hid (show withM G ms src (x, d) = (max G (leastOf (ms.set src (x, d))), ms.set src (x, d)) from rfl)
    have HC := Lib.hid (fun (u : Bel wd) => specMarksLeast_any G (some ⟨g, 0, none⟩) n cap (ms.set src (x, d)) u.w (hrd.out.below u.ok) hl2 hn)
    generalize withM G ms src (x, d) = R at *
    generalize ms.set src (x, d) = rs at *
    generalize leastOf rs = L at *
    obtain ⟨M, hM, HMM⟩ : ∃ M, (if G < L then L else G) = M ∧ Hid (max G L = M) := ⟨_, rfl, Lib.hid (max_is G L)⟩
    rw [HMM.out] at HE
    clear hs hlm HMM
    refine wp_region_belt 6 (by kernel_rfl) (by kernel_rfl) ?_
    simp only [List.take_succ_cons, List.take_zero, List.drop_succ_cons, List.drop_zero]
    repeat (go_big_quiet_step ((go_at_call 28; exact bel_of _ (HC.out _))))
    refine wpQuiet_nil ?_
    rintro _ ⟨u, rfl⟩
    clear k0 k1 HC hM
    have hu := u.ok
    generalize u.w = we at *
    replace hob := hob.grow hu
    replace q2 := q2.grow hu
    obtain ⟨o0, o1⟩ := hob.two
    obtain ⟨t0, t1⟩ := q2.two
    have fo0 := hob.free 0
    have ft0 := q2.free 0
    have ft1 := q2.free 1
    have hbe := below_trans hb hu
    have hne : w.heap.size + 1 + 1 ≠ B := by omega
    have hne2 : B ≠ w.heap.size + 1 + 1 := by omega
    have hRow2 := owns_grow HRow.out hu
    have HRF := Lib.hid (show ((((we.setCell ⟨B, 0, none⟩ (.int .i64 M)).setCell ⟨w.heap.size + 1 + 1, 0, none⟩ (.int .i64 M)).setCell ⟨w.heap.size + 1 + 1, 1, none⟩ (.slice (some ⟨g, 0, none⟩) n cap)).ownsRow v0.heap.size 36 2 (.slice (some ⟨g, 0, none⟩) n cap) n (mz rs)) from
      owns_far (owns_far (owns_far hRow2 (only_set (g := B) (World.grownBy.refl _ _)) (by simp [Value.ownBlock]; exact hgB)) (only_set (g := w.heap.size + 1 + 1) (World.grownBy.refl _ _)) (by simp [Value.ownBlock]; omega)) (only_set (g := w.heap.size + 1 + 1) (World.grownBy.refl _ _)) (by simp [Value.ownBlock]; omega))
    have HBE := Lib.hid (((hbe.setCell (p := ⟨B, 0, none⟩) (show w.heap.size ≤ B by omega) (.int .i64 M)).setCell (p := ⟨w.heap.size + 1 + 1, 0, none⟩) (show w.heap.size ≤ w.heap.size + 1 + 1 by omega) (.int .i64 M)).setCell (p := ⟨w.heap.size + 1 + 1, 1, none⟩) (show w.heap.size ≤ w.heap.size + 1 + 1 by omega) (.slice (some ⟨g, 0, none⟩) n cap))
    have HV := Lib.hid (show w.heap.size ≤ v0.heap.size by omega)
    clear hob q2 HRow hb hu hbe hsz2 hsc hRow2 hB hgb
    go_wp2
    refine bodyPost_ret (v := msv M (.slice (some ⟨g, 0, none⟩) n cap)) (by simp [results, Try.results41, go_sem, t0, t1]) rfl ?_
    rw [HE.out]
    rw [← hl2] at HRF
    have hl3 := hl2
    refine ⟨some ⟨g, 0, none⟩, cap, by rw [hl2], ?_, HBE.out⟩
    rw [hl2]
    rw [hl2] at HRF
    exact RowAt.of (owns_base HRF.out HV.out)
end Go.Proofs.Ytmipieoglcefkaa
