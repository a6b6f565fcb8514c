/-
  MarkSet and MarkIdle, the program's, and what they call: what they return.
-/
import Derived.Test.YtmipieoglcefkaaMarkI
import Derived.Test.YtmipieoglcefkaaMarkKit
import Derived.Lib.SliceRun
import Derived.Deep.RegionHeld3
import Derived.Deep.DeepCutAuto
import Derived.Deep.CutBlock
namespace Go.Proofs.Ytmipieoglcefkaa
open Go.RowKit

set_option maxHeartbeats 1000000 in
theorem clone_any (b off n c : Nat) (ms : List Mk) (w : World) (hR : Rd w (some ⟨b, off, none⟩) (mz ms)) (hz : ms.length = n) (hn : n ≤ 1048576) :
    Calls Try.prog 51 #[.slice (some ⟨b, off, none⟩) n c] w fun e w' => ∃ A c', e = .returned (.slice A n c') ∧ w'.ownsRow w.heap.size 36 2 (.slice A n c') n (mz ms) ∧ Below w.heap.size w w' := by
  have q : ∀ (w : World) (a : Option Addr) (n c n' c' : Nat), (binOp .eql 24 (.slice a n c) (.slice none n' c')).run Try.prog w = .ok (.bool a.isNone) w := fun w a n c n' c' => Lib.run_eql_slice_nil w _ _ a n c n' c' Try.underlying24
  obtain ⟨i0, hi, hz0, hz1', hz2⟩ := info_parts info_Mark
  have HI := Lib.hid hi
  have HZ0 := Lib.hid hz0
  have HZ1 := Lib.hid hz1'
  have HZ2 := Lib.hid hz2
  have HR := Lib.hid (rd_news (hR.below (below_alloc w (.cells #[] 36))))
  have HE := Lib.hid (owns_empty (size := 2) (Own.new w 36 []) (Nat.le_refl w.heap.size))
  have HL := Lib.hid (show (mz ms).length = n * 2 by rw [mz_length, hz])
  clear hi hz0 hz1' hz2 hR hz
  go_enter Try.func51, Try.ntmps51
  go_wp2_with (at_builtin; refine wpList_append_own _ rfl _ _ 24 rfl w.heap.size 36 i0 (.agg #[.int .i64 0, .bool false]) 2 16 Try.underlying24 HI.out HZ0.out HZ1.out HZ2.out rfl (by decide) _ _ _ rfl HE.out ⟨b, off, none⟩ n c (mz ms) rfl HL.out HR.out (mz_one _) (by unfold maxLen; omega) (by omega) (by simp) ?_)
  intro v' w1 hown hgrow hnil
  obtain ⟨A, c', rfl, _⟩ := owns_rd hown
  have hb := app_below (below_alloc w (.cells #[] 36)) HE.out hgrow
  go_wp2
  go_ret
  exact ⟨A, c', rfl, hown, hb⟩

set_option maxHeartbeats 1000000 in
theorem copyMarks_any (G : Int) (b off n c : Nat) (ms : List Mk) (w : World) (hR : Rd w (some ⟨b, off, none⟩) (mz ms)) (hz : ms.length = n) (hn : n ≤ 1048576) :
    Calls Try.prog 37 #[msv G (.slice (some ⟨b, off, none⟩) n c)] w fun e w' => ∃ A c', e = .returned (msv G (.slice A n c')) ∧ w'.ownsRow w.heap.size 36 2 (.slice A n c') n (mz ms) ∧ Below w.heap.size w w' := by
  have p0 := (Own.new w 26 [.int .i64 G, .slice (some ⟨b, off, none⟩) n c]).alloc (.cells #[.int .i64 0, .slice none 0 0] 26)
  have p1 := new_second w (.cells #[.int .i64 G, .slice (some ⟨b, off, none⟩) n c] 26) 26 [.int .i64 0, .slice none 0 0]
  have hb0 := below_trans (below_alloc w (.cells #[.int .i64 G, .slice (some ⟨b, off, none⟩) n c] 26)) (below_alloc _ (.cells #[.int .i64 0, .slice none 0 0] 26))
  go_enter Try.func37, Try.ntmps37
  go_upto_region 1 with (fail)
  revert p0 p1 hb0
  generalize (w.alloc (.cells #[.int .i64 G, .slice (some ⟨b, off, none⟩) n c] 26)).alloc (.cells #[.int .i64 0, .slice none 0 0] 26) = v0
  intro p0 p1 hb0
  obtain ⟨k0, k1⟩ := p0.two
  have HP := Lib.hid (And.intro p0 p1)
  have HR := Lib.hid (hR.below hb0)
  have hlt := p1.lt
  clear hR p0 p1
  go_region_with (go_at_call 51; refine (clone_any b off n c ms _ (HR.out.below (Below.refl _ _).drew) hz hn).mono ?_; rintro e w1 ⟨A, c', rfl, hrow, hb1⟩; have hb2 : Below v0.heap.size v0 w1 := below_trans (Below.refl v0.heap.size v0).drew hb1; obtain ⟨e0, e1⟩ := (HP.out.1.grow hb2).two; obtain ⟨e2, e3⟩ := (HP.out.2.grow hb2).two; have e4 := (HP.out.2.grow hb2).free 0; have e5 := (HP.out.2.grow hb2).free 1)
  all_goals
    have HW := Lib.hid (owns_far (owns_far (owns_base (base' := w.heap.size + 2) hrow (show w.heap.size + 2 ≤ v0.heap.size by omega)) (only_set (g := w.heap.size + 1) (j := 0) (u := .int .i64 G) (World.grownBy.refl _ _)) (owns_lt (owns_base (base' := w.heap.size + 2) hrow (show w.heap.size + 2 ≤ v0.heap.size by omega)) (by omega))) (only_set (g := w.heap.size + 1) (j := 1) (u := .slice A n c') (World.grownBy.refl _ _)) (owns_lt (owns_base (base' := w.heap.size + 2) hrow (show w.heap.size + 2 ≤ v0.heap.size by omega)) (by omega)))
    have HB := Lib.hid (((below_trans hb0 hb2).setCell (p := ⟨w.heap.size + 1, 0, none⟩) (show w.heap.size ≤ w.heap.size + 1 by omega) (.int .i64 G)).setCell (p := ⟨w.heap.size + 1, 1, none⟩) (show w.heap.size ≤ w.heap.size + 1 by omega) (.slice A n c'))
    clear hrow hb1 hb2 hb0
    go_wp2
    refine bodyPost_ret (v := msv G (.slice A n c')) (by simp [results, Try.results37, go_sem, e2, e3]) rfl ?_
    exact ⟨A, c', rfl, owns_base HW.out (by omega), HB.out⟩

set_option maxHeartbeats 400000 in
theorem promise_any (g off : Nat) (x : Int) (u0 u1 : Value) (w : World) (c0 : w.cell? ⟨g, off, none⟩ = some u0) (c1 : w.cell? ⟨g, off + 1, none⟩ = some u1) (f0 : w.frozen? ⟨g, off, none⟩ = false) (f1 : w.frozen? ⟨g, off + 1, none⟩ = false) :
    Calls Try.prog 38 #[.pointer (some ⟨g, off, none⟩), .int .i64 x] w fun e w' => e = .returned (.tuple #[]) ∧ (w.setCell ⟨g, off, none⟩ (.int .i64 x)).setCell ⟨g, off + 1, none⟩ (.bool false) = w' := by
  go_enter Try.func38, Try.ntmps38
  go_wp2
  go_end0
  exact ⟨rfl, rfl⟩
set_option maxHeartbeats 400000 in
theorem rest_any (g off : Nat) (i : Bool) (u1 : Value) (w : World) (c1 : w.cell? ⟨g, off + 1, none⟩ = some u1) (f1 : w.frozen? ⟨g, off + 1, none⟩ = false) :
    Calls Try.prog 42 #[.pointer (some ⟨g, off, none⟩), .bool i] w fun e w' => e = .returned (.tuple #[]) ∧ w.setCell ⟨g, off + 1, none⟩ (.bool i) = w' := by
  go_enter Try.func42, Try.ntmps42
  go_wp2
  go_end0
  exact ⟨rfl, rfl⟩
set_option maxHeartbeats 1000000 in
theorem advance_any (B : Nat) (G : Int) (A : Option Addr) (n c : Nat) (ms : List Mk) (w : World) (ho : Own w B 26 [.int .i64 G, .slice A n c]) (hR : Rd w A (mz ms)) (hz : ms.length = n) (hn : n ≤ 1048576) :
    Calls Try.prog 39 #[.pointer (some ⟨B, 0, none⟩)] w fun e w' => e = .returned (.tuple #[]) ∧ ∃ w1, Below w.heap.size w w1 ∧ w1.setCell ⟨B, 0, none⟩ (.int .i64 (max G (leastOf ms))) = w' := by
  have k0 : ∀ u : Bel w, u.w.cell? ⟨B, 0, none⟩ = some (.int .i64 G) := fun u => (ho.grow u.ok).two.1
  have k1 : ∀ u : Bel w, u.w.cell? ⟨B, 1, none⟩ = some (.slice A n c) := fun u => (ho.grow u.ok).two.2
  have HC := Lib.hid (fun (u : Bel w) => implMarksLeast_any G A n c ms u.w (hR.below u.ok) hz hn)
  obtain ⟨L, hL⟩ : ∃ L, leastOf ms = L := ⟨_, rfl⟩
  rw [hL] at HC ⊢
  obtain ⟨M, hM, HMM⟩ : ∃ M, (if G < L then L else G) = M ∧ Hid (max G L = M) := ⟨_, rfl, Lib.hid (max_is G L)⟩
  rw [HMM.out]
  clear hR HMM hL
  go_enter Try.func39, Try.ntmps39
  refine wp_region_belt 12 (by kernel_rfl) (by kernel_rfl) ?_
  simp only [List.take_succ_cons, List.take_zero, List.drop_succ_cons, List.drop_zero]
  repeat (go_big_quiet_step ((go_at_call 19; exact bel_of _ (HC.out _))))
  refine wpQuiet_nil ?_
  rintro _ ⟨u, rfl⟩
  clear k0 k1 HC hM
  have hu := u.ok
  generalize u.w = we at *
  replace ho := ho.grow hu
  obtain ⟨o0, o1⟩ := ho.two
  have fo0 := ho.free 0
  go_wp2
  go_end0
  exact ⟨rfl, we, hu, rfl⟩
end Go.Proofs.Ytmipieoglcefkaa
