/-
  mergeSession, the program's: what it returns.
-/
import Derived.Test.YtdphbfapccnhlaaWinKit
import Derived.Test.YtdphbfapccnhlaaWinT
import Derived.Test.YtdphbfapccnhlaaMergeMath
import Derived.WalkMore
namespace Go.Proofs.Ytdphbfapccnhlaa
open Go.RowKit

def slen : Value → Nat
  | .slice _ n _ => n
  | _ => 0
theorem madeZ_Win (n : Nat) : (madeCells (Value.agg #[.int .i64 0, .int .i64 0]).cells (n * 2)).size = n * 2 := by simp [madeCells]
theorem makeC_Win (n : Nat) (hn : n ≤ 1048576) (W : World) : ∃ o, (Instr.makeSlice 28 (.int .i64 0) (.int .i64 ((n : Int) + 1))).run Try.prog W = .ok (.slice (some ⟨W.heap.size, 0, none⟩) 0 (n + 1)) (W.alloc o) ∧ (W.alloc o).ownsRow W.heap.size 32 2 (.slice (some ⟨W.heap.size, 0, none⟩) 0 (n + 1)) 0 (ez []) := by
  obtain ⟨i0, hi, hz0, hz1, hz2⟩ := info_parts info_Win
  have h := run_make (P := Try.prog) W 28 32 i0 (.agg #[.int .i64 0, .int .i64 0]) Try.underlying28 hi hz0 .i64 .i64 0 ((n : Int) + 1) (by omega) (by omega) (by rw [hz2]; omega) (by omega)
  rw [hz1, show ((n : Int) + 1).toNat = n + 1 by omega] at h
  refine ⟨_, h, rfl, .inr ⟨W.heap.size, n + 1, _, rfl, Nat.le_refl _, heap_alloc_new W _, Nat.zero_le _, by unfold maxLen; omega, madeZ_Win (n + 1), by simp [ez]⟩⟩
/-- rest[1:] -/
theorem slice_tail (b off m c : Nat) (hm : m + 1 ≤ c) {w : World} {l : List Wn} (hl : l.length = m) (hR : Rd w (some ⟨b, off + 2, none⟩) (ez l)) :
    ∃ A' c', (∀ W, (Instr.slice 28 (.slice (some ⟨b, off, none⟩) (m + 1) c) (some (.int .i64 1)) none none).run Try.prog W = .ok (.slice A' m c') W) ∧ Rd w A' (ez l) ∧ SFit A' m c' := by
  have hu : Try.prog.underlying 28 = some (.slice (Try.prog.elem 28)) := by
    rw [show Try.prog.elem 28 = 32 by kernel_rfl]; exact Try.underlying28
  have hs : ∀ W, (sizeOf (Try.prog.elem 28)).run Try.prog W = .ok 2 W := fun W => by
    rw [show Try.prog.elem 28 = 32 by kernel_rfl]; kernel_rfl
  have hr : ∀ W, (Instr.slice 28 (.slice (some ⟨b, off, none⟩) (m + 1) c) (some (.int .i64 1)) none none).run Try.prog W = .ok (sliced (some ⟨b, off, none⟩) 1 (m + 1) c 2) W := fun W => by
    rw [run_slice_l (P := Try.prog) (t := 28) (ht := hu) (h0 := by omega) (h1 := by omega), hs]; rfl
  by_cases h1 : c = 1
  · have hm0 : m = 0 := by omega
    subst h1 hm0
    obtain rfl : l = [] := by cases l with
      | nil => rfl
      | cons _ _ => simp at hl
    exact ⟨some ⟨b, off, none⟩, 0, fun W => by rw [hr]; simp [sliced], fun k u hu => by simp [ez] at hu, Nat.le_refl _, fun h => by cases h⟩
  · exact ⟨some ⟨b, off + 2, none⟩, c - 1, fun W => by rw [hr]; simp [sliced, h1, plain_add'], hR, by omega, fun h => by cases h⟩
/-- what the loop holds -/
def MRel (ws : List Wn) (x : Wn) (w : World) (s5 s6 : Value) (wr : World) (pre l hd : List Wn) (y : Wn) (A5 A6 : Option Addr) (c5 c6 : Nat) : Prop :=
  s5 = .slice A5 hd.length c5 ∧ s6 = .slice A6 l.length c6 ∧ SFit A6 l.length c6 ∧ Hid (ws = pre ++ l ∧ pre.foldl addStep ([], x, []) = (hd, y, []) ∧ winOk y ∧ hd.length + l.length ≤ ws.length) ∧ Rd w A6 (ez l) ∧
    wr.ownsRow (w.heap.size + 1) 32 2 (.slice A5 hd.length c5) hd.length (ez hd) ∧ Own wr w.heap.size 32 [.int .i64 y.1, .int .i64 y.2] ∧ Below w.heap.size w wr

set_option maxRecDepth 100000 in
set_option maxHeartbeats 4000000 in
theorem mergeSession_any (A : Option Addr) (n ca : Nat) (ws : List Wn) (a b : Int) (w : World) (hA : Rd w A (ez ws)) (hz : ws.length = n) (hn : n ≤ 1048576) (hf : SFit A n ca) (hs : Srt ws) (hx : winOk (a, b)) :
    Calls Try.prog 53 #[.slice A n ca, .agg #[.int .i64 a, .int .i64 b]] w (WsRes (addAll ws (a, b)) w) := by
  subst hz
  have HA := Lib.hid hA
  have HS := Lib.hid hs
  have HX := Lib.hid hx
  have HF := Lib.hid hf
  clear hA hs hx hf
  obtain ⟨i0, hi, hz0, hz1', hz2⟩ := info_parts info_Win
  have HI := Lib.hid hi
  have HZ0 := Lib.hid hz0
  have HZ1 := Lib.hid hz1'
  have HZ2 := Lib.hid hz2
  clear hi hz0 hz1' hz2
  obtain ⟨o, hmk, hrow0⟩ := makeC_Win ws.length hn (w.alloc (.cells #[.int .i64 a, .int .i64 b] 32))
  have HR0 := Lib.hid hrow0
  clear hrow0
  go_enter Try.func53, Try.ntmps53
  go_wp2
  go_step3
  go_wp2
  go_step3
  go_wp2
  clear hmk
  go_loopw [5, 6] (fun s5 s6 wr => ∃ pre l hd y A5 A6 c5 c6, MRel ws (a, b) w s5 s6 wr pre l hd y A5 A6 c5 c6) (fun _ s6 _ => slen s6)
  case atStart =>
    refine ⟨[], ws, [], (a, b), _, A, _, ca, rfl, rfl, HF.out, Lib.hid ⟨rfl, rfl, HX.out, by simp⟩, HA.out, ?_, ?_, ?_⟩
    · have := HR0.out; simpa using this
    · exact (Own.new w 32 [.int .i64 a, .int .i64 b]).alloc _
    · exact below_trans (below_alloc _ _) (below_alloc _ _)
  case round =>
    obtain ⟨pre, l, hd, y, A5, A6, c5, c6, rfl, rfl, hf6, HH, hR, hrow, hbx, hbel⟩ := hrel
    have hsz := hbx.lt
    obtain ⟨y0, y1⟩ := y
    have hlen := HH.out.2.2.2
    cases l with
    | nil =>
      have HE := Lib.hid (pass_end HH.out.1 HH.out.2.1 HH.out.2.2.1 HS.out (by simp))
      simp only [List.length_nil] at hlen hf6
      have HL1 : Hid (hd.length + 1 ≤ 2097152) := Lib.hid (by omega)
      have HL2 : Hid (hd.length + 1 + 0 ≤ 2097152) := Lib.hid (by omega)
      obtain ⟨k0, k1⟩ := hbx.two
      clear hlen
      go_wp2_with (at_builtin; refine appWin.own rfl _ (.tmp 50) rfl (w.heap.size + 1) (.slice A5 hd.length c5) hd.length (ez hd) rfl (hrow.alloc _) wr.heap.size 1 1 [.int .i64 y0, .int .i64 y1] rfl (Own.new wr _ _) rfl (ez_one [(y0, y1)]) HL1 (by simp; omega) ?_)
      intro A2 c2 w2 hown2 hgrow2 hb2
      have hbel2 : Below w.heap.size w w2 := below_trans' (below_trans hbel (below_alloc _ _)) hb2
      have hsz2 := hgrow2.size
      have hR3 := hR.below hbel2
      have hsz3 : w.heap.size + 1 ≤ w2.heap.size := by simp at hsz2; omega
      go_wp2_with (at_builtin; refine appWin.rd rfl _ (.tmp 52) rfl (w.heap.size + 1) (.slice A2 (hd.length + 1) c2) (hd.length + 1) _ rfl hown2 A6 0 c6 (ez []) rfl hR3 hf6 rfl (ez_one []) HL2 hsz3 ?_)
      intro A3 c3 w3 hown3 hgrow3 hb3
      go_wp2
      go_ret
      have e1 : addAll ws (a, b) = hd ++ (y0, y1) :: ([]) := HE.out
      have e2 : hd.length + 1 + 0 = (addAll ws (a, b)).length := by rw [e1]; simp
      have e3 : ez hd ++ .int .i64 y0 :: .int .i64 y1 :: ez [] = ez (addAll ws (a, b)) := by rw [e1, ez_append, ez_cons]
      replace hown3 := owns_as hown3 e3
      simp only [e2] at hown3 ⊢
      exact ⟨A3, c3, rfl, RowAt.of (owns_base hown3 (Nat.le_succ _)), below_trans' hbel2 hb3⟩
    | cons s l =>
      obtain ⟨bb, off, rfl, hb, c0, c1, hR2⟩ := rd_cons hR
      replace c0 := (hbel.cell (p := ⟨bb, off, none⟩) hb).trans c0
      replace c1 := (hbel.cell (p := ⟨bb, off + 1, none⟩) hb).trans c1
      obtain ⟨s0, s1⟩ := s
      simp only [List.length_cons] at hlen hf6
      have HL := Lib.hid hlen
      obtain ⟨k0, k1⟩ := (hbx.alloc (.cells #[.int .i64 s0, .int .i64 s1] 32)).two
      obtain ⟨A', c', htail, hR', hf'⟩ := slice_tail bb off l.length c6 hf6.1 rfl hR2
      simp only at c0 c1
      by_cases h1 : s1 ≤ y0
      · have HP := Lib.hid (pass_snoc HH.out.2.1 (step_head (s := (s0, s1)) (y := (y0, y1)) h1))
        have HL1 : Hid (hd.length + 1 ≤ 2097152) := Lib.hid (by omega)
        clear hlen
        go_wp2_with (at_builtin; refine appWin.own rfl _ (.tmp 38) rfl (w.heap.size + 1) (.slice A5 hd.length c5) hd.length (ez hd) rfl ((hrow.alloc _).alloc _) (wr.heap.size + 1) 1 1 [.int .i64 s0, .int .i64 s1] rfl (new_second wr _ 32 [.int .i64 s0, .int .i64 s1]) rfl (ez_one [(s0, s1)]) HL1 (by simp; omega) ?_)
        intro A2 c2 w2 hown2 hgrow2 hb2
        have hbx2 : Own w2 w.heap.size 32 [.int .i64 y0, .int .i64 y1] := ((hbx.alloc _).alloc _).below hb2 (Nat.lt_succ_self _)
        have hbel2 : Below w.heap.size w w2 := below_trans' (below_trans hbel (below_trans (below_alloc _ _) (below_alloc _ _))) hb2
        clear c0 c1 k0 k1
        go_wp2
        go_roundw
        case rel =>
          refine ⟨pre ++ [(s0, s1)], l, hd ++ [(s0, s1)], (y0, y1), A2, A', c2, c', by simp, rfl, hf', Lib.hid ⟨by rw [HH.out.1]; simp, HP.out, HH.out.2.2.1, by have := HL.out; simp; omega⟩, hR', ?_, hbx2, hbel2⟩
          rw [ez_append, List.length_append]; exact hown2
        case measure => simp [slen]
      · by_cases h2 : y1 ≤ s0
        · have HE := Lib.hid (pass_end HH.out.1 HH.out.2.1 HH.out.2.2.1 HS.out (fun q hq => by cases hq; exact h2))
          have HL1 : Hid (hd.length + 1 ≤ 2097152) := Lib.hid (by omega)
          have HL2 : Hid (hd.length + 1 + (l.length + 1) ≤ 2097152) := Lib.hid (by omega)
          clear hlen
          go_wp2_with (at_builtin; refine appWin.own rfl _ (.tmp 50) rfl (w.heap.size + 1) (.slice A5 hd.length c5) hd.length (ez hd) rfl ((hrow.alloc _).alloc _) (wr.heap.size + 1) 1 1 [.int .i64 y0, .int .i64 y1] rfl (new_second wr _ 32 [.int .i64 y0, .int .i64 y1]) rfl (ez_one [(y0, y1)]) HL1 (by simp; omega) ?_)
          intro A2 c2 w2 hown2 hgrow2 hb2
          have hbel2 : Below w.heap.size w w2 := below_trans' (below_trans hbel (below_trans (below_alloc _ _) (below_alloc _ _))) hb2
          have hsz2 := hgrow2.size
          have hR3 := hR.below hbel2
          have hsz3 : w.heap.size + 1 ≤ w2.heap.size := by simp at hsz2; omega
          go_wp2_with (at_builtin; refine appWin.rd rfl _ (.tmp 52) rfl (w.heap.size + 1) (.slice A2 (hd.length + 1) c2) (hd.length + 1) _ rfl hown2 (some ⟨bb, off, none⟩) (l.length + 1) c6 (ez ((s0, s1) :: l)) rfl hR3 hf6 (by rw [ez_length]; rfl) (ez_one _) HL2 hsz3 ?_)
          intro A3 c3 w3 hown3 hgrow3 hb3
          go_wp2
          go_ret
          have e1 : addAll ws (a, b) = hd ++ (y0, y1) :: ((s0, s1) :: l) := HE.out
          have e2 : hd.length + 1 + (l.length + 1) = (addAll ws (a, b)).length := by rw [e1]; simp; try omega
          have e3 : ez hd ++ .int .i64 y0 :: .int .i64 y1 :: ez ((s0, s1) :: l) = ez (addAll ws (a, b)) := by rw [e1, ez_append, ez_cons (y0, y1)]
          replace hown3 := owns_as hown3 e3
          simp only [e2] at hown3 ⊢
          exact ⟨A3, c3, rfl, RowAt.of (owns_base hown3 (Nat.le_succ _)), below_trans' hbel2 hb3⟩
        · have HP := Lib.hid (pass_snoc HH.out.2.1 (step_merge (s := (s0, s1)) (y := (y0, y1)) h1 h2))
          obtain ⟨p, hp, hpp⟩ : ∃ p, (if s0 < y0 then s0 else y0) = p ∧ Hid (min y0 s0 = p) := ⟨_, rfl, Lib.hid (by omega)⟩
          obtain ⟨q, hq, hqq⟩ : ∃ q, (if y1 < s1 then s1 else y1) = q ∧ Hid (max y1 s1 = q) := ⟨_, rfl, Lib.hid (by omega)⟩
          have hv := Lib.hid (winOk_merge HH.out.2.2.1 (HS.out.1 (s0, s1) (by rw [HH.out.1]; simp)))
          obtain ⟨k0', k1'⟩ := hbx.two
          have f0 := (hbx.alloc (.cells #[.int .i64 s0, .int .i64 s1] 32)).free 0
          have f1 := ((hbx.set 0 (.int .i64 p)).alloc (.cells #[.int .i64 s0, .int .i64 s1] 32)).free 1
          clear hlen
          go_wp2
          go_roundw
          case rel =>
            refine ⟨pre ++ [(s0, s1)], l, hd, (p, q), A5, A', c5, c', rfl, rfl, hf', Lib.hid ⟨by rw [HH.out.1]; simp, by have := HP.out; simp only [hpp.out, hqq.out] at this; exact this, by have := hv.out; simp only [merge2, hpp.out, hqq.out] at this; exact this, by have := HL.out; omega⟩, hR', ?_, ?_, ?_⟩
            · exact owns_grow (owns_far (owns_far hrow (only_set (World.grownBy.refl _ _)) (owns_lt hrow (Nat.lt_succ_self _))) (only_set (World.grownBy.refl _ _)) (owns_lt hrow (Nat.lt_succ_self _))) (below_alloc _ _)
            · exact ((hbx.set 0 _).set 1 _).alloc _
            · exact below_trans ((hbel.setCell (p := ⟨w.heap.size, 0, none⟩) (Nat.le_refl _) _).setCell (p := ⟨w.heap.size, 1, none⟩) (Nat.le_refl _) _) (below_alloc _ _)
          case measure => simp [slen]
end Go.Proofs.Ytdphbfapccnhlaa
