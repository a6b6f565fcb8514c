/-
  slidingWins, an iterator of the program: its contract for every loop body.
-/
import Derived.RangeFuncNested
import Derived.RangeFuncLeaves
import Derived.Shelf.Abstract
import Derived.WalkKit
import Derived.OwnWalkIn
import Derived.TacticsInMore
import Derived.LoopNIn
import Derived.LoopIn
import Derived.Test.YtdphbfapccnhlaaSWinsS
namespace Go.Proofs.Ytdphbfapccnhlaa
open Go.RowKit

attribute [local go_sem] Oper.semAt_some

set_option maxHeartbeats 1000000 in
theorem winFrom_any (a b : Int) (h0 : 0 ≤ a) (h1 : a ≤ 1000) (h2 : 0 ≤ b) (h3 : b ≤ 100) (w : World) :
    Calls Try.prog 47 #[.int .i64 a, .int .i64 b] w fun e w' => e = .returned (.agg #[.int .i64 a, .int .i64 (a + b)]) ∧ Below w.heap.size w w' := by
  have ho := Own.new w 32 [.int .i64 0, .int .i64 0]
  have f0 := ho.free 0
  have f1 := (ho.set 0 (.int .i64 a)).free 1
  obtain ⟨c0, c1⟩ := ho.two
  obtain ⟨d0, d1⟩ := ((ho.set 0 (.int .i64 a)).set 1 (.int .i64 (a + b))).two
  go_enter Try.func47, Try.ntmps47
  go_wp2
  refine bodyPost_ret (v := .agg #[.int .i64 a, .int .i64 (a + b)]) (by simp [results, Try.results47, go_sem]) rfl ?_
  exact ⟨rfl, by first | exact below_alloc _ _ | exact ((below_alloc _ _).setCell (p := ⟨w.heap.size, 0, none⟩) (Nat.le_refl _) _).setCell (p := ⟨w.heap.size, 1, none⟩) (Nat.le_refl _) _⟩

/-- the first i windows of the iterator -/
def slid (s t tm i : Nat) : List Wn := (List.range i).map fun i => winAt s t (slideFrom s t tm + i)
theorem slid_zero (s t tm : Nat) : slid s t tm 0 = [] := rfl
theorem slid_succ (s t tm i : Nat) : slid s t tm (i + 1) = slid s t tm i ++ [winAt s t (slideFrom s t tm + i)] := by simp [slid, List.range_succ]
theorem slid_length (s t tm i : Nat) : (slid s t tm i).length = i := by simp [slid]
theorem slid_all {s t tm i : Nat} (ht : 0 < t) (hs : t ≤ s) (h1 : ∀ j, j < i → (slideFrom s t tm + j) * t ≤ tm) (h2 : tm < (slideFrom s t tm + i) * t) : slid s t tm i = slides s t tm := by
  have e : slideFrom s t tm + i = tm / t + 1 := by
    refine rounds_at ht (fun j hj => ?_) h2
    by_cases hj' : j < slideFrom s t tm
    · exact Nat.le_trans (Nat.mul_le_mul_right t (Nat.le_of_lt hj')) (from_le ht hs)
    · have := h1 (j - slideFrom s t tm) (by omega)
      rw [show slideFrom s t tm + (j - slideFrom s t tm) = j by omega] at this
      exact this
  unfold slides
  rw [← e, slideTo_then ht]
  rfl

/-- two blocks are as they were -/
def Kp2 (Bt Bd : Nat) (W W' : World) : Prop := W'.heap[Bt]? = W.heap[Bt]? ∧ W'.heap[Bd]? = W.heap[Bd]?

set_option maxRecDepth 100000 in
set_option maxHeartbeats 4000000 in
theorem slide1_in (n : Nat) (hn : 2 ≤ n) (l Bt Bd : Nat) (k : Int) (S D T : Nat) (hD : 1 ≤ D) (hDS : D ≤ S) (hS : S ≤ 100) (hT : T ≤ 1000) (J Jx : List Wn → World → Prop) (B0 : Nat) (hJ : AbidesFrom B0 J)
    (hY : ∀ pre x W, J pre W → pre.length < T + 1 → YieldAt Fence.wide (n - 1) Try.prog l #[.agg #[.int .i64 x.1, .int .i64 x.2]] W fun e W' =>
      (e = .returned (.bool true) ∧ J (pre ++ [x]) W' ∧ Kp2 Bt Bd W W') ∨ (e = .returned (.bool false) ∧ Jx (pre ++ [x]) W'))
    (W : World) (ht : Own W Bt 3 [.int .i64 (T : Int)]) (hd : Own W Bd 25 [.int .i64 k, .int .i64 (S : Int), .int .i64 (D : Int)]) (h0 : J [] W) :
    CallsIn Fence.wide n Try.prog 65 #[.func (.yield l) #[] #[], .pointer (some ⟨Bt, 0, none⟩), .pointer (some ⟨Bd, 0, none⟩)] W fun e W' => (∃ v, e = .returned v) ∧
      ((∃ ys, ys = slides S D T ∧ J ys W') ∨ (∃ pre, True ∧ Jx pre W')) := by
  have kt : ∀ u : Bel W, u.w.cell? ⟨Bt, 0, none⟩ = some (.int .i64 (T : Int)) := fun u => (ht.grow u.ok).cell 0
  have k1 : ∀ u : Bel W, u.w.cell? ⟨Bd, 1, none⟩ = some (.int .i64 (S : Int)) := fun u => (hd.grow u.ok).cell 1
  have k2 : ∀ u : Bel W, u.w.cell? ⟨Bd, 2, none⟩ = some (.int .i64 (D : Int)) := fun u => (hd.grow u.ok).cell 2
  obtain ⟨j0, hj0⟩ : ∃ j0, slideFrom S D T = j0 := ⟨_, rfl⟩
  obtain ⟨F0, hF0⟩ : ∃ F0, j0 * D = F0 := ⟨_, rfl⟩
  obtain ⟨M, hM⟩ : ∃ M : Nat, T + D - S = M := ⟨_, rfl⟩
  have hMd : M / D = j0 := by rw [← hM, ← hj0]; rfl
  have hF0T : F0 ≤ T := by rw [← hF0, ← hj0]; exact from_le hD hDS
  have hmax : (if (0 : Int) < (T : Int) - (S : Int) + (D : Int) then (T : Int) - (S : Int) + (D : Int) else 0) = (M : Int) := by
    rw [← hM]; split <;> omega
  have hdiv : (M : Int) / (D : Int) = (j0 : Int) := by rw [← hMd]; exact (Int.natCast_ediv M D).symm
  have hmul : (j0 : Int) * (D : Int) = (F0 : Int) := by rw [← hF0]; exact (Int.natCast_mul j0 D).symm
  have hD0 : ¬ (D : Int) = 0 := by omega
  have hj1 : (j0 : Int) ≤ 1000 := by
    have : j0 ≤ M := by rw [← hMd]; exact Nat.div_le_self _ _
    omega
  refine callsIn_of_wp Try.func65 rfl trivial ?_ rfl
  simp only [Try.ntmps65, List.size_toArray, List.length_cons, List.length_nil, Nat.reduceAdd, Nat.reduceSub, Array.replicate_succ, Array.replicate_zero, List.push_toArray, List.append_toArray, List.nil_append, List.cons_append]
  gi_wp2
  refine wpIn_wide.2 ?_
  refine wp_region_bel (by kernel_rfl) (by kernel_rfl) ?_
  repeat (go_big_quiet_step (fail))
  refine wpQuiet_nil ?_
  rintro _ ⟨u, rfl⟩
  have hJu : J [] u.w := hJ [] W u.w none h0 (grownBy_of u.ok none) (fun r e => by cases e)
  have hWu := u.ok
  have HF0 := Lib.hid hF0
  have HJ0 := Lib.hid hj0
  clear hF0 hj0 hMd hM hmax hdiv hmul hj1 kt k1 k2
  gi_wp2
  gi_loopw [5] (fun s5 wr => ∃ i F, s5 = .int .i64 ((F : Nat) : Int) ∧ F ≤ T + D ∧ Hid (F = (j0 + i) * D ∧ (∀ j, j < i → (j0 + j) * D ≤ T) ∧ i ≤ F) ∧ J (slid S D T i) wr ∧ Own wr Bt 3 [.int .i64 (T : Int)] ∧ Own wr Bd 25 [.int .i64 k, .int .i64 (S : Int), .int .i64 (D : Int)]) (fun s5 _ => 1101 - (intOf s5).toNat)
  case atStart => exact ⟨0, F0, rfl, by omega, Lib.hid ⟨by rw [Nat.add_zero]; exact HF0.out.symm, fun j hj => by omega, Nat.zero_le _⟩, hJu, ht.grow hWu, hd.grow hWu⟩
  case round =>
    obtain ⟨i, F, rfl, hF, HF, hJr, ht', hd'⟩ := hrel
    have c0 := ht'.cell 0
    obtain ⟨d0, d1, d2⟩ := hd'.three
    simp only [List.getElem?_cons_zero] at c0
    by_cases hlt : F ≤ T
    · have HX := Lib.hid (show slid S D T (i + 1) = slid S D T i ++ [((F : Int), (F : Int) + (S : Int))] by
        rw [slid_succ, HJ0.out]; simp only [winAt, ← HF.out.1, Int.natCast_add])
      have HG : Hid (F + D = (j0 + (i + 1)) * D ∧ (∀ j, j < i + 1 → (j0 + j) * D ≤ T) ∧ i + 1 ≤ F + D) :=
        Lib.hid ⟨by rw [HF.out.1, ← Nat.add_assoc, Nat.add_mul (j0 + i), Nat.one_mul], fun j hj => by
          by_cases hij : j = i
          · rw [hij, ← HF.out.1]; exact hlt
          · exact HF.out.2.1 j (by omega), by have := HF.out.2.2; omega⟩
      have hiT : (slid S D T i).length < T + 1 := by rw [slid_length]; have := HF.out.2.2; omega
      gi_wp2
      refine ⟨trivial, fun _ => by omega, (callsIn_wide.2 (winFrom_any (F : Int) (S : Int) (by omega) (by omega) (by omega) (by omega) _)).mono ?_⟩
      rintro e w2 ⟨rfl, hb2⟩
      have hJ2 : J (slid S D T i) w2 := hJ _ _ _ none hJr (grownBy_of hb2 none) (fun r e => by cases e)
      have ht2 := ht'.grow hb2
      have hd2 := hd'.grow hb2
      obtain ⟨fn, tmps, assign, body, hy, hR⟩ := hY _ ((F : Int), (F : Int) + (S : Int)) w2 hJ2 hiT
      dsimp only at hy
      clear c0 d0 d1 d2
      gi_wp2
      refine ⟨fun _ => by omega, hR.mono ?_⟩
      rintro e W3 (⟨rfl, hJ3, hk3⟩ | ⟨rfl, hJx3⟩)
      · have ht3 : Own W3 Bt 3 [.int .i64 (T : Int)] := hk3.1.trans ht2
        have hd3 : Own W3 Bd 25 [.int .i64 k, .int .i64 (S : Int), .int .i64 (D : Int)] := hk3.2.trans hd2
        obtain ⟨d0, d1, d2⟩ := hd3.three
        gi_wp2
        go_roundw
        case rel => exact ⟨i + 1, F + D, by go_num, by omega, HG, by rw [HX.out]; exact hJ3, ht3, hd3⟩
        case measure => simp [intOf]; omega
      · gi_wp2
        refine bodyPost_ret (results_none rfl _ _ _) rfl ?_
        exact ⟨⟨_, rfl⟩, .inr ⟨_, trivial, hJx3⟩⟩
    · have HE := Lib.hid (slid_all (s := S) (t := D) (tm := T) (i := i) hD hDS (by rw [HJ0.out]; exact HF.out.2.1) (by rw [HJ0.out, ← HF.out.1]; omega))
      gi_wp2
      go_end0
      exact ⟨⟨_, rfl⟩, .inl ⟨_, rfl, by rw [← HE.out]; exact hJr⟩⟩
end Go.Proofs.Ytdphbfapccnhlaa
