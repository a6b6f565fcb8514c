/-
  One pass over sorted sessions makes what the model's fold makes.
-/
import Derived.Test.YtdphbfapccnhlaaWinLawB
namespace Go.Proofs.Ytdphbfapccnhlaa

theorem step_head {hd : List Wn} {y s : Wn} (h : s.2 ≤ y.1) : addStep (hd, y, []) s = (hd ++ [s], y, []) := by
  unfold addStep meets
  simp only
  rw [if_neg (by omega), if_pos h]
theorem step_merge {hd : List Wn} {y s : Wn} (h : ¬ s.2 ≤ y.1) (h2 : ¬ y.2 ≤ s.1) : addStep (hd, y, []) s = (hd, (min y.1 s.1, max y.2 s.2), []) := by
  unfold addStep meets merge2
  simp only
  rw [if_pos (by omega), Int.min_comm, Int.max_comm]
theorem fold_tail : ∀ (l : List Wn) (hd tl : List Wn) (y : Wn), y.1 < y.2 → (∀ s ∈ l, y.2 ≤ s.1 ∧ s.1 < s.2) → l.foldl addStep (hd, y, tl) = (hd, y, tl ++ l)
  | [], _, _, _, _, _ => by simp
  | s :: l, hd, tl, y, hy, h => by
    have hs := h s (List.mem_cons_self ..)
    have e : addStep (hd, y, tl) s = (hd, y, tl ++ [s]) := by
      unfold addStep meets
      simp only
      rw [if_neg (by omega), if_neg (by omega)]
    rw [List.foldl_cons, e, fold_tail l hd (tl ++ [s]) y hy (fun q hq => h q (List.mem_cons_of_mem _ hq))]
    simp
theorem pass_end {ws pre l hd : List Wn} {x y : Wn} (hw : ws = pre ++ l) (hp : pre.foldl addStep ([], x, []) = (hd, y, [])) (hy : winOk y) (hs : Srt ws) (hl : ∀ s, l.head? = some s → y.2 ≤ s.1) : addAll ws x = hd ++ y :: l := by
  rw [addAll_eq, hw, List.foldl_append, hp]
  cases l with
  | nil => simp [out3]
  | cons s l =>
    have h1 := hl s rfl
    subst hw
    have hok : ∀ q ∈ s :: l, winOk q := fun q hq => hs.1 q (List.mem_append_right _ hq)
    have hpw := (List.pairwise_append.1 hs.2).2.1
    rw [fold_tail (s :: l) hd [] y hy.2.1 (fun q hq => ?_)]
    · simp [out3]
    · refine ⟨?_, (hok q hq).2.1⟩
      rcases List.mem_cons.1 hq with rfl | hq'
      · exact h1
      · have h2 := (List.pairwise_cons.1 hpw).1 q hq'
        have h3 := (hok s (List.mem_cons_self ..)).2.1
        omega
theorem pass_snoc {pre hd : List Wn} {x y s z : Wn} {hd' : List Wn} (hp : pre.foldl addStep ([], x, []) = (hd, y, [])) (hq : addStep (hd, y, []) s = (hd', z, [])) : (pre ++ [s]).foldl addStep ([], x, []) = (hd', z, []) := by
  rw [List.foldl_append, hp]; exact hq
end Go.Proofs.Ytdphbfapccnhlaa
