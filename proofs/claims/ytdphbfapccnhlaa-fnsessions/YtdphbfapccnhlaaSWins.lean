/-
  The windows of a time: plain mathematics.
-/
import Derived.Test.YtdphbfapccnhlaaWinS
namespace Go.Proofs.Ytdphbfapccnhlaa

def winAt (s t j : Nat) : Wn := (((j * t : Nat) : Int), ((j * t + s : Nat) : Int))
/-- of the first k sliding windows those that have not ended -/
def slideTo (s t tm k : Nat) : List Wn := ((List.range k).map (winAt s t)).filter fun x => decide ((tm : Int) < x.2)
def slides (s t tm : Nat) : List Wn := slideTo s t tm (tm / t + 1)
open Classical in
noncomputable def winsOf (k s t tm : Int) : List Wn :=
  if defOk k s t ∧ isT tm then (if k = 1 then [(((tm.toNat / s.toNat * s.toNat : Nat) : Int), ((tm.toNat / s.toNat * s.toNat + s.toNat : Nat) : Int))] else if k = 3 then [(tm, tm + s)] else slides s.toNat t.toNat tm.toNat) else []
theorem winsOf_no {k s t tm : Int} (h : ¬ (defOk k s t ∧ isT tm)) : winsOf k s t tm = [] := by unfold winsOf; rw [if_neg h]
theorem winsOf_tumble {s t tm : Int} (h : defOk 1 s t) (h2 : isT tm) : winsOf 1 s t tm = [(((tm.toNat / s.toNat * s.toNat : Nat) : Int), ((tm.toNat / s.toNat * s.toNat + s.toNat : Nat) : Int))] := by
  unfold winsOf; rw [if_pos ⟨h, h2⟩, if_pos rfl]
theorem winsOf_sess {s t tm : Int} (h : defOk 3 s t) (h2 : isT tm) : winsOf 3 s t tm = [(tm, tm + s)] := by
  unfold winsOf; rw [if_pos ⟨h, h2⟩, if_neg (by decide), if_pos rfl]
theorem winsOf_slide {k s t tm : Int} (h : defOk k s t) (h2 : isT tm) (h3 : k ≠ 1) (h4 : k ≠ 3) : winsOf k s t tm = slides s.toNat t.toNat tm.toNat := by
  unfold winsOf; rw [if_pos ⟨h, h2⟩, if_neg h3, if_neg h4]
theorem slideTo_zero (s t tm : Nat) : slideTo s t tm 0 = [] := by simp [slideTo]
theorem slideTo_yes {s t tm k : Nat} (h : tm < k * t + s) : slideTo s t tm (k + 1) = slideTo s t tm k ++ [winAt s t k] := by
  unfold slideTo
  rw [List.range_succ, List.map_append, List.filter_append]
  simp [winAt]; omega
theorem slideTo_no {s t tm k : Nat} (h : ¬ tm < k * t + s) : slideTo s t tm (k + 1) = slideTo s t tm k := by
  unfold slideTo
  rw [List.range_succ, List.map_append, List.filter_append]
  simp [winAt]; omega
theorem slideTo_len (s t tm k : Nat) : (slideTo s t tm k).length ≤ k := by
  unfold slideTo
  refine Nat.le_trans (List.length_filter_le _ _) ?_
  simp
/-- the number of rounds -/
theorem rounds_at {t tm k : Nat} (ht : 0 < t) (h1 : ∀ j, j < k → j * t ≤ tm) (h2 : tm < k * t) : k = tm / t + 1 := by
  have a : tm / t < k := (Nat.div_lt_iff_lt_mul ht).2 h2
  have b : k ≤ tm / t + 1 := by
    rcases Nat.eq_zero_or_pos k with h | h
    · rw [h]; exact Nat.zero_le _
    · have := h1 (k - 1) (by omega)
      have := (Nat.le_div_iff_mul_le ht).2 this
      omega
  omega
/-- where the windows begin that have not ended -/
def slideFrom (s t tm : Nat) : Nat := (tm + t - s) / t
theorem from_ended {s t tm j : Nat} (ht : 0 < t) (h : j < slideFrom s t tm) : ¬ tm < j * t + s := by
  have h1 : (j + 1) * t ≤ tm + t - s := (Nat.le_div_iff_mul_le ht).1 h
  rw [Nat.add_mul] at h1
  have : 0 < tm + t - s := by
    rcases Nat.eq_zero_or_pos (tm + t - s) with h0 | h0
    · rw [h0] at h1; omega
    · exact h0
  omega
theorem from_open {s t tm j : Nat} (ht : 0 < t) (h : slideFrom s t tm ≤ j) : tm < j * t + s := by
  have h1 : tm + t - s < (j + 1) * t := (Nat.div_lt_iff_lt_mul ht).1 (Nat.lt_succ_of_le h)
  rw [Nat.add_mul] at h1
  omega
theorem slideTo_from {s t tm : Nat} (ht : 0 < t) : ∀ {k : Nat}, k ≤ slideFrom s t tm → slideTo s t tm k = []
  | 0, _ => slideTo_zero _ _ _
  | k + 1, h => by rw [slideTo_no (from_ended ht (by omega)), slideTo_from ht (by omega)]
theorem slideTo_then {s t tm : Nat} (ht : 0 < t) : ∀ (i : Nat), slideTo s t tm (slideFrom s t tm + i) = (List.range i).map fun i => winAt s t (slideFrom s t tm + i)
  | 0 => by rw [Nat.add_zero, slideTo_from ht (Nat.le_refl _)]; rfl
  | i + 1 => by
    rw [← Nat.add_assoc, slideTo_yes (from_open ht (Nat.le_add_right _ _)), slideTo_then ht i, List.range_succ, List.map_append]
    rfl
/-- the first one begins no later than the time -/
theorem from_le {s t tm : Nat} (ht : 0 < t) (hs : t ≤ s) : slideFrom s t tm * t ≤ tm := by
  have := Nat.div_mul_le_self (tm + t - s) t
  unfold slideFrom
  rcases Nat.lt_or_ge tm s with h | h
  · rw [Nat.div_eq_of_lt (by omega), Nat.zero_mul]; exact Nat.zero_le _
  · omega
end Go.Proofs.Ytdphbfapccnhlaa
