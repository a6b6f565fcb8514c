/-
  What the law of AggDone uses: the numbers of a list's aggregate, and what AggDone answers of it.
-/
import Derived.Test.YtkaghdkehkjdoaaLawAggKit
import Derived.Test.YtkaghdkehkjdoaaDoneS
namespace Go.Proofs.Ytkaghdkehkjdoaa
open Go.RowKit

theorem le_mxOf (l : List Int) : ∀ x ∈ l, x ≤ mxOf l := by
  induction l using snoc_ind with
  | h0 => intro x hx; cases hx
  | h1 l v ih =>
    by_cases h0 : l = []
    · subst h0
      intro x hx
      rw [List.nil_append] at hx ⊢
      rw [List.mem_singleton.1 hx, mxOf_one]
      exact Int.le_refl _
    · intro x hx
      rw [mxOf_snoc v h0]
      rcases List.mem_append.1 hx with h | h
      · have := ih x h; omega
      · rw [List.mem_singleton.1 h]; omega
theorem mean_in {l : List Int} (h0 : l ≠ []) : mnOf l ≤ l.sum / (l.length : Int) ∧ l.sum / (l.length : Int) ≤ mxOf l := by
  have hp : 0 < (l.length : Int) := by have := List.length_pos_iff.2 h0; omega
  refine ⟨?_, ?_⟩
  · rw [Int.le_ediv_iff_mul_le hp]
    exact le_sum (fun x hx => mnOf_le hx)
  · have h1 := sum_le (le_mxOf l)
    have h2 : l.sum / (l.length : Int) < mxOf l + 1 := by
      rw [Int.ediv_lt_iff_lt_mul hp, Int.add_mul]
      omega
    omega
theorem mean_yes (x : Int) (n : Nat) (hx : Wr x) (hn1 : 1 ≤ n) (hn2 : n ≤ 1000000) (h : I64 (x / n)) (W : World) :
    Calls Try.prog 51 #[.agg #[.int .i64 (hi x), .int .u64 (lo x)], .int .i64 n] W (IntRes W (x / n) true) := by
  have hI : ∀ W, Calls Try.prog 50 #[.agg #[.int .i64 (hi (x / n)), .int .u64 (lo (x / n))]] W (IntRes W (x / n) true) := fun W => specWideInt_yes _ _ (x / n) W h rfl rfl
  by_cases h0 : x < 0
  · exact specWideMean_neg _ _ x n W _ _ hn1 hn2 hx h0 rfl rfl hI
  · exact specWideMean_pos _ _ x n W _ _ hn1 hn2 hx (by omega) rfl rfl hI

section
variable {N z mn mx me : Int} {top : List Int}
theorem is_one (hd : doneOk 1 0 N z mn mx top) : DoneIs 1 0 N z mn mx me top [N] false := by
  obtain ⟨L, b, D⟩ := done_some 1 0 N z mn mx me top
  obtain ⟨rfl, rfl⟩ := D.one hd rfl
  exact D
theorem is_least (hd : doneOk 3 0 N z mn mx top) : DoneIs 3 0 N z mn mx me top [mn] false := by
  obtain ⟨L, b, D⟩ := done_some 3 0 N z mn mx me top
  obtain ⟨rfl, rfl⟩ := D.least hd rfl
  exact D
theorem is_most (hd : doneOk 4 0 N z mn mx top) : DoneIs 4 0 N z mn mx me top [mx] false := by
  obtain ⟨L, b, D⟩ := done_some 4 0 N z mn mx me top
  obtain ⟨rfl, rfl⟩ := D.most hd rfl
  exact D
theorem is_mean (hd : doneOk 5 0 N z mn mx top) : DoneIs 5 0 N z mn mx me top [me] false := by
  obtain ⟨L, b, D⟩ := done_some 5 0 N z mn mx me top
  obtain ⟨rfl, rfl⟩ := D.mean hd rfl
  exact D
theorem is_top (hd : doneOk 6 2 N z mn mx top) : DoneIs 6 2 N z mn mx me top (top.take 2) false := by
  obtain ⟨L, b, D⟩ := done_some 6 2 N z mn mx me top
  obtain ⟨rfl, rfl⟩ := D.top hd rfl
  exact D
theorem is_sum (hd : doneOk 2 0 N z mn mx top) : ∃ L b ln, DoneIs 2 0 N z mn mx me top L b ∧ L.length = ln ∧ ((ln : Int) == 0) = b ∧ ln ≤ 1 := by
  obtain ⟨L, b, D⟩ := done_some 2 0 N z mn mx me top
  refine ⟨L, b, L.length, D, rfl, ?_, ?_⟩
  · by_cases h : I64 z
    · obtain ⟨rfl, rfl⟩ := D.sum hd rfl h; rfl
    · obtain ⟨rfl, rfl⟩ := D.over hd rfl h; rfl
  · by_cases h : I64 z
    · obtain ⟨rfl, rfl⟩ := D.sum hd rfl h; simp
    · obtain ⟨rfl, rfl⟩ := D.over hd rfl h; simp
end
theorem list_doneOk {l : List Int} (q k : Int) (hk : kindOk q k) (h0 : l ≠ []) (hn : l.length ≤ 1000000) : doneOk q k l.length l.sum (mnOf l) (mxOf l) (topOf l) :=
  ⟨hk, by have := List.length_pos_iff.2 h0; omega, aggOk_list l hn⟩
theorem done_call (l : List Int) (h0 : l ≠ []) (hn : l.length ≤ 1000000) (h64 : ∀ x ∈ l, I64 x) (q k : Int) (L : List Int) (ln : Nat) (b : Bool) (hD : DoneIs q k l.length l.sum (mnOf l) (mxOf l) (l.sum / (l.length : Int)) (topOf l) L b) (hL : L.length = ln)
    (p : Nat) (hp : (topOf l).length = p) (A : Option Addr) (c : Nat) (W : World) (h : Rd W A (iz (topOf l))) (hf : SFit A p c) :
    Calls Try.prog 19 #[.int .i64 q, .int .i64 k, agv l.length (hi l.sum) (lo l.sum) (mnOf l) (mxOf l) (.slice A p c)] W (DoneRes L ln b W) := by
  have hm := mean_in h0
  have h1 := mnOf_i64 h64
  have h2 := mxOf_i64 h64
  have hme : I64 (l.sum / (l.length : Int)) := by unfold I64 at *; omega
  have hp1 := List.length_pos_iff.2 h0
  exact implAggDone_any q k l.length l.sum (mnOf l) (mxOf l) _ true A p c (topOf l) L ln b W h hp (by rw [← hp, topOf_length]; omega) hf (topOf_i64 h64) h1 (sum_wr h64 hn)
    (fun W => implWideMean_yes _ _ l.sum l.length W (by omega) (by omega) (sum_wr h64 hn) rfl rfl hme) hD hL
theorem done_spec (l : List Int) (h0 : l ≠ []) (hn : l.length ≤ 1000000) (h64 : ∀ x ∈ l, I64 x) (q k : Int) (L : List Int) (ln : Nat) (b : Bool) (hD : DoneIs q k l.length l.sum (mnOf l) (mxOf l) (l.sum / (l.length : Int)) (topOf l) L b) (hL : L.length = ln)
    (p : Nat) (hp : (topOf l).length = p) (A : Option Addr) (c : Nat) (W : World) (h : Rd W A (iz (topOf l))) (hf : SFit A p c) :
    Calls Try.prog 20 #[.int .i64 q, .int .i64 k, agv l.length (hi l.sum) (lo l.sum) (mnOf l) (mxOf l) (.slice A p c)] W (DoneRes L ln b W) := by
  have hm := mean_in h0
  have h1 := mnOf_i64 h64
  have h2 := mxOf_i64 h64
  have hme : I64 (l.sum / (l.length : Int)) := by unfold I64 at *; omega
  have hp1 := List.length_pos_iff.2 h0
  exact specAggDone_any q k l.length l.sum (mnOf l) (mxOf l) _ true A p c (topOf l) L ln b W h hp (by rw [← hp, topOf_length]; omega) hf (topOf_i64 h64) h1 (sum_wr h64 hn)
    (fun W => mean_yes l.sum l.length (sum_wr h64 hn) (by omega) hn hme W) hD hL
/-- the cells of a row of integers -/
theorem rd_ints {w : World} {A : Option Addr} {l : List Int} (h : Rd w A (iz l)) (h0 : 0 < l.length) :
    ∃ ad, A = some ad ∧ ∀ W, Below w.heap.size w W → ∀ i, i < l.length → W.cell? (ad.add i) = some (.int .i64 (iat l i)) := by
  obtain ⟨ad, rfl, hb, _⟩ := h 0 _ (iz_iat h0)
  refine ⟨ad, rfl, fun W hW i hi => ?_⟩
  obtain ⟨ad', e', _, hc⟩ := h i _ (iz_iat hi)
  obtain rfl : ad = ad' := by injection e'
  exact (hW.cell (by rw [add_block]; exact hb)).trans hc
theorem top_two {l : List Int} (h0 : l ≠ []) : ((topOf l).take 2).length = min 2 l.length ∧ 0 < ((topOf l).take 2).length ∧ iat ((topOf l).take 2) 0 = mxOf l := by
  have hl := List.length_pos_iff.2 h0
  have ht : ((topOf l).take 2).length = min 2 l.length := by rw [List.length_take, topOf_length]; omega
  refine ⟨ht, by omega, ?_⟩
  unfold mxOf
  have hne := topOf_ne h0
  cases htop : topOf l with
  | nil => exact absurd htop hne
  | cons a t => rfl
end Go.Proofs.Ytkaghdkehkjdoaa
