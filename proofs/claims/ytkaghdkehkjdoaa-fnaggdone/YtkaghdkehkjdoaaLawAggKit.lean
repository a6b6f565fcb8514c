/-
  What the named laws of aggregates use: the parts of a list joined are the list's own aggregate; laws.sameAgg.
-/
import Derived.Test.YtkaghdkehkjdoaaJoinMath
import Derived.Test.YtkaghdkehkjdoaaKitAgg
import Derived.Test.YtkaghdkehkjdoaaSameI
namespace Go.Proofs.Ytkaghdkehkjdoaa
open Go.RowKit

/-- the aggregate of a list, as a part of a join -/
def partOf (ts : List Int) (A : Option Addr) (n c : Nat) : Part := ⟨ts.length, ts.sum, mnOf ts, mxOf ts, A, n, c, topOf ts⟩
theorem topOf_in {l : List Int} {x : Int} (h : x ∈ topOf l) : x ∈ l := by
  rw [topOf_take] at h
  exact (dsort_perm l).mem_iff.1 (List.mem_of_mem_take h)
theorem topOf_i64 {l : List Int} (h : ∀ x ∈ l, I64 x) : ∀ x ∈ topOf l, I64 x := fun x hx => h x (topOf_in hx)
theorem mnOf_i64 {l : List Int} (h : ∀ x ∈ l, I64 x) : I64 (mnOf l) := by
  by_cases h0 : l = []
  · subst h0; show I64 0; unfold I64; omega
  · exact h _ (mnOf_mem h0)
theorem mxOf_i64 {l : List Int} (h : ∀ x ∈ l, I64 x) : I64 (mxOf l) := by
  by_cases h0 : l = []
  · subst h0; show I64 0; unfold I64; omega
  · exact topOf_i64 h _ (iat_mem (List.length_pos_iff.2 (topOf_ne h0)))
theorem sum_wr {l : List Int} (h : ∀ x ∈ l, I64 x) (hn : l.length ≤ 1000000) : Wr l.sum := by
  have := sum_bound h
  unfold Wr
  omega
theorem agg_small {ts : List Int} (h : ts.length ≤ 1000000) : AggOfRes ts = AggRes ts.length ts.sum (mnOf ts) (mxOf ts) (topOf ts) := by
  have e : aggL ts = ts := by unfold aggL; rw [if_pos h]
  unfold AggOfRes
  rw [e]
theorem mn_join (a b : List Int) : (if (b.length : Int) = 0 then mnOf a else if (a.length : Int) = 0 then mnOf b else (if mnOf b < mnOf a then mnOf b else mnOf a)) = mnOf (a ++ b) := by
  by_cases hb : b = []
  · subst hb; simp
  · have hb0 : ¬ (b.length : Int) = 0 := by have := List.length_pos_iff.2 hb; omega
    rw [if_neg hb0]
    by_cases ha : a = []
    · subst ha; simp
    · have ha0 : ¬ (a.length : Int) = 0 := by have := List.length_pos_iff.2 ha; omega
      rw [if_neg ha0, mnOf_append ha hb]
      omega
theorem join_list (a b : List Int) (A B : Option Addr) (n c m d : Nat) (h : a.length + b.length ≤ 1000000) :
    joinOk (partOf a A n c) (partOf b B m d) ∧ joinTo (partOf a A n c) (partOf b B m d) = ⟨(a ++ b).length, (a ++ b).sum, mnOf (a ++ b), topOf (a ++ b)⟩ := by
  have h1 : (partOf a A n c).ok := aggOk_list a (by omega)
  have h2 : (partOf b B m d).ok := aggOk_list b (by omega)
  have hj : joinOk (partOf a A n c) (partOf b B m d) := ⟨h1, h2, by show (a.length : Int) + b.length ≤ 1000000; omega⟩
  refine ⟨hj, ?_⟩
  rw [joinTo_pos hj, (join_nums h1 h2).1]
  show Ta.mk ((a.length : Int) + b.length) (a.sum + b.sum) (if (b.length : Int) = 0 then mnOf a else if (a.length : Int) = 0 then mnOf b else (if mnOf b < mnOf a then mnOf b else mnOf a)) (topOf (topOf a ++ topOf b)) = _
  rw [mn_join, topOf_parts, List.sum_append, List.length_append]
  push_cast
  rfl
/-- .. and the other way round -/
theorem join_turn (a b : List Int) (A B : Option Addr) (n c m d : Nat) (h : a.length + b.length ≤ 1000000) :
    joinOk (partOf b A n c) (partOf a B m d) ∧ joinTo (partOf b A n c) (partOf a B m d) = ⟨(a ++ b).length, (a ++ b).sum, mnOf (a ++ b), topOf (a ++ b)⟩ := by
  obtain ⟨h1, h2⟩ := join_list b a A B n c m d (by omega)
  have hp : (b ++ a).Perm (a ++ b) := List.perm_append_comm
  exact ⟨h1, by rw [h2, mnOf_perm hp, topOf_of_perm hp, sum_perm hp, hp.length_eq]⟩

/-- an aggregate whose Top holds so many numbers, in memory of its own -/
def AggIn (m : Nat) (N h lw mn mx : Int) (rs : List Int) (w : World) (e : Ending) (w' : World) : Prop :=
  ∃ A c, e = .returned (agv N h lw mn mx (.slice A m c)) ∧ RowAt w.heap.size w'.heap.size w' 3 1 (.slice A m c) m (iz rs) ∧ Below w.heap.size w w'
theorem agg_as {N z mn mx : Int} {rs : List Int} {w w' : World} {e : Ending} {m : Nat} (h : AggRes N z mn mx rs w e w') (hm : rs.length = m) : AggIn m N (hi z) (lo z) mn mx rs w e w' := by subst hm; exact h
theorem aggOf_list (ts : List Int) (A : Option Addr) (n c m : Nat) (w : World) (hA : Rd w A (iz ts)) (hz : ts.length = n) (hn : n ≤ 1000000) (h64 : ∀ x ∈ ts, I64 x) (hm : (topOf ts).length = m) :
    Calls Try.prog 14 #[.slice A n c] w (AggIn m n (hi ts.sum) (lo ts.sum) (mnOf ts) (mxOf ts) (topOf ts) w) := by
  have h := implAggOf_any A n c ts w hA hz (by omega) h64
  rw [agg_small (by omega), hz] at h
  exact h.mono fun _ _ h => agg_as h hm
theorem join_as (a b : List Int) (A B : Option Addr) (n c m d k : Nat) (w : World) (hA : Rd w A (iz (topOf a))) (hB : Rd w B (iz (topOf b))) (hn : (topOf a).length = n) (hm : (topOf b).length = m) (ia : ∀ x ∈ a, I64 x) (ib : ∀ x ∈ b, I64 x)
    (h : a.length + b.length ≤ 1000000) (l : List Int) (hl : joinTo (partOf a A n c) (partOf b B m d) = ⟨l.length, l.sum, mnOf l, topOf l⟩) (hj : joinOk (partOf a A n c) (partOf b B m d)) (hk : (topOf l).length = k) :
    Calls Try.prog 15 #[agv a.length (hi a.sum) (lo a.sum) (mnOf a) (mxOf a) (.slice A n c), agv b.length (hi b.sum) (lo b.sum) (mnOf b) (mxOf b) (.slice B m d)] w
      (JoinRes k l.length (hi l.sum) (lo l.sum) (mnOf l) (mxOf l) (topOf l) true w) := by
  have ha : n ≤ 1048576 := by rw [← hn, topOf_length]; omega
  have hb : m ≤ 1048576 := by rw [← hm, topOf_length]; omega
  have := implAggJoin_any (partOf a A n c) (partOf b B m d) w ⟨hA, hn, ha, topOf_i64 ia, mnOf_i64 ia, sum_wr ia (by omega)⟩ ⟨hB, hm, hb, topOf_i64 ib, mnOf_i64 ib, sum_wr ib (by omega)⟩
  unfold JoinTo at this
  rw [hl, ← tf_yes hj] at this
  subst hk
  exact this

set_option maxHeartbeats 1000000 in
theorem sameAgg_same (N h l mn mx : Int) (A B : Option Addr) (n ca cb : Nat) (zs : List Int) (w : World) (hA : Rd w A (iz zs)) (hB : Rd w B (iz zs)) (hz : zs.length = n) (hn : n ≤ 1048576) :
    Calls Try.prog 16 #[agv N h l mn mx (.slice A n ca), agv N h l mn mx (.slice B n cb)] w fun e w' => e = .returned (.bool true) ∧ Below w.heap.size w w' := by
  have hb0 := below2 w (.cells (agc N h l mn mx (.slice A n ca)).toArray 31) (.cells (agc N h l mn mx (.slice B n cb)).toArray 31)
  have HA := Lib.hid (hA.below hb0)
  have HB := Lib.hid (hB.below hb0)
  have o1 := (Own.new w 31 (agc N h l mn mx (.slice A n ca))).alloc (.cells (agc N h l mn mx (.slice B n cb)).toArray 31)
  have o2 := new_second w (.cells (agc N h l mn mx (.slice A n ca)).toArray 31) 31 (agc N h l mn mx (.slice B n cb))
  have HS := Lib.hid (fun W (h : Rd W A (iz zs)) (h' : Rd W B (iz zs)) => show Calls Try.prog 21 #[.slice A n ca, .slice B n cb] W _ from hz ▸ as_bool (decide_eq_true rfl) (same_any A B ca cb zs zs W h h' (by omega) (by omega)))
  clear hA hB
  obtain ⟨a0, a1, a2, a3, a4, a5⟩ := o1.six
  obtain ⟨b0, b1, b2, b3, b4, b5⟩ := o2.six
  clear o1 o2
  go_enter Try.func16, Try.ntmps16
  go_wp2_with fail
  refine (HS.out _ HA.out HB.out).mono ?_
  rintro e w1 ⟨rfl, hb⟩
  replace hb0 := below_trans hb0 hb
  go_wp2
  go_ret
  exact ⟨rfl, hb0⟩
end Go.Proofs.Ytkaghdkehkjdoaa
