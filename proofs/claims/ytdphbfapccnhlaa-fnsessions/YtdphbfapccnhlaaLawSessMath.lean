/-
  What the sessions of a list of times are, turned round and in two parts; a slice of integers of one's own, cut in two: times[:p] and times[p:].
-/
import Derived.Test.YtdphbfapccnhlaaSOfS
import Derived.Test.YtdphbfapccnhlaaLawWinKit
import Derived.Test.YtdphbfapccnhlaaMerge
namespace Go.Proofs.Ytdphbfapccnhlaa
open Go.RowKit

def wins (s : Int) (ts : List Int) : List Wn := ts.map fun t => (t, t + s)
theorem sessOfTo_all (s : Int) (ts : List Int) : sessOfTo s ts ts.length = addMany [] (wins s ts) := by unfold sessOfTo timesW wins; rw [List.take_length]
theorem iat_mem {ts : List Int} {i : Nat} (h : i < ts.length) : iat ts i ∈ ts := by
  have : iat ts i = ts[i] := by simp [iat, h]
  rw [this]; exact List.getElem_mem h
theorem ofOk_mem {k s t : Int} {ts : List Int} : ofOk k s t ts ↔ defOk k s t ∧ k = 3 ∧ ts.length ≤ 300 ∧ ∀ x ∈ ts, isT x := by
  refine ⟨fun h => ⟨h.1, h.2.1, h.2.2.1, fun x hx => ?_⟩, fun h => ⟨h.1, h.2.1, h.2.2.1, fun i hi => h.2.2.2 _ (iat_mem hi)⟩⟩
  obtain ⟨i, hi, rfl⟩ := List.getElem_of_mem hx
  have e : iat ts i = ts[i] := by simp [iat, hi]
  rw [← e]
  exact h.2.2.2 i hi
theorem ofOk_sub {k s t : Int} {ts us : List Int} (h : ofOk k s t ts) (hl : us.length ≤ ts.length) (hs : ∀ x ∈ us, x ∈ ts) : ofOk k s t us := by
  rw [ofOk_mem] at h ⊢
  exact ⟨h.1, h.2.1, Nat.le_trans hl h.2.2.1, fun x hx => h.2.2.2 x (hs x hx)⟩
theorem wins_ok {k s t : Int} {ts : List Int} (h : ofOk k s t ts) : ∀ x ∈ wins s ts, winOk x := by
  have h1 := timesW_ok h.1.2.2.1 h.1.2.2.2.1 (Nat.le_refl _) h.2.2.2
  unfold timesW at h1
  rw [List.take_length] at h1
  exact h1
theorem ofOk_rev {k s t : Int} {ts : List Int} (h : ofOk k s t ts) : ofOk k s t ts.reverse := ofOk_sub h (by simp) (fun x hx => List.mem_reverse.1 hx)
theorem ofOk_take {k s t : Int} {ts : List Int} (h : ofOk k s t ts) (p : Nat) : ofOk k s t (ts.take p) := ofOk_sub h (by simp; omega) (fun _ hx => List.mem_of_mem_take hx)
theorem ofOk_drop {k s t : Int} {ts : List Int} (h : ofOk k s t ts) (p : Nat) : ofOk k s t (ts.drop p) := ofOk_sub h (by simp) (fun _ hx => List.mem_of_mem_drop hx)
theorem sessOf_all {k s t : Int} {ts : List Int} (h : ofOk k s t ts) : sessOf k s t ts = addMany [] (wins s ts) := by rw [sessOf_yes h, sessOfTo_all]
theorem sessOf_rev {k s t : Int} {ts : List Int} (h : ofOk k s t ts) : sessOf k s t ts.reverse = sessOf k s t ts := by
  rw [sessOf_all h, sessOf_all (ofOk_rev h)]
  have : wins s ts.reverse = (wins s ts).reverse := by unfold wins; exact List.map_reverse
  rw [this, many_reverse (wins_ok h)]
theorem sessOf_ok {k s t : Int} {ts : List Int} (h : ofOk k s t ts) : sessOk (sessOf k s t ts) := by
  refine (sessOk_iff _).2 ⟨sessOf_len _ _ _ _, ?_⟩
  rw [sessOf_all h]
  exact many_srt srt_nil (wins_ok h)
theorem joinTo_many {xs bs : List Wn} (hx : Srt xs) (hb : ∀ x ∈ bs, winOk x) (hl : xs.length + bs.length ≤ 300) : ∀ {k : Nat}, k ≤ bs.length → joinTo xs bs k = some (addMany xs (bs.take k))
  | 0, _ => by rw [joinTo_zero]; rfl
  | k + 1, hk => by
    have hlt : k < bs.length := by omega
    have e : wat bs k = bs[k] := by simp [wat, hlt]
    have hw : winOk (wat bs k) := by rw [e]; exact hb _ (List.getElem_mem hlt)
    have h1 := many_length (bs.take k) xs
    rw [List.length_take, Nat.min_eq_left (by omega)] at h1
    have h2 := add_length (addMany xs (bs.take k)) (wat bs k)
    rw [joinTo_yes hlt (joinTo_many hx hb hl (by omega)) ⟨(sessOk_iff _).2 ⟨by omega, many_srt hx fun x h => hb x (List.mem_of_mem_take h)⟩, hw, by omega⟩]
    rw [List.take_succ_eq_append_getElem hlt, many_snoc, e]
theorem sessOf_join {k s t : Int} {ts : List Int} (h : ofOk k s t ts) (p : Nat) : joinOk (sessOf k s t (ts.take p)) (sessOf k s t (ts.drop p)) ∧ sessJoin (sessOf k s t (ts.take p)) (sessOf k s t (ts.drop p)) = sessOf k s t ts := by
  have h1 := ofOk_take h p
  have h2 := ofOk_drop h p
  have k1 := sessOf_ok h1
  have k2 := sessOf_ok h2
  have e : wins s ts = wins s (ts.take p) ++ wins s (ts.drop p) := by unfold wins; rw [← List.map_append, List.take_append_drop]
  have l1 := many_length (wins s (ts.take p)) []
  have l2 := many_length (wins s (ts.drop p)) []
  have l0 := h.2.2.1
  have hl : (wins s ts).length = ts.length := by unfold wins; simp
  rw [e, List.length_append] at hl
  have hj : joinTo (sessOf k s t (ts.take p)) (sessOf k s t (ts.drop p)) (sessOf k s t (ts.drop p)).length = some (sessOf k s t ts) := by
    have s1 := srt_of_sessTo k1.2
    have s2 := srt_of_sessTo k2.2
    rw [sessOf_all h1] at s1 ⊢
    rw [sessOf_all h2] at s2 ⊢
    rw [List.length_nil] at l1 l2
    rw [joinTo_many s1 s2.1 (by omega) (Nat.le_refl _), List.take_length, many_join (wins_ok h1) (wins_ok h2), sessOf_all h, e]
  exact sessJoin_yes k1 k2 hj
theorem sessOf_at {k s t : Int} {ts : List Int} (h : ofOk k s t ts) {i : Nat} (hi : i < ts.length) : 0 ≤ sessAt (sessOf k s t ts) (iat ts i) := by
  refine sessAt_time (sessOf_ok h) h.1.2.2.1 ?_
  rw [sessOf_all h]
  exact many_within _ _ _ (.inr (List.mem_map.2 ⟨_, iat_mem hi, rfl⟩))
/-- the times from the last down -/
theorem back_step {ts : List Int} {j : Nat} (h : j < ts.length) : (ts.drop j).reverse = (ts.drop (j + 1)).reverse ++ [iat ts j] := by
  rw [List.drop_eq_getElem_cons h, List.reverse_cons]
  simp [iat, h]

theorem under_int : Try.prog.underlying 33 = some (.slice (Try.prog.elem 33)) := by
  rw [show Try.prog.elem 33 = 3 by kernel_rfl]; exact Try.underlying33
theorem size_int : ∀ W, (sizeOf (Try.prog.elem 33)).run Try.prog W = .ok 1 W := fun W => by
  rw [show Try.prog.elem 33 = 3 by kernel_rfl]; kernel_rfl
theorem iz_in_take {ts : List Int} {p k : Nat} {u : Value} (h : (iz (ts.take p))[k]? = some u) : (iz ts)[k]? = some u := by
  unfold iz at h ⊢
  rw [List.getElem?_map] at h ⊢
  rw [List.getElem?_take] at h
  split at h
  · exact h
  · simp at h
theorem iz_in_drop {ts : List Int} {p k : Nat} {u : Value} (h : (iz (ts.drop p))[k]? = some u) : (iz ts)[p + k]? = some u := by
  unfold iz at h ⊢
  rw [List.getElem?_map] at h ⊢
  rwa [List.getElem?_drop] at h
theorem int_head {w : World} {base n c p : Nat} {A : Option Addr} {ts : List Int} (h : w.ownsRow base 3 1 (.slice A n c) n (iz ts)) (hl : ts.length = n) (hp : p ≤ n) :
    ∃ A' c', (∀ W, (Instr.slice 33 (.slice A n c) none (some (.int .i64 (p : Int))) none).run Try.prog W = .ok (.slice A' p c') W) ∧ ∀ W, Below w.heap.size w W → Rd W A' (iz (ts.take p)) := by
  have hR := RowAt.reads (RowAt.of h)
  have hf := owns_fit h
  have hr : ∀ W, (Instr.slice 33 (.slice A n c) none (some (.int .i64 (p : Int))) none).run Try.prog W = .ok (sliced A 0 p c 1) W := fun W => by
    rw [run_slice_h (P := Try.prog) (t := 33) (ht := under_int) (h0 := by omega) (h2 := by have := hf.1; omega), size_int]; rfl
  refine ⟨A, c, fun W => ?_, fun W hb k u hu => (hR.below hb) k u (iz_in_take hu)⟩
  rw [hr]
  rcases h.2 with ⟨h1, _⟩ | ⟨g, cap, cur, h1, _⟩
  · cases h1; simp [sliced]
  · cases h1; simp [sliced, plain_add']
theorem int_tail {w : World} {base n c p : Nat} {A : Option Addr} {ts : List Int} (h : w.ownsRow base 3 1 (.slice A n c) n (iz ts)) (hl : ts.length = n) (hp : p ≤ n) :
    ∃ A' c', (∀ W, (Instr.slice 33 (.slice A n c) (some (.int .i64 (p : Int))) none none).run Try.prog W = .ok (.slice A' (n - p) c') W) ∧ ∀ W, Below w.heap.size w W → Rd W A' (iz (ts.drop p)) := by
  have hR := RowAt.reads (RowAt.of h)
  have hf := owns_fit h
  have hr : ∀ W, (Instr.slice 33 (.slice A n c) (some (.int .i64 (p : Int))) none none).run Try.prog W = .ok (sliced A p n c 1) W := fun W => by
    rw [run_slice_l (P := Try.prog) (t := 33) (ht := under_int) (h0 := by omega) (h1 := by omega), size_int]; rfl
  rcases h.2 with ⟨h1, _⟩ | ⟨g, cap, cur, h1, _⟩
  · cases h1
    refine ⟨none, 0, fun W => ?_, fun W hb k u hu => by
      obtain ⟨ad, e, _⟩ := (hR.below hb) _ u (iz_in_drop hu)
      cases e⟩
    rw [hr]
    obtain rfl : p = 0 := by omega
    simp [sliced]
  · cases h1
    by_cases hc : c = p
    · have hn : n = p := by have := hf.1; omega
      refine ⟨some ⟨g, 0, none⟩, 0, fun W => ?_, fun W hb k u hu => ?_⟩
      · rw [hr]; subst hc; simp [sliced]
      · rw [show ts.drop p = [] by rw [List.drop_eq_nil_iff]; omega] at hu
        simp [iz] at hu
    · refine ⟨some ⟨g, p, none⟩, c - p, fun W => ?_, fun W hb k u hu => ?_⟩
      · rw [hr]; simp [sliced, hc, plain_add']
      · obtain ⟨ad, e, hlt, hc'⟩ := (hR.below hb) _ u (iz_in_drop hu)
        cases e
        refine ⟨_, rfl, hlt, ?_⟩
        rw [plain_add'] at hc' ⊢
        rwa [Nat.zero_add] at hc'
end Go.Proofs.Ytdphbfapccnhlaa
