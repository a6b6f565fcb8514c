/-
  s[:p] and s[p:] of a row of integers of the call's own: what they are, and how they read.
-/
import Derived.Test.YtlmlckgnmkjkdaaAppT
import Derived.Lib.SliceRun
namespace Go.Proofs.Ytlmlckgnmkjkdaa
open Go.RowKit

theorem under_int : Try.prog.underlying 29 = some (.slice (Try.prog.elem 29)) := by
  rw [show Try.prog.elem 29 = 3 by kernel_rfl]; exact Try.underlying29
theorem size_int : ∀ W, (sizeOf (Try.prog.elem 29)).run Try.prog W = .ok 1 W := fun W => by
  rw [show Try.prog.elem 29 = 3 by kernel_rfl]; kernel_rfl
theorem iz_in_take {ts : List Int} {p k : Nat} {u : Value} (h : (iz (ts.take p))[k]? = some u) : (iz ts)[k]? = some u := by
  unfold iz at h ⊢
  rw [List.getElem?_map] at h ⊢
  rw [List.getElem?_take] at h
  split at h
  · exact h
  · simp at h
theorem iz_in_drop {ts : List Int} {p k : Nat} {u : Value} (h : (iz (ts.drop p))[k]? = some u) : (iz ts)[p + k]? = some u := by
  unfold iz at h ⊢
  rw [List.getElem?_map] at h ⊢
  rwa [List.getElem?_drop] at h
theorem int_head' {w : World} {base n c p : Nat} {A : Option Addr} {ts : List Int} (h : w.ownsRow base 3 1 (.slice A n c) n (iz ts)) (hl : ts.length = n) (hp : p ≤ n) :
    ∃ A' c', (∀ W, (Instr.slice 29 (.slice A n c) none (some (.int .i64 (p : Int))) none).run Try.prog W = .ok (.slice A' p c') W) ∧ (∀ W, Below w.heap.size w W → Rd W A' (iz (ts.take p))) ∧ SFit A' p c' := by
  have hR := RowAt.reads (RowAt.of h)
  have hf := owns_fit h
  have hr : ∀ W, (Instr.slice 29 (.slice A n c) none (some (.int .i64 (p : Int))) none).run Try.prog W = .ok (sliced A 0 p c 1) W := fun W => by
    rw [run_slice_h (P := Try.prog) (t := 29) (ht := under_int) (h0 := by omega) (h2 := by have := hf.1; omega), size_int]; rfl
  refine ⟨A, c, fun W => ?_, fun W hb k u hu => (hR.below hb) k u (iz_in_take hu), by have := hf.1; omega, hf.2⟩
  rw [hr]
  rcases h.2 with ⟨h1, _⟩ | ⟨g, cap, cur, h1, _⟩
  · cases h1; simp [sliced]
  · cases h1; simp [sliced, plain_add']
theorem int_tail' {w : World} {base n c p : Nat} {A : Option Addr} {ts : List Int} (h : w.ownsRow base 3 1 (.slice A n c) n (iz ts)) (hl : ts.length = n) (hp : p ≤ n) :
    ∃ A' c', (∀ W, (Instr.slice 29 (.slice A n c) (some (.int .i64 (p : Int))) none none).run Try.prog W = .ok (.slice A' (n - p) c') W) ∧ (∀ W, Below w.heap.size w W → Rd W A' (iz (ts.drop p))) ∧ SFit A' (n - p) c' := by
  have hR := RowAt.reads (RowAt.of h)
  have hf := owns_fit h
  have hr : ∀ W, (Instr.slice 29 (.slice A n c) (some (.int .i64 (p : Int))) none none).run Try.prog W = .ok (sliced A p n c 1) W := fun W => by
    rw [run_slice_l (P := Try.prog) (t := 29) (ht := under_int) (h0 := by omega) (h1 := by omega), size_int]; rfl
  rcases h.2 with ⟨h1, _⟩ | ⟨g, cap, cur, h1, _⟩
  · cases h1
    refine ⟨none, 0, fun W => ?_, (fun W hb k u hu => by
      obtain ⟨ad, e, _⟩ := (hR.below hb) _ u (iz_in_drop hu)
      cases e), by omega, fun _ => rfl⟩
    rw [hr]
    obtain rfl : p = 0 := by omega
    simp [sliced]
  · cases h1
    by_cases hc : c = p
    · have hn : n = p := by have := hf.1; omega
      refine ⟨some ⟨g, 0, none⟩, 0, fun W => ?_, fun W hb k u hu => ?_, by omega, fun h => by cases h⟩
      · rw [hr]; subst hc; simp [sliced]
      · rw [show ts.drop p = [] by rw [List.drop_eq_nil_iff]; omega] at hu
        simp [iz] at hu
    · refine ⟨some ⟨g, p, none⟩, c - p, fun W => ?_, fun W hb k u hu => ?_, by have := hf.1; omega, fun h => by cases h⟩
      · rw [hr]; simp [sliced, hc, plain_add']
      · obtain ⟨ad, e, hlt, hc'⟩ := (hR.below hb) _ u (iz_in_drop hu)
        cases e
        refine ⟨_, rfl, hlt, ?_⟩
        rw [plain_add'] at hc' ⊢
        rwa [Nat.zero_add] at hc'
theorem int_head {w : World} {base n c p : Nat} {A : Option Addr} {ts : List Int} (h : w.ownsRow base 3 1 (.slice A n c) n (iz ts)) (hl : ts.length = n) (hp : p ≤ n) :
    ∃ A' c', (∀ W, (Instr.slice 29 (.slice A n c) none (some (.int .i64 (p : Int))) none).run Try.prog W = .ok (.slice A' p c') W) ∧ ∀ W, Below w.heap.size w W → Rd W A' (iz (ts.take p)) := by
  obtain ⟨A', c', h1, h2, _⟩ := int_head' h hl hp
  exact ⟨A', c', h1, h2⟩
theorem int_tail {w : World} {base n c p : Nat} {A : Option Addr} {ts : List Int} (h : w.ownsRow base 3 1 (.slice A n c) n (iz ts)) (hl : ts.length = n) (hp : p ≤ n) :
    ∃ A' c', (∀ W, (Instr.slice 29 (.slice A n c) (some (.int .i64 (p : Int))) none none).run Try.prog W = .ok (.slice A' (n - p) c') W) ∧ ∀ W, Below w.heap.size w W → Rd W A' (iz (ts.drop p)) := by
  obtain ⟨A', c', h1, h2, _⟩ := int_tail' h hl hp
  exact ⟨A', c', h1, h2⟩
/-- s[k:k+1] of a slice that reads as a list -/
theorem int_one {w : World} {ad : Addr} {n c k : Nat} {ts : List Int} (hR : Rd w (some ad) (iz ts)) (hl : ts.length = n) (hk : k < n) (hf : SFit (some ad) n c) :
    (∀ W, (Instr.slice 29 (.slice (some ad) n c) (some (.int .i64 (k : Int))) (some (.int .i64 ((k : Int) + 1))) none).run Try.prog W = .ok (.slice (some (ad.add k)) 1 (c - k)) W) ∧ Rd w (some (ad.add k)) (iz [iat ts k]) ∧ SFit (some (ad.add k)) 1 (c - k) := by
  have hc := hf.1
  refine ⟨fun W => ?_, fun j u hj => ?_, by omega, fun h => by cases h⟩
  · rw [run_slice_lh (P := Try.prog) (t := 29) (ht := under_int) (h0 := by omega) (h1 := by omega) (h2 := by omega), size_int]
    have e1 : ((k : Int) + 1).toNat = k + 1 := by omega
    have e2 : ¬ c = k := by omega
    simp [sliced, e1, e2]
  · have hj0 : j = 0 := by have := (List.getElem?_eq_some_iff.1 hj).1; simpa [iz] using this
    subst hj0
    obtain ⟨ad', e, hlt, hcell⟩ := hR k _ (iz_iat (by omega))
    cases e
    obtain ⟨ad0, e0, _, hc0⟩ := hR 0 _ (iz_iat (by omega))
    cases e0
    obtain ⟨b, off, rfl⟩ := plain_of hc0
    rw [plain_add'] at hcell ⊢
    refine ⟨_, rfl, hlt, ?_⟩
    rw [plain_add', Nat.add_zero, hcell]
    simpa [iz] using hj
end Go.Proofs.Ytlmlckgnmkjkdaa
