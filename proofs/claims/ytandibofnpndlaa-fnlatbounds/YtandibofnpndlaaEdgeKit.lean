/-
  What the laws' own helpers on edges return: equality, marks, copies.
-/
import Derived.Test.YtandibofnpndlaaLawKitD
namespace Go.Proofs.Ytandibofnpndlaa
open Go.RowKit

/-- edges as cells, two each -/
def ez (es : List (Int × Int)) : List Value := es.flatMap fun e => [Value.int .i64 e.1, Value.int .i64 e.2]
def elo (es : List (Int × Int)) (k : Nat) : Int := (es.getD k (0, 0)).1
def ehi (es : List (Int × Int)) (k : Nat) : Int := (es.getD k (0, 0)).2
theorem ez_length (es : List (Int × Int)) : (ez es).length = es.length * 2 := by
  induction es with
  | nil => rfl
  | cons e es ih => simp only [ez, List.flatMap_cons] at ih ⊢; simp [ih]; omega
theorem ez_cons (e : Int × Int) (es : List (Int × Int)) : ez (e :: es) = .int .i64 e.1 :: .int .i64 e.2 :: ez es := by simp [ez]
theorem ez_append (a b : List (Int × Int)) : ez (a ++ b) = ez a ++ ez b := by simp [ez]
theorem ez_lo {es : List (Int × Int)} {k : Nat} (h : k < es.length) : (ez es)[k * 2]? = some (.int .i64 (elo es k)) := by
  induction es generalizing k with
  | nil => simp at h
  | cons e es ih =>
    cases k with
    | zero => simp [ez_cons, elo]
    | succ k =>
      rw [ez_cons, show (k + 1) * 2 = k * 2 + 1 + 1 by omega, List.getElem?_cons_succ, List.getElem?_cons_succ, ih (by simpa using h)]
      simp [elo]
theorem ez_hi {es : List (Int × Int)} {k : Nat} (h : k < es.length) : (ez es)[k * 2 + 1]? = some (.int .i64 (ehi es k)) := by
  induction es generalizing k with
  | nil => simp at h
  | cons e es ih =>
    cases k with
    | zero => simp [ez_cons, ehi]
    | succ k =>
      rw [ez_cons, show (k + 1) * 2 + 1 = k * 2 + 1 + 1 + 1 by omega, List.getElem?_cons_succ, List.getElem?_cons_succ, ih (by simpa using h)]
      simp [ehi]

theorem plain_of {w : World} {ad : Addr} {u : Value} (h : w.cell? (ad.add 0) = some u) : ∃ b off, ad = ⟨b, off, none⟩ := by
  obtain ⟨b, off, spot⟩ := ad
  have hs := World.cell?_spot h
  have : spot = none := by simpa [Addr.add] using hs
  exact ⟨b, off, by rw [this]⟩
theorem plain_add (b off k : Nat) : (⟨b, off, none⟩ : Addr).add k = ⟨b, off + k, none⟩ := by
  unfold Addr.add
  split
  · simp_all
  · rfl
/-- the two cells of edge k -/
theorem Rd.edge {w : World} {A : Option Addr} {es : List (Int × Int)} (h : Rd w A (ez es)) {k : Nat} (hk : k < es.length) :
    ∃ b off, A = some ⟨b, off, none⟩ ∧ ∀ W, Below w.heap.size w W → W.cell? ⟨b, off + k * 2, none⟩ = some (.int .i64 (elo es k)) ∧ W.cell? ⟨b, off + k * 2 + 1, none⟩ = some (.int .i64 (ehi es k)) := by
  obtain ⟨ad, rfl, hb, h1⟩ := h _ _ (ez_lo hk)
  obtain ⟨ad', e', _, h2⟩ := h _ _ (ez_hi hk)
  obtain rfl : ad = ad' := by injection e'
  obtain ⟨ad0, e0, _, h0⟩ := h _ _ (ez_lo (k := 0) (by omega))
  obtain rfl : ad = ad0 := by injection e0
  obtain ⟨b, off, rfl⟩ := plain_of h0
  rw [plain_add] at h1 h2
  rw [← Nat.add_assoc] at h2
  exact ⟨b, off, rfl, fun W hW => ⟨(hW.cell (p := ⟨b, off + k * 2, none⟩) hb).trans h1, (hW.cell (p := ⟨b, off + k * 2 + 1, none⟩) hb).trans h2⟩⟩

set_option maxHeartbeats 400000 in
theorem eqEdge_any (a b c d : Int) (w : World) :
    Calls Try.prog 73 #[.agg #[.int .i64 a, .int .i64 b], .agg #[.int .i64 c, .int .i64 d]] w fun e w' => e = .returned (.bool (decide (a = c) && decide (b = d))) ∧ Below w.heap.size w w' := by
  by_cases h1 : a = c
  · have t1 : (a != c) = false := by simp [h1]
    by_cases h2 : b = d
    · have t2 : (b != d) = false := by simp [h2]
      have H1 := Lib.hid h1
      have H2 := Lib.hid h2
      clear h1 h2
      go_enter Try.func73, Try.ntmps73
      go_wp2
      go_ret
      exact ⟨ret_bool (by simp [H1.out, H2.out]), below_trans (below_alloc _ _) (below_alloc _ _)⟩
    · have t2 : (b != d) = true := by rw [bne_iff_ne]; exact h2
      have H1 := Lib.hid h1
      clear h1
      go_enter Try.func73, Try.ntmps73
      go_wp2
      go_ret
      exact ⟨ret_bool (by simp [h2]), below_trans (below_alloc _ _) (below_alloc _ _)⟩
  · have t1 : (a != c) = true := by rw [bne_iff_ne]; exact h1
    go_enter Try.func73, Try.ntmps73
    go_wp2
    go_ret
    exact ⟨ret_bool (by simp [h1]), below_trans (below_alloc _ _) (below_alloc _ _)⟩

set_option maxHeartbeats 400000 in
/-- rows of edges that hold the same -/
theorem eqEdgeS_same (A B : Option Addr) (n ca cb : Nat) (es : List (Int × Int)) (w : World) (hA : Rd w A (ez es)) (hB : Rd w B (ez es)) (hl : es.length = n) (hn : n ≤ 1048576) :
    Calls Try.prog 39 #[.slice A n ca, .slice B n cb] w fun e w' => e = .returned (.bool true) ∧ Below w.heap.size w w' := by
  subst hl
  have hne : ((es.length : Int) != (es.length : Int)) = false := by simp
  go_enter Try.func39, Try.ntmps39
  go_wp2
  go_loopw [5] (fun i wr => ∃ k : Nat, k ≤ es.length ∧ i = .int .i64 k ∧ Below w.heap.size w wr) (fun i _ => es.length - (intOf i).toNat)
  case atStart => exact ⟨0, Nat.zero_le _, rfl, Below.refl _ _⟩
  case round =>
    obtain ⟨k, hk, rfl, hbel⟩ := hrel
    by_cases hlt : k < es.length
    · obtain ⟨ab, ao, rfl, h1⟩ := hA.edge hlt
      obtain ⟨bb, bo, rfl, h2⟩ := hB.edge hlt
      have a1 : ∀ u : Bel wr, u.w.cell? ⟨ab, ao + k * 2, none⟩ = some (.int .i64 (elo es k)) := fun u => (h1 _ (below_trans hbel u.ok)).1
      have a2 : ∀ u : Bel wr, u.w.cell? ⟨ab, ao + k * 2 + 1, none⟩ = some (.int .i64 (ehi es k)) := fun u => (h1 _ (below_trans hbel u.ok)).2
      have b1 : ∀ u : Bel wr, u.w.cell? ⟨bb, bo + k * 2, none⟩ = some (.int .i64 (elo es k)) := fun u => (h2 _ (below_trans hbel u.ok)).1
      have b2 : ∀ u : Bel wr, u.w.cell? ⟨bb, bo + k * 2 + 1, none⟩ = some (.int .i64 (ehi es k)) := fun u => (h2 _ (below_trans hbel u.ok)).2
      clear h1 h2
      go_wp2
      refine wp_region_bel (by kernel_rfl) (by kernel_rfl) ?_
      repeat (go_big_quiet_step ((go_at_call 73; exact bel_of _ (as_bool (show (decide (elo es k = elo es k) && decide (ehi es k = ehi es k)) = true by simp) (eqEdge_any (elo es k) (ehi es k) (elo es k) (ehi es k) _)))))
      refine wpQuiet_nil ?_
      rintro _ ⟨u, rfl⟩
      go_wp2
      go_roundw
      case rel => exact ⟨k + 1, by omega, by go_num, below_trans hbel u.ok⟩
      case measure => simp [intOf]; omega
    · go_wp2
      go_ret
      exact ⟨rfl, hbel⟩
end Go.Proofs.Ytandibofnpndlaa
