/-
  Watermarks: a list of pairs (at, idle), as cells; the least, the greatest, what is valid, what is set.
-/
import Derived.Test.YtmipieoglcefkaaPairs
namespace Go.Proofs.Ytmipieoglcefkaa
open Go.RowKit

/-- a source's mark: its watermark, and whether it is idle -/
abbrev Mk := Int × Bool
def mat (ms : List Mk) (k : Nat) : Mk := ms.getD k (0, false)
/-- marks as cells, two each -/
def mz (ms : List Mk) : List Value := ms.flatMap fun m => [Value.int .i64 m.1, Value.bool m.2]
theorem mz_cons (m : Mk) (ms : List Mk) : mz (m :: ms) = .int .i64 m.1 :: .bool m.2 :: mz ms := by simp [mz]
theorem mz_append (a b : List Mk) : mz (a ++ b) = mz a ++ mz b := by simp [mz]
theorem mz_length (ms : List Mk) : (mz ms).length = ms.length * 2 := by
  induction ms with
  | nil => rfl
  | cons m ms ih => rw [mz_cons]; simp [ih]; omega
theorem mz_lo {ms : List Mk} {k : Nat} (h : k < ms.length) : (mz ms)[k * 2]? = some (.int .i64 (mat ms k).1) := by
  induction ms generalizing k with
  | nil => simp at h
  | cons e es ih =>
    cases k with
    | zero => simp [mz_cons, mat]
    | succ k =>
      rw [mz_cons, show (k + 1) * 2 = k * 2 + 1 + 1 by omega, List.getElem?_cons_succ, List.getElem?_cons_succ, ih (by simpa using h)]
      simp [mat]
theorem mz_hi {ms : List Mk} {k : Nat} (h : k < ms.length) : (mz ms)[k * 2 + 1]? = some (.bool (mat ms k).2) := by
  induction ms generalizing k with
  | nil => simp at h
  | cons e es ih =>
    cases k with
    | zero => simp [mz_cons, mat]
    | succ k =>
      rw [mz_cons, show (k + 1) * 2 + 1 = k * 2 + 1 + 1 + 1 by omega, List.getElem?_cons_succ, List.getElem?_cons_succ, ih (by simpa using h)]
      simp [mat]
theorem mz_one (ms : List Mk) : ∀ u ∈ mz ms, u.oneCell' = true := by
  intro u hu
  simp only [mz, List.mem_flatMap] at hu
  obtain ⟨m, _, hu⟩ := hu
  simp at hu
  rcases hu with rfl | rfl <;> rfl
theorem mz_inj : ∀ {u v : List Mk}, mz u = mz v → u = v
  | [], [], _ => rfl
  | [], b :: bs, h => by rw [mz_cons] at h; simp [mz] at h
  | a :: us, [], h => by rw [mz_cons] at h; simp [mz] at h
  | a :: us, b :: bs, h => by
    rw [mz_cons, mz_cons] at h
    simp only [List.cons.injEq, Value.int.injEq, Value.bool.injEq, true_and] at h
    obtain ⟨h1, h2, h3⟩ := h
    have := mz_inj h3
    subst this
    congr 1
    exact Prod.ext h1 h2
theorem mz_set {ms : List Mk} {k : Nat} (h : k < ms.length) (x : Int) (b : Bool) : ((mz ms).set (k * 2) (.int .i64 x)).set (k * 2 + 1) (.bool b) = mz (ms.set k (x, b)) := by
  induction ms generalizing k with
  | nil => simp at h
  | cons e es ih =>
    cases k with
    | zero => simp [mz_cons]
    | succ k =>
      rw [mz_cons, show (k + 1) * 2 + 1 = k * 2 + 1 + 1 + 1 by omega, show (k + 1) * 2 = k * 2 + 1 + 1 by omega]
      simp only [List.set_cons_succ]
      rw [ih (by simpa using h), mz_cons]
theorem set_self {α : Type} {l : List α} {k : Nat} {u : α} (h : l[k]? = some u) : l.set k u = l := by
  apply List.ext_getElem?
  intro i
  rw [List.getElem?_set]
  split
  · rename_i hki
    subst hki
    rw [h]
    simp [(List.getElem?_eq_some_iff.1 h).1]
  · rfl
theorem mz_set_hi {ms : List Mk} {k : Nat} (h : k < ms.length) (b : Bool) : (mz ms).set (k * 2 + 1) (.bool b) = mz (ms.set k ((mat ms k).1, b)) := by
  rw [← mz_set h, set_self (mz_lo h)]
/-- the two cells of mark k -/
theorem Rd.mark {w : World} {A : Option Addr} {ms : List Mk} (h : Rd w A (mz ms)) {k : Nat} (hk : k < ms.length) :
    ∃ b off, A = some ⟨b, off, none⟩ ∧ b < w.heap.size ∧ ∀ W, Below w.heap.size w W → W.cell? ⟨b, off + k * 2, none⟩ = some (.int .i64 (mat ms k).1) ∧ W.cell? ⟨b, off + k * 2 + 1, none⟩ = some (.bool (mat ms k).2) := by
  obtain ⟨ad, rfl, hb, h1⟩ := h _ _ (mz_lo hk)
  obtain ⟨ad', e', _, h2⟩ := h _ _ (mz_hi hk)
  obtain rfl : ad = ad' := by injection e'
  obtain ⟨ad0, e0, _, h0⟩ := h _ _ (mz_lo (k := 0) (by omega))
  obtain rfl : ad = ad0 := by injection e0
  obtain ⟨b, off, rfl⟩ := plain_of h0
  rw [plain_add] at h1 h2
  rw [← Nat.add_assoc] at h2
  exact ⟨b, off, rfl, hb, fun W hW => ⟨(hW.cell (p := ⟨b, off + k * 2, none⟩) hb).trans h1, (hW.cell (p := ⟨b, off + k * 2 + 1, none⟩) hb).trans h2⟩⟩

/-! ### the least and the greatest -/

/-- the least so far, and whether there is one -/
def lst (p : Mk) (m : Mk) : Mk := if m.2 = false ∧ (p.2 = false ∨ m.1 < p.1) then (m.1, true) else p
def leastTo (ms : List Mk) (k : Nat) : Mk := (ms.take k).foldl lst (-1, false)
def leastOf (ms : List Mk) : Int := (leastTo ms ms.length).1
def mostTo (ms : List Mk) (k : Nat) : Int := (ms.take k).foldl (fun g m => max g m.1) 0
def mostOf (ms : List Mk) : Int := mostTo ms ms.length
theorem leastTo_zero (ms : List Mk) : leastTo ms 0 = (-1, false) := by simp [leastTo]
theorem leastTo_succ {ms : List Mk} {k : Nat} (h : k < ms.length) : leastTo ms (k + 1) = lst (leastTo ms k) (mat ms k) := by
  unfold leastTo
  rw [List.take_succ_eq_append_getElem h, List.foldl_append]
  simp [mat, h]
theorem mostTo_zero (ms : List Mk) : mostTo ms 0 = 0 := by simp [mostTo]
theorem mostTo_succ {ms : List Mk} {k : Nat} (h : k < ms.length) : mostTo ms (k + 1) = max (mostTo ms k) (mat ms k).1 := by
  unfold mostTo
  rw [List.take_succ_eq_append_getElem h, List.foldl_append]
  simp [mat, h]

def isT (t : Int) : Prop := 0 ≤ t ∧ t ≤ 1000
def timesTo (ms : List Mk) (k : Nat) : Prop := ∀ j, j < k → isT (mat ms j).1
/-- valid marks -/
def marksOk (G : Int) (ms : List Mk) : Prop := 1 ≤ ms.length ∧ ms.length ≤ 4 ∧ isT G ∧ timesTo ms ms.length ∧ leastOf ms ≤ G ∧ G ≤ mostOf ms
def hasSrc (G : Int) (ms : List Mk) (src : Int) : Prop := marksOk G ms ∧ 0 ≤ src ∧ src < ms.length

/-- what comes of a change of one source -/
def withM (G : Int) (ms : List Mk) (src : Nat) (m : Mk) : Int × List Mk := (max G (leastOf (ms.set src m)), ms.set src m)
open Classical in
noncomputable def setG (G : Int) (ms : List Mk) (src at' : Int) : Int × List Mk × Int :=
  if hasSrc G ms src ∧ isT at' then if at' < (mat ms src.toNat).1 then (0, [], 2) else ((withM G ms src.toNat (at', false)).1, (withM G ms src.toNat (at', false)).2, 0) else (0, [], 1)
open Classical in
noncomputable def idleG (G : Int) (ms : List Mk) (src : Int) (idle : Bool) : Int × List Mk × Int :=
  if hasSrc G ms src then ((withM G ms src.toNat ((mat ms src.toNat).1, idle)).1, (withM G ms src.toNat ((mat ms src.toNat).1, idle)).2, 0) else (0, [], 1)
end Go.Proofs.Ytmipieoglcefkaa
