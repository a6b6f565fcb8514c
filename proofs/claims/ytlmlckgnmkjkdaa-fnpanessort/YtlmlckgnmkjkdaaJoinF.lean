import Derived.Test.YtlmlckgnmkjkdaaOwnsS
import Derived.Test.YtlmlckgnmkjkdaaKitPane
import Derived.Test.YtlmlckgnmkjkdaaIntCut
import Derived.Test.YtlmlckgnmkjkdaaDoneI
import Derived.Test.YtlmlckgnmkjkdaaJoinE
import Derived.BigRegion
import Derived.Deep.RegionLaw
import Derived.Deep.RegionHeld3
import Derived.Deep.DeepCutAuto
import Derived.Deep.CutBlock

/-
  Rows of structs as cells, by a function of the place.
-/
namespace Go.Proofs.Ytlmlckgnmkjkdaa
open Go.RowKit

/-- n structs, the i-th of which lies as the cells F i -/
def rows (F : Nat → List Value) (n : Nat) : List Value := (List.range n).flatMap F
def updN {α : Type} (X : Nat → α) (i : Nat) (y : α) : Nat → α := fun k => if k = i then y else X k
theorem updN_at {α : Type} {X : Nat → α} {i : Nat} {y : α} : updN X i y i = y := by simp [updN]
theorem updN_ne {α : Type} {X : Nat → α} {i k : Nat} {y : α} (h : k ≠ i) : updN X i y k = X k := by simp [updN, h]
theorem rows_succ (F : Nat → List Value) (n : Nat) : rows F (n + 1) = rows F n ++ F n := by simp [rows, List.range_succ]
theorem rows_zero (F : Nat → List Value) : rows F 0 = [] := rfl
theorem rows_length {F : Nat → List Value} {s n : Nat} (h : ∀ i, (F i).length = s) : (rows F n).length = n * s := by
  induction n with
  | zero => simp [rows]
  | succ n ih => rw [rows_succ, List.length_append, ih, h, Nat.add_mul, Nat.one_mul]
theorem mul_lt_next {i n s : Nat} (h : i < n) : i * s + s ≤ n * s := by
  have := Nat.mul_le_mul_right s (show i + 1 ≤ n from h)
  rw [Nat.add_mul, Nat.one_mul] at this
  exact this
theorem rows_at {F : Nat → List Value} {s n i j : Nat} (h : ∀ i, (F i).length = s) (hi : i < n) (hj : j < s) : (rows F n)[i * s + j]? = (F i)[j]? := by
  induction n with
  | zero => omega
  | succ n ih =>
    rw [rows_succ]
    by_cases c : i < n
    · have := mul_lt_next (s := s) c
      rw [List.getElem?_append_left (by rw [rows_length h]; omega)]
      exact ih c
    · have : i = n := by omega
      subst this
      rw [List.getElem?_append_right (by rw [rows_length h]; omega), rows_length h]
      congr 1; omega
theorem rows_congr {F G : Nat → List Value} {n : Nat} (h : ∀ i, i < n → F i = G i) : rows F n = rows G n := by
  induction n with
  | zero => rfl
  | succ n ih => rw [rows_succ, rows_succ, ih fun i hi => h i (by omega), h n (by omega)]
theorem rows_set {F : Nat → List Value} {s n i j : Nat} (h : ∀ i, (F i).length = s) (hi : i < n) (hj : j < s) (c : Value) : (rows F n).set (i * s + j) c = rows (updN F i ((F i).set j c)) n := by
  induction n with
  | zero => omega
  | succ n ih =>
    rw [rows_succ, rows_succ, List.set_append]
    by_cases c1 : i < n
    · have := mul_lt_next (s := s) c1
      rw [if_pos (by rw [rows_length h]; omega), ih c1, updN_ne (by omega)]
    · have : i = n := by omega
      subst this
      rw [if_neg (by rw [rows_length h]; omega), rows_length h, updN_at, show i * s + j - i * s = j by omega]
      congr 1
      exact rows_congr fun k hk => (updN_ne (by omega)).symm
theorem rows_take {F : Nat → List Value} {s n k : Nat} (h : ∀ i, (F i).length = s) (hk : k ≤ n) : (rows F n).take (k * s) = rows F k := by
  induction n with
  | zero => obtain rfl : k = 0 := by omega
            simp [rows]
  | succ n ih =>
    rw [rows_succ]
    by_cases c : k ≤ n
    · have := Nat.mul_le_mul_right s c
      rw [List.take_append_of_le_length (by rw [rows_length h]; omega)]
      exact ih c
    · have : k = n + 1 := by omega
      subst this
      rw [List.take_of_length_le (by rw [List.length_append, rows_length h, h, Nat.add_mul, Nat.one_mul]; omega), rows_succ]
theorem rows_append {F G : Nat → List Value} {n m : Nat} : rows F n ++ rows G m = rows (fun i => if i < n then F i else G (i - n)) (n + m) := by
  induction m with
  | zero =>
    rw [rows_zero, List.append_nil, Nat.add_zero]
    exact rows_congr fun i hi => by rw [if_pos hi]
  | succ m ih =>
    rw [rows_succ, ← List.append_assoc, ih, show n + (m + 1) = n + m + 1 by omega, rows_succ, if_neg (by omega), show n + m - n = m by omega]
theorem rows_drop {F : Nat → List Value} {s n k : Nat} (h : ∀ i, (F i).length = s) (hk : k ≤ n) : (rows F n).drop (k * s) = rows (fun i => F (k + i)) (n - k) := by
  have e : rows F n = rows F k ++ rows (fun i => F (k + i)) (n - k) := by
    rw [rows_append, show k + (n - k) = n by omega]
    refine rows_congr fun i hi => ?_
    by_cases c : i < k
    · rw [if_pos c]
    · rw [if_neg c]; congr 1; omega
  rw [e, List.drop_append_of_le_length (by rw [rows_length h]; exact Nat.le_refl _), List.drop_of_length_le (by rw [rows_length h]; exact Nat.le_refl _), List.nil_append]
/-- a row of structs that is read: the cells of place i -/
theorem Rd.row {w : World} {A : Option Addr} {F : Nat → List Value} {s n i : Nat} (h : Rd w A (rows F n)) (hs : ∀ i, (F i).length = s) (h0 : 0 < s) (hi : i < n) :
    ∃ b off, A = some ⟨b, off, none⟩ ∧ b < w.heap.size ∧ ∀ W, Below w.heap.size w W → ∀ j, j < s → W.cell? ⟨b, off + i * s + j, none⟩ = (F i)[j]? := by
  have hg : ∀ j, j < s → ∃ u, (F i)[j]? = some u ∧ (rows F n)[i * s + j]? = some u := fun j hj => by
    refine ⟨(F i)[j]'(by rw [hs]; exact hj), by simp, ?_⟩
    rw [rows_at hs hi hj]; simp
  obtain ⟨u0, hu0, hr0⟩ := hg 0 h0
  have hn : 0 < n * s := Nat.mul_pos (by omega) h0
  obtain ⟨ad, rfl, hb, hc⟩ := h 0 ((rows F n)[0]'(by rw [rows_length hs]; exact hn)) (by simp)
  obtain ⟨b, off, rfl⟩ : ∃ b off, ad = ⟨b, off, none⟩ := by
    obtain ⟨b, off, spot⟩ := ad
    have hq := World.cell?_spot hc
    have : spot = none := by simpa [Addr.add] using hq
    exact ⟨b, off, by rw [this]⟩
  refine ⟨b, off, rfl, hb, fun W hW j hj => ?_⟩
  obtain ⟨u, hu, hr⟩ := hg j hj
  obtain ⟨ad', e, _, hc'⟩ := h _ _ hr
  injection e with e
  subst e
  rw [plain_add', ← Nat.add_assoc] at hc'
  rw [hu]
  exact (hW.cell (p := ⟨b, off + i * s + j, none⟩) hb).trans hc'
end Go.Proofs.Ytlmlckgnmkjkdaa

/-
  Rows of panes: each with a row of numbers of its own.
-/
namespace Go.Proofs.Ytlmlckgnmkjkdaa
open Go.RowKit

/-- a pane: query, key, from, to, label, n, its numbers, over -/
structure Pl where
  q : Int
  k : Int
  f : Int
  t : Int
  l : Int
  n : Int
  vs : List Int
  o : Bool
/-- a pane, and its numbers' slice -/
abbrev PX := Nat → Pl × Value
abbrev pcx (x : Pl × Value) : List Value := pac x.1.q x.1.k x.1.f x.1.t x.1.l x.1.n x.2 x.1.o
abbrev pvx (x : Pl × Value) : Value := pav x.1.q x.1.k x.1.f x.1.t x.1.l x.1.n x.2 x.1.o
def prow (X : PX) (n : Nat) : List Value := rows (fun i => pcx (X i)) n
theorem pcx_len (X : PX) : ∀ i, (pcx (X i)).length = 8 := fun _ => rfl
theorem prow_length (X : PX) (n : Nat) : (prow X n).length = n * 8 := rows_length (pcx_len X)
theorem prow_congr {X Y : PX} {n : Nat} (h : ∀ i, i < n → X i = Y i) : prow X n = prow Y n := rows_congr fun i hi => by rw [h i hi]
/-- the numbers' slice reads as the numbers -/
def VRd (w : World) (x : Pl × Value) : Prop := ∃ B c, x.2 = .slice B x.1.vs.length c ∧ Rd w B (iz x.1.vs)
structure PRd (w : World) (A : Option Addr) (n : Nat) (X : PX) : Prop where
  row : Rd w A (prow X n)
  val : ∀ i, i < n → VRd w (X i)
theorem VRd.below {w w' : World} {x : Pl × Value} (h : VRd w x) (hb : Below w.heap.size w w') : VRd w' x := by
  obtain ⟨B, c, e, r⟩ := h
  exact ⟨B, c, e, r.below hb⟩
theorem PRd.below {w w' : World} {A : Option Addr} {n : Nat} {X : PX} (h : PRd w A n X) (hb : Below w.heap.size w w') : PRd w' A n X := ⟨h.row.below hb, fun i hi => (h.val i hi).below hb⟩
/-- the eight cells of pane i -/
theorem Rd.pane {w : World} {A : Option Addr} {n i : Nat} {X : PX} (h : Rd w A (prow X n)) (hi : i < n) :
    ∃ b off, A = some ⟨b, off, none⟩ ∧ b < w.heap.size ∧ ∀ W, Below w.heap.size w W →
      W.cell? ⟨b, off + i * 8, none⟩ = some (.int .i64 (X i).1.q) ∧ W.cell? ⟨b, off + i * 8 + 1, none⟩ = some (.int .i64 (X i).1.k) ∧ W.cell? ⟨b, off + i * 8 + 2, none⟩ = some (.int .i64 (X i).1.f) ∧ W.cell? ⟨b, off + i * 8 + 3, none⟩ = some (.int .i64 (X i).1.t) ∧
      W.cell? ⟨b, off + i * 8 + 4, none⟩ = some (.int .i64 (X i).1.l) ∧ W.cell? ⟨b, off + i * 8 + 5, none⟩ = some (.int .i64 (X i).1.n) ∧ W.cell? ⟨b, off + i * 8 + 6, none⟩ = some (X i).2 ∧ W.cell? ⟨b, off + i * 8 + 7, none⟩ = some (.bool (X i).1.o) := by
  obtain ⟨b, off, e, hb, hc⟩ := Rd.row h (pcx_len X) (by omega) hi
  exact ⟨b, off, e, hb, fun W hW => ⟨hc W hW 0 (by omega), hc W hW 1 (by omega), hc W hW 2 (by omega), hc W hW 3 (by omega), hc W hW 4 (by omega), hc W hW 5 (by omega), hc W hW 6 (by omega), hc W hW 7 (by omega)⟩⟩
theorem updF (X : PX) (i : Nat) (y : Pl × Value) (c : List Value) (h : c = pcx y) : updN (fun i => pcx (X i)) i c = fun k => pcx (updN X i y k) := by
  funext k
  by_cases hk : k = i
  · subst hk; rw [updN_at, updN_at, h]
  · rw [updN_ne hk, updN_ne hk]
section
variable {X : PX} {n i : Nat}
theorem prow_set0 (hi : i < n) (z : Int) : (prow X n).set (i * 8) (.int .i64 z) = prow (updN X i (⟨z, (X i).1.k, (X i).1.f, (X i).1.t, (X i).1.l, (X i).1.n, (X i).1.vs, (X i).1.o⟩, (X i).2)) n := by
  exact (rows_set (pcx_len X) hi (j := 0) (by omega) (.int .i64 z)).trans (congrArg (fun F => rows F n) (updF X i _ _ rfl))
theorem prow_set1 (hi : i < n) (z : Int) : (prow X n).set (i * 8 + 1) (.int .i64 z) = prow (updN X i (⟨(X i).1.q, z, (X i).1.f, (X i).1.t, (X i).1.l, (X i).1.n, (X i).1.vs, (X i).1.o⟩, (X i).2)) n := by
  exact (rows_set (pcx_len X) hi (j := 1) (by omega) (.int .i64 z)).trans (congrArg (fun F => rows F n) (updF X i _ _ rfl))
theorem prow_set2 (hi : i < n) (z : Int) : (prow X n).set (i * 8 + 2) (.int .i64 z) = prow (updN X i (⟨(X i).1.q, (X i).1.k, z, (X i).1.t, (X i).1.l, (X i).1.n, (X i).1.vs, (X i).1.o⟩, (X i).2)) n := by
  exact (rows_set (pcx_len X) hi (j := 2) (by omega) (.int .i64 z)).trans (congrArg (fun F => rows F n) (updF X i _ _ rfl))
theorem prow_set3 (hi : i < n) (z : Int) : (prow X n).set (i * 8 + 3) (.int .i64 z) = prow (updN X i (⟨(X i).1.q, (X i).1.k, (X i).1.f, z, (X i).1.l, (X i).1.n, (X i).1.vs, (X i).1.o⟩, (X i).2)) n := by
  exact (rows_set (pcx_len X) hi (j := 3) (by omega) (.int .i64 z)).trans (congrArg (fun F => rows F n) (updF X i _ _ rfl))
theorem prow_set4 (hi : i < n) (z : Int) : (prow X n).set (i * 8 + 4) (.int .i64 z) = prow (updN X i (⟨(X i).1.q, (X i).1.k, (X i).1.f, (X i).1.t, z, (X i).1.n, (X i).1.vs, (X i).1.o⟩, (X i).2)) n := by
  exact (rows_set (pcx_len X) hi (j := 4) (by omega) (.int .i64 z)).trans (congrArg (fun F => rows F n) (updF X i _ _ rfl))
theorem prow_set5 (hi : i < n) (z : Int) : (prow X n).set (i * 8 + 5) (.int .i64 z) = prow (updN X i (⟨(X i).1.q, (X i).1.k, (X i).1.f, (X i).1.t, (X i).1.l, z, (X i).1.vs, (X i).1.o⟩, (X i).2)) n := by
  exact (rows_set (pcx_len X) hi (j := 5) (by omega) (.int .i64 z)).trans (congrArg (fun F => rows F n) (updF X i _ _ rfl))
theorem prow_set6 (hi : i < n) (v : Value) (zs : List Int) : (prow X n).set (i * 8 + 6) v = prow (updN X i (⟨(X i).1.q, (X i).1.k, (X i).1.f, (X i).1.t, (X i).1.l, (X i).1.n, zs, (X i).1.o⟩, v)) n := by
  exact (rows_set (pcx_len X) hi (j := 6) (by omega) v).trans (congrArg (fun F => rows F n) (updF X i _ _ rfl))
theorem prow_set7 (hi : i < n) (z : Bool) : (prow X n).set (i * 8 + 7) (.bool z) = prow (updN X i (⟨(X i).1.q, (X i).1.k, (X i).1.f, (X i).1.t, (X i).1.l, (X i).1.n, (X i).1.vs, z⟩, (X i).2)) n := by
  exact (rows_set (pcx_len X) hi (j := 7) (by omega) (.bool z)).trans (congrArg (fun F => rows F n) (updF X i _ _ rfl))
theorem updN_updN {α : Type} {X : Nat → α} {i : Nat} {y z : α} : updN (updN X i y) i z = updN X i z := by
  funext k
  by_cases h : k = i
  · subst h; rw [updN_at, updN_at]
  · rw [updN_ne h, updN_ne h, updN_ne h]
/-- a pane stored whole -/
theorem prow_store (hi : i < n) (p : Pl) (v : Value) : (((((((((prow X n).set (i * 8) (.int .i64 p.q)).set (i * 8 + 1) (.int .i64 p.k)).set (i * 8 + 2) (.int .i64 p.f)).set (i * 8 + 3) (.int .i64 p.t)).set (i * 8 + 4) (.int .i64 p.l)).set (i * 8 + 5) (.int .i64 p.n)).set (i * 8 + 6) v).set (i * 8 + 7) (.bool p.o)) = prow (updN X i (p, v)) n := by
  rw [prow_set0 hi, prow_set1 hi, prow_set2 hi, prow_set3 hi, prow_set4 hi, prow_set5 hi, prow_set6 hi _ p.vs, prow_set7 hi]
  simp only [updN_updN, updN_at]
end
def pzero : Pl := ⟨0, 0, 0, 0, 0, 0, [], false⟩
theorem info_Pane : (Try.prog.info? 31).map (fun i => (i.zero, i.size, i.bytes)) = some (some (pav 0 0 0 0 0 0 (.slice none 0 0) false), 8, 80) := by kernel_rfl
theorem made_zeros_Pane (n : Nat) : madeCells (pav 0 0 0 0 0 0 (.slice none 0 0) false).cells (n * 8) = (prow (fun _ => (pzero, .slice none 0 0)) n).toArray := by
  apply Array.ext
  · simp [madeCells, prow_length]
  · intro i h1 h2
    have hl : i < (prow (fun _ => (pzero, .slice none 0 0)) n).length := by simpa using h2
    have hd : i = i / 8 * 8 + i % 8 := by omega
    have hr := rows_at (pcx_len (fun _ => (pzero, Value.slice none 0 0))) (n := n) (i := i / 8) (j := i % 8) (by rw [prow_length] at hl; omega) (by omega)
    rw [← hd] at hr
    have hr' : (prow (fun _ => (pzero, .slice none 0 0)) n)[i]? = (pac 0 0 0 0 0 0 (.slice none 0 0) false)[i % 8]? := hr
    rw [List.getElem?_eq_getElem hl] at hr'
    have h : i % 8 = 0 ∨ i % 8 = 1 ∨ i % 8 = 2 ∨ i % 8 = 3 ∨ i % 8 = 4 ∨ i % 8 = 5 ∨ i % 8 = 6 ∨ i % 8 = 7 := by omega
    simp only [List.getElem_toArray]
    rcases h with h | h | h | h | h | h | h | h <;> (rw [h] at hr'; simp at hr'; rw [hr']; simp [madeCells, Value.cells, h])
theorem make_Pane (n : Nat) (hn : n ≤ 1048576) (W : World) : (Instr.makeSlice 24 (.int .i64 (n : Int)) (.int .i64 (n : Int))).run Try.prog W = .ok (.slice (some ⟨W.heap.size, 0, none⟩) n n) (W.alloc (.cells (prow (fun _ => (pzero, .slice none 0 0)) n).toArray 31)) := by
  obtain ⟨i0, hi, hz0, hz1, hz2⟩ := info_parts info_Pane
  have h := run_make (P := Try.prog) W 24 31 i0 (pav 0 0 0 0 0 0 (.slice none 0 0) false) Try.underlying24 hi hz0 .i64 .i64 n n (by omega) (by omega) (by rw [hz2]; omega) (by omega)
  rw [hz1, Int.toNat_natCast, made_zeros_Pane] at h
  exact h
/-- where the numbers lie: nil, or in a block of their own -/
def VAt (lo hi : Nat) (w : World) (x : Pl × Value) : Prop := RowAt lo hi w 3 1 x.2 x.1.vs.length (iz x.1.vs)
/-- A row of panes of one's own, with numbers of their own. -/
structure PAt (lo hi : Nat) (w : World) (v : Value) (n : Nat) (X : PX) : Prop where
  row : RowAt lo hi w 31 8 v n (prow X n)
  val : ∀ i, i < n → VAt lo hi w (X i)
  sep : ∀ i j, i < n → j < n → i ≠ j → (X i).2.ownBlock = none ∨ (X i).2.ownBlock ≠ (X j).2.ownBlock
theorem VAt.rd {lo hi : Nat} {w : World} {x : Pl × Value} (h : VAt lo hi w x) : VRd w x := RowAt.rd h
/-- .. and its room is as it must be -/
theorem VAt.fit {lo hi : Nat} {w : World} {x : Pl × Value} (h : VAt lo hi w x) : ∃ B c, x.2 = .slice B x.1.vs.length c ∧ Rd w B (iz x.1.vs) ∧ SFit B x.1.vs.length c := by
  obtain ⟨B, c, e, r⟩ := RowAt.rd h
  refine ⟨B, c, e, r, ?_⟩
  have := h.1
  rw [e] at this
  exact owns_fit this
theorem RowAt.base' {lo lo' hi hi' s n : Nat} {w : World} {t : TypeId} {v : Value} {cs : List Value} (h : RowAt lo hi w t s v n cs) (hl : lo' ≤ lo) (hh : hi ≤ hi') : RowAt lo' hi' w t s v n cs :=
  ⟨owns_base h.1 hl, fun k hk => Nat.lt_of_lt_of_le (h.2 k hk) hh⟩
section
variable {lo hi : Nat} {w w' : World} {v : Value} {n : Nat} {X : PX}
theorem PAt.rd (h : PAt lo hi w v n X) : ∃ A c, v = .slice A n c ∧ PRd w A n X := by
  obtain ⟨A, c, e, r⟩ := h.row.rd
  exact ⟨A, c, e, r, fun i hi => (h.val i hi).rd⟩
theorem PAt.grow (h : PAt lo hi w v n X) (hb : Below w.heap.size w w') : PAt lo hi w' v n X := ⟨h.row.grow hb, fun i hi => RowAt.grow (h.val i hi) hb, h.sep⟩
theorem PAt.move (h : PAt lo hi w v n X) (hb : Same lo hi w w') : PAt lo hi w' v n X := ⟨h.row.move hb, fun i hi => RowAt.move (h.val i hi) hb, h.sep⟩
theorem PAt.wide {lo' hi' : Nat} (h : PAt lo hi w v n X) (hl : lo' ≤ lo) (hh : hi ≤ hi') : PAt lo' hi' w v n X := ⟨h.row.base' hl hh, fun i hi => RowAt.base' (h.val i hi) hl hh, h.sep⟩
end
end Go.Proofs.Ytlmlckgnmkjkdaa

/-
  Rows of panes in memory: what a store, and a change of one pane's numbers, leave; marks.
-/
namespace Go.Proofs.Ytlmlckgnmkjkdaa
open Go.RowKit

theorem owns_types {w : World} {b1 e1 s1 g n1 c1 b2 e2 s2 n2 : Nat} {cs1 cs2 : List Value} {u : Value} (h1 : w.ownsRow b1 e1 s1 (.slice (some ⟨g, 0, none⟩) n1 c1) n1 cs1) (h2 : w.ownsRow b2 e2 s2 u n2 cs2) (hne : e1 ≠ e2) : u.ownBlock ≠ some g := by
  rcases h1.2 with ⟨h, _⟩ | ⟨g', cap, cur, hv, _, hb, _⟩
  · cases h
  · injection hv with hv
    injection hv with hv
    injection hv with hv
    subst hv
    rcases h2.2 with ⟨rfl, _⟩ | ⟨g2, cap2, cur2, rfl, _, hb2, _⟩
    · simp [Value.ownBlock]
    · intro e
      simp [Value.ownBlock] at e
      subst e
      rw [hb] at hb2
      simp at hb2
      exact hne hb2.2
theorem row_some {lo hi s n : Nat} {w : World} {t : TypeId} {v : Value} {cs : List Value} (h : RowAt lo hi w t s v n cs) (hn : n ≠ 0) : ∃ g, v.ownBlock = some g ∧ lo ≤ g ∧ g < hi := by
  rcases h.1.2 with ⟨_, e⟩ | ⟨g, _, _, e, hg, _⟩
  · exact absurd e hn
  · exact ⟨g, by rw [e]; rfl, hg, h.2 g (by rw [e]; rfl)⟩
theorem RowAt.far {lo hi s n : Nat} {w w' : World} {t : TypeId} {v : Value} {cs : List Value} {r : Option Nat} (h : RowAt lo hi w t s v n cs) (hg : w.grownBy w' r) (hne : v.ownBlock = none ∨ v.ownBlock ≠ r) : RowAt lo hi w' t s v n cs :=
  ⟨h.1.kept hg hne, h.2⟩
section
variable {lo hi : Nat} {w w' : World} {v : Value} {n : Nat} {X Y : PX}
theorem PAt.congr (h : PAt lo hi w v n X) (he : ∀ i, i < n → X i = Y i) : PAt lo hi w v n Y := by
  refine ⟨by rw [← prow_congr he]; exact h.row, fun i hin => by rw [← he i hin]; exact h.val i hin, fun i j h1 h2 h3 => ?_⟩
  rw [← he i h1, ← he j h2]
  exact h.sep i j h1 h2 h3
theorem PAt.put {g c q : Nat} {u : Value} (h : PAt lo hi w (.slice (some ⟨g, 0, none⟩) n c) n X) (hs : (prow X n).set q u = prow Y n) (hv : ∀ k, k < n → (Y k).2 = (X k).2 ∧ (Y k).1.vs = (X k).1.vs) :
    PAt lo hi (w.setCell ⟨g, q, none⟩ u) (.slice (some ⟨g, 0, none⟩) n c) n Y ∧ w.grownBy (w.setCell ⟨g, q, none⟩ u) (some g) := by
  obtain ⟨s1, s2⟩ := h.row.1.stored q u
  rw [hs] at s1
  refine ⟨⟨⟨s1, h.row.2⟩, fun i hin => ?_, fun i j h1 h2 h3 => ?_⟩, s2⟩
  · obtain ⟨e1, e2⟩ := hv i hin
    unfold VAt
    rw [e1, e2]
    exact RowAt.far (h.val i hin) s2 (.inr (owns_types h.row.1 (h.val i hin).1 (by decide)))
  · rw [(hv i h1).1, (hv j h2).1]
    exact h.sep i j h1 h2 h3
theorem PAt.inner {i : Nat} {zs : List Int} (h : PAt lo hi w v n X) (hi' : i < n) (hl : zs.length = (X i).1.vs.length) (hr : RowAt lo hi w' 3 1 (X i).2 (X i).1.vs.length (iz zs)) (hg : w.grownBy w' (X i).2.ownBlock) :
    PAt lo hi w' v n (updN X i (⟨(X i).1.q, (X i).1.k, (X i).1.f, (X i).1.t, (X i).1.l, (X i).1.n, zs, (X i).1.o⟩, (X i).2)) := by
  have hpe : prow (updN X i (⟨(X i).1.q, (X i).1.k, (X i).1.f, (X i).1.t, (X i).1.l, (X i).1.n, zs, (X i).1.o⟩, (X i).2)) n = prow X n := rows_congr fun k _ => by
    by_cases hk : k = i
    · subst hk; rw [updN_at]
    · rw [updN_ne hk]
  have hsnd : ∀ k, (updN X i (⟨(X i).1.q, (X i).1.k, (X i).1.f, (X i).1.t, (X i).1.l, (X i).1.n, zs, (X i).1.o⟩, (X i).2) k).2 = (X k).2 := fun k => by
    by_cases hk : k = i
    · subst hk; rw [updN_at]
    · rw [updN_ne hk]
  refine ⟨?_, fun k hk => ?_, fun a b h1 h2 h3 => by rw [hsnd, hsnd]; exact h.sep a b h1 h2 h3⟩
  · rw [hpe]
    refine h.row.far hg ?_
    rcases h.row.1.2 with ⟨rfl, _⟩ | ⟨g, cap, cur, rfl, _, _, _⟩
    · exact .inl rfl
    · refine .inr fun e => ?_
      exact owns_types h.row.1 (h.val i hi').1 (by decide) e.symm
  · by_cases hk' : k = i
    · subst hk'
      unfold VAt
      rw [updN_at]
      simp only
      rw [hl]
      exact hr
    · unfold VAt
      rw [updN_ne hk']
      exact RowAt.far (h.val k hk) hg (h.sep k i hk hi' hk')
theorem PAt.only {g c : Nat} (h : PAt lo hi w (.slice (some ⟨g, 0, none⟩) n c) n X) (hg : w.grownBy w' (some g)) : Only lo hi w w' := Only.of_row h.row hg
end
/-! ### marks -/
/-- the lengths up to i -/
def ltot (L : Nat → Nat) : Nat → Nat
  | 0 => 0
  | i + 1 => ltot L i + L i
def moff (L : Nat → Nat) (i : Nat) : Nat := i * 7 + ltot L i
theorem moff_zero (L : Nat → Nat) : moff L 0 = 0 := rfl
theorem moff_succ (L : Nat → Nat) (i : Nat) : moff L (i + 1) = moff L i + 7 + L i := by simp [moff, ltot]; omega
theorem ltot_mono (L : Nat → Nat) {i j : Nat} (h : i ≤ j) : ltot L i ≤ ltot L j := by
  induction j with
  | zero => obtain rfl : i = 0 := by omega
            exact Nat.le_refl _
  | succ j ih =>
    by_cases c : i ≤ j
    · have := ih c
      simp only [ltot]; omega
    · obtain rfl : i = j + 1 := by omega
      exact Nat.le_refl _
/-- a marked pane -/
def mkP (k : Int) (m : Nat) : Pl := ⟨k, k + 1, k + 1 + 1, k + 1 + 1 + 1, k + 1 + 1 + 1 + 1, k + 1 + 1 + 1 + 1 + 1, marks (k + 1 + 1 + 1 + 1 + 1 + 1) m, (k + 1 + 1 + 1 + 1 + 1 + 1 + m) % 3 == 0⟩
/-- lengths of the panes' numbers -/
abbrev lens (X : PX) : Nat → Nat := fun i => (X i).1.vs.length
end Go.Proofs.Ytlmlckgnmkjkdaa

/-
  What the laws' own helpers on rows of panes return: equality, copies, sizes.
-/
namespace Go.Proofs.Ytlmlckgnmkjkdaa
open Go.RowKit

set_option maxHeartbeats 1000000 in
theorem eqPaneS_same (A B : Option Addr) (n ca cb : Nat) (X Y : PX) (w : World) (hA : PRd w A n X) (hB : PRd w B n Y) (he : ∀ i, i < n → (X i).1 = (Y i).1) (hm : ∀ i, i < n → (X i).1.vs.length ≤ 1048576) (hn : n ≤ 1048576) :
    Calls Try.prog 42 #[.slice A n ca, .slice B n cb] w fun e w' => e = .returned (.bool true) ∧ Below w.heap.size w w' := by
  have hne : ((n : Int) != (n : Int)) = false := by simp
  have HA := Lib.hid hA
  have HB := Lib.hid hB
  have HE := Lib.hid he
  have HM := Lib.hid hm
  clear hA hB he hm
  go_enter Try.func42, Try.ntmps42
  go_wp2
  go_loopw [5] (fun i wr => ∃ k : Nat, k ≤ n ∧ i = .int .i64 k ∧ Below w.heap.size w wr) (fun i _ => n - (intOf i).toNat)
  case atStart => exact ⟨0, Nat.zero_le _, rfl, Below.refl _ _⟩
  case round =>
    obtain ⟨k, hk, rfl, hbel⟩ := hrel
    by_cases hlt : k < n
    · obtain ⟨ab, ao, rfl, hab, h1⟩ := HA.out.row.pane hlt
      obtain ⟨bb, bo, rfl, hbb, h2⟩ := HB.out.row.pane hlt
      have F1 := fun u : Bel wr => h1 u.w (below_trans hbel u.ok)
      have F2 := fun u : Bel wr => h2 u.w (below_trans hbel u.ok)
      have hval := HA.out.val k hlt
      have hval2 := HB.out.val k hlt
      have hee := HE.out k hlt
      have hmm := HM.out k hlt
      clear h1 h2
      rw [← hee] at F2
      unfold VRd at hval hval2
      rw [← hee] at hval2
      clear hee
      revert F1 F2 hval hval2 hmm
      generalize X k = x
      generalize Y k = y
      obtain ⟨⟨q, kk, f, t, l, nn, vs, o⟩, v⟩ := x
      obtain ⟨-, v'⟩ := y
      intro F1 F2 hval hval2 hmm
      simp only at F1 F2 hval hval2 hmm
      obtain ⟨V, cv, rfl, hV⟩ := hval
      obtain ⟨V', cv', rfl, hV'⟩ := hval2
      have HC := Lib.hid (fun u : Bel wr => eqPane_same q kk f t l nn o V V' vs.length cv cv' vs u.w (hV.below (below_trans hbel u.ok)) (hV'.below (below_trans hbel u.ok)) rfl hmm)
      have a0 := fun u => (F1 u).1
      have a1 := fun u => (F1 u).2.1
      have a2 := fun u => (F1 u).2.2.1
      have a3 := fun u => (F1 u).2.2.2.1
      have a4 := fun u => (F1 u).2.2.2.2.1
      have a5 := fun u => (F1 u).2.2.2.2.2.1
      have a6 := fun u => (F1 u).2.2.2.2.2.2.1
      have a7 := fun u => (F1 u).2.2.2.2.2.2.2
      have b0 := fun u => (F2 u).1
      have b1 := fun u => (F2 u).2.1
      have b2 := fun u => (F2 u).2.2.1
      have b3 := fun u => (F2 u).2.2.2.1
      have b4 := fun u => (F2 u).2.2.2.2.1
      have b5 := fun u => (F2 u).2.2.2.2.2.1
      have b6 := fun u => (F2 u).2.2.2.2.2.2.1
      have b7 := fun u => (F2 u).2.2.2.2.2.2.2
      clear F1 F2 hV hV' hmm
      go_wp2
      refine wp_region_bel (by kernel_rfl) (by kernel_rfl) ?_
      repeat (go_big_quiet_step ((go_at_call 28; exact bel_of _ (HC.out _))))
      refine wpQuiet_nil ?_
      rintro _ ⟨u, rfl⟩
      clear a0 a1 a2 a3 a4 a5 a6 a7 b0 b1 b2 b3 b4 b5 b6 b7
      go_wp2
      go_roundw
      case rel => exact ⟨k + 1, by omega, by go_num, below_trans hbel u.ok⟩
      case measure => simp [intOf]; omega
    · go_wp2
      go_ret
      exact ⟨rfl, hbel⟩

theorem rowAt_of_own {w : World} {g n : Nat} {X : PX} {lo : Nat} (h : Own w g 31 (prow X n)) (hl : lo ≤ g) (hn : n ≤ 1048576) : RowAt lo w.heap.size w 31 8 (.slice (some ⟨g, 0, none⟩) n n) n (prow X n) :=
  RowAt.of (h.ownsS hl (prow_length X n) hn)
/-- a fresh row of panes while it is filled -/
structure Fill (lo g : Nat) (w : World) (k n : Nat) (X Y : PX) : Prop where
  own : Own w g 31 (prow Y n)
  lt : lo ≤ g
  same : ∀ i, i < k → (Y i).1 = (X i).1
  val : ∀ i, i < k → VAt lo w.heap.size w (Y i)
  zero : ∀ i, k ≤ i → i < n → Y i = (pzero, .slice none 0 0)
  sep : ∀ i j, i < k → j < k → i ≠ j → (Y i).2.ownBlock = none ∨ (Y i).2.ownBlock ≠ (Y j).2.ownBlock
theorem Fill.done {lo g : Nat} {w : World} {n : Nat} {X Y : PX} (h : Fill lo g w n n X Y) (hn : n ≤ 1048576) : PAt lo w.heap.size w (.slice (some ⟨g, 0, none⟩) n n) n Y :=
  ⟨rowAt_of_own h.own h.lt hn, h.val, fun i j h1 h2 h3 => h.sep i j h1 h2 h3⟩
theorem Fill.start (w : World) (n : Nat) (X : PX) : Fill w.heap.size w.heap.size (w.alloc (.cells (prow (fun _ => (pzero, .slice none 0 0)) n).toArray 31)) 0 n X (fun _ => (pzero, .slice none 0 0)) :=
  ⟨Own.new _ _ _, Nat.le_refl _, fun i h => by omega, fun i h => by omega, fun i _ _ => rfl, fun i j h => by omega⟩
/-- one more pane: its numbers lie in a block that has been made since -/
theorem Fill.next {lo g k n : Nat} {w w1 : World} {X Y : PX} {p : Pl} {v : Value} (h : Fill lo g w k n X Y) (hk : k < n) (hb : Below w.heap.size w w1) (hp : p = (X k).1) (hv : VAt w.heap.size w1.heap.size w1 (p, v)) (hlo : lo ≤ w.heap.size) :
    Fill lo g ((((((((w1.setCell ⟨g, k * 8, none⟩ (.int .i64 p.q)).setCell ⟨g, k * 8 + 1, none⟩ (.int .i64 p.k)).setCell ⟨g, k * 8 + 2, none⟩ (.int .i64 p.f)).setCell ⟨g, k * 8 + 3, none⟩ (.int .i64 p.t)).setCell ⟨g, k * 8 + 4, none⟩ (.int .i64 p.l)).setCell ⟨g, k * 8 + 5, none⟩ (.int .i64 p.n)).setCell ⟨g, k * 8 + 6, none⟩ v).setCell ⟨g, k * 8 + 7, none⟩ (.bool p.o)) (k + 1) n X (updN Y k (p, v)) := by
  have ho1 := h.own.grow hb
  have s2 := (((((((ho1.set (k * 8) (.int .i64 p.q)).set (k * 8 + 1) (.int .i64 p.k)).set (k * 8 + 2) (.int .i64 p.f)).set (k * 8 + 3) (.int .i64 p.t)).set (k * 8 + 4) (.int .i64 p.l)).set (k * 8 + 5) (.int .i64 p.n)).set (k * 8 + 6) v).set (k * 8 + 7) (.bool p.o)
  rw [prow_store hk] at s2
  have hg : w1.grownBy ((((((((w1.setCell ⟨g, k * 8, none⟩ (.int .i64 p.q)).setCell ⟨g, k * 8 + 1, none⟩ (.int .i64 p.k)).setCell ⟨g, k * 8 + 2, none⟩ (.int .i64 p.f)).setCell ⟨g, k * 8 + 3, none⟩ (.int .i64 p.t)).setCell ⟨g, k * 8 + 4, none⟩ (.int .i64 p.l)).setCell ⟨g, k * 8 + 5, none⟩ (.int .i64 p.n)).setCell ⟨g, k * 8 + 6, none⟩ v).setCell ⟨g, k * 8 + 7, none⟩ (.bool p.o)) (some g) :=
    only_set (only_set (only_set (only_set (only_set (only_set (only_set (only_set (World.grownBy.refl _ _))))))))
  have htop : w1.heap.size ≤ ((((((((w1.setCell ⟨g, k * 8, none⟩ (.int .i64 p.q)).setCell ⟨g, k * 8 + 1, none⟩ (.int .i64 p.k)).setCell ⟨g, k * 8 + 2, none⟩ (.int .i64 p.f)).setCell ⟨g, k * 8 + 3, none⟩ (.int .i64 p.t)).setCell ⟨g, k * 8 + 4, none⟩ (.int .i64 p.l)).setCell ⟨g, k * 8 + 5, none⟩ (.int .i64 p.n)).setCell ⟨g, k * 8 + 6, none⟩ v).setCell ⟨g, k * 8 + 7, none⟩ (.bool p.o)).heap.size := hg.size
  generalize ((((((((w1.setCell ⟨g, k * 8, none⟩ (.int .i64 p.q)).setCell ⟨g, k * 8 + 1, none⟩ (.int .i64 p.k)).setCell ⟨g, k * 8 + 2, none⟩ (.int .i64 p.f)).setCell ⟨g, k * 8 + 3, none⟩ (.int .i64 p.t)).setCell ⟨g, k * 8 + 4, none⟩ (.int .i64 p.l)).setCell ⟨g, k * 8 + 5, none⟩ (.int .i64 p.n)).setCell ⟨g, k * 8 + 6, none⟩ v).setCell ⟨g, k * 8 + 7, none⟩ (.bool p.o)) = w2 at *
  -- a row of numbers does not lie in the block of panes
  have hfar : ∀ (B : Nat) (u : Value) (m : Nat) (cs : List Value), w1.ownsRow B 3 1 u m cs → u.ownBlock ≠ some g := fun B u m cs hu => types_farS ho1 (by decide) hu
  refine ⟨s2, h.lt, fun i hi => ?_, fun i hi => ?_, fun i h1 h2 => ?_, fun i j h1 h2 h3 => ?_⟩
  · by_cases c : i = k
    · subst c; rw [updN_at]; exact hp
    · rw [updN_ne c]; exact h.same i (by omega)
  · by_cases c : i = k
    · subst c
      unfold VAt
      rw [updN_at]
      exact (RowAt.base' hv hlo htop).far hg (.inr (hfar _ _ _ _ hv.1))
    · unfold VAt
      rw [updN_ne c]
      have hx := RowAt.grow (h.val i (by omega)) hb
      exact (hx.base' (Nat.le_refl _) (Nat.le_trans hb.size htop)).far hg (.inr (hfar _ _ _ _ hx.1))
  · rw [updN_ne (by omega)]; exact h.zero i (by omega) h2
  · have hold : ∀ i, i < k → (Y i).2.ownBlock = none ∨ (Y i).2.ownBlock ≠ v.ownBlock := fun i hi => by
      rcases hq : (Y i).2.ownBlock with _ | q
      · exact .inl rfl
      · refine .inr fun e => ?_
        have h1 := (h.val i hi).2 q hq
        have h2 := (hv.1.lt q e.symm).1
        omega
    by_cases c1 : i = k
    · subst c1
      rw [updN_at, updN_ne (Ne.symm h3)]
      by_cases hq : v.ownBlock = none
      · exact .inl hq
      · refine .inr fun e => ?_
        rcases hold j (by omega) with e2 | e2
        · exact hq (e.trans e2)
        · exact e2 e.symm
    · by_cases c2 : j = k
      · subst c2
        rw [updN_at, updN_ne c1]
        exact hold i (by omega)
      · rw [updN_ne c1, updN_ne c2]; exact h.sep i j (by omega) (by omega) h3

set_option maxHeartbeats 4000000 in
theorem toPaneS_w (A : Option Addr) (n ca : Nat) (X : PX) (w : World) (hA : PRd w A n X) (hm : ∀ i, i < n → (X i).1.vs.length ≤ 1048576) (hn : n ≤ 1048576) :
    Calls Try.prog 41 #[.slice A n ca] w fun e w' => ∃ g Y, e = .returned (.slice (some ⟨g, 0, none⟩) n n) ∧ PAt w.heap.size w'.heap.size w' (.slice (some ⟨g, 0, none⟩) n n) n Y ∧ (∀ i, i < n → (Y i).1 = (X i).1) ∧ Below w.heap.size w w' := by
  have hmk := make_Pane n hn
  have HA := Lib.hid hA
  have HM := Lib.hid hm
  clear hA hm
  go_enter Try.func41, Try.ntmps41
  go_wp2
  clear hmk
  go_loopw [4] (fun i wr => ∃ (k : Nat) (Y : PX), k ≤ n ∧ i = .int .i64 k ∧ Hid (Fill w.heap.size w.heap.size wr k n X Y) ∧ w.heap.size < wr.heap.size ∧ Below w.heap.size w wr) (fun i _ => n - (intOf i).toNat)
  case atStart => exact ⟨0, _, Nat.zero_le _, rfl, Lib.hid (Fill.start w n X), by simp, below_alloc _ _⟩
  case round =>
    obtain ⟨k, Y, hk, rfl, HF, hsz, hbel⟩ := hrel
    by_cases hlt : k < n
    · obtain ⟨b, off, rfl, hb, hc⟩ := HA.out.row.pane hlt
      have hval := HA.out.val k hlt
      have hmm := HM.out k hlt
      have F := hc wr hbel
      clear hc
      unfold VRd at hval
      obtain ⟨x, hx⟩ : ∃ x, x = X k := ⟨_, rfl⟩
      rw [← hx] at hval hmm F
      have HX := Lib.hid hx
      clear hx
      obtain ⟨⟨q, kk, f, t, l, nn, vs, o⟩, v⟩ := x
      simp only at hval hmm F
      obtain ⟨V, cv, rfl, hV⟩ := hval
      obtain ⟨a0, a1, a2, a3, a4, a5, a6, a7⟩ := F
      have HV := Lib.hid (hV.below hbel)
      clear hV
      go_wp2_with fail
      clear a0 a1 a2 a3 a4 a5 a6 a7
      refine (toPane_w q kk f t l nn o V vs.length cv vs _ HV.out rfl hmm).mono ?_
      rintro e w1 ⟨g, rfl, r, hb1⟩
      have HN := Lib.hid (HF.out.next (p := ⟨q, kk, f, t, l, nn, vs, o⟩) (v := .slice (some ⟨g, 0, none⟩) vs.length vs.length) hlt hb1 (by rw [← HX.out]) r (by omega))
      have ho := HF.out.own.grow hb1
      have hcells : ∀ j, j < 8 → w1.cell? ⟨w.heap.size, k * 8 + j, none⟩ = (pcx (Y k))[j]? := fun j hj => by rw [ho.cell]; exact rows_at (pcx_len Y) hlt hj
      have c0 := hcells 0 (by omega)
      have c1 := hcells 1 (by omega)
      have c2 := hcells 2 (by omega)
      have c3 := hcells 3 (by omega)
      have c4 := hcells 4 (by omega)
      have c5 := hcells 5 (by omega)
      have c6 := hcells 6 (by omega)
      have c7 := hcells 7 (by omega)
      simp only [Nat.add_zero, List.getElem?_cons_zero, List.getElem?_cons_succ] at c0 c1 c2 c3 c4 c5 c6 c7
      have f0 := ho.free (k * 8)
      have f1 := ho.free (k * 8 + 1)
      have f2 := ho.free (k * 8 + 2)
      have f3 := ho.free (k * 8 + 3)
      have f4 := ho.free (k * 8 + 4)
      have f5 := ho.free (k * 8 + 5)
      have f6 := ho.free (k * 8 + 6)
      have f7 := ho.free (k * 8 + 7)
      have hsz1 : w.heap.size < w1.heap.size := by have := hb1.size; omega
      have HB := Lib.hid (((((((((below_trans hbel hb1).setCell (p := ⟨w.heap.size, k * 8, none⟩) (Nat.le_refl _) (.int .i64 q)).setCell (p := ⟨w.heap.size, k * 8 + 1, none⟩) (Nat.le_refl _) (.int .i64 kk)).setCell (p := ⟨w.heap.size, k * 8 + 2, none⟩) (Nat.le_refl _) (.int .i64 f)).setCell (p := ⟨w.heap.size, k * 8 + 3, none⟩) (Nat.le_refl _) (.int .i64 t)).setCell (p := ⟨w.heap.size, k * 8 + 4, none⟩) (Nat.le_refl _) (.int .i64 l)).setCell (p := ⟨w.heap.size, k * 8 + 5, none⟩) (Nat.le_refl _) (.int .i64 nn)).setCell (p := ⟨w.heap.size, k * 8 + 6, none⟩) (Nat.le_refl _) (.slice (some ⟨g, 0, none⟩) vs.length vs.length)).setCell (p := ⟨w.heap.size, k * 8 + 7, none⟩) (Nat.le_refl _) (.bool o))
      clear r HF hb1 hbel hcells ho
      go_wp2
      go_roundw
      case rel => exact ⟨k + 1, _, by omega, by go_num, HN, by simpa using hsz1, HB.out⟩
      case measure => simp [intOf]; omega
    · go_wp2
      go_ret
      obtain rfl : k = n := by omega
      exact ⟨_, Y, rfl, HF.out.done hn, HF.out.same, hbel⟩
/-- what is left of the sizes -/
def lessP (left : Int) (L : Nat → Nat) (n : Nat) : Int := if left - (n : Int) - (ltot L n : Int) < 0 then -1 else left - (n : Int) - (ltot L n : Int)

set_option maxHeartbeats 1000000 in
theorem szPaneS_any (A : Option Addr) (n ca : Nat) (X : PX) (left : Int) (w : World) (hA : PRd w A n X) (hm : ∀ i, i < n → (X i).1.vs.length ≤ 9223372036854775807) (h0 : 0 ≤ left) (h1 : left ≤ 1048576) (hn : n ≤ 9223372036854775807) :
    Calls Try.prog 40 #[.slice A n ca, .int .i64 left] w fun e w' => e = .returned (.int .i64 (lessP left (lens X) n)) ∧ Below w.heap.size w w' := by
  have HA := Lib.hid hA
  have HM := Lib.hid hm
  clear hA hm
  by_cases h : left - (n : Int) < 0
  · have HR := Lib.hid (show (-1 : Int) = lessP left (lens X) n from by unfold lessP; rw [if_pos (by omega)])
    go_enter Try.func40, Try.ntmps40
    go_wp2
    go_ret
    exact ⟨ret_int HR.out, Below.refl _ _⟩
  · go_enter Try.func40, Try.ntmps40
    go_wp2
    go_loopw [1, 5] (fun q i wr => ∃ k : Nat, k ≤ n ∧ i = .int .i64 k ∧ (∃ z : Int, q = .int .i64 z ∧ 0 ≤ z ∧ z ≤ 1048576 ∧ Hid (z = left - (n : Int) - (ltot (lens X) k : Int))) ∧ Below w.heap.size w wr) (fun _ i _ => n - (intOf i).toNat)
    case atStart => exact ⟨0, Nat.zero_le _, rfl, ⟨_, rfl, by omega, by omega, Lib.hid (by simp [ltot])⟩, Below.refl _ _⟩
    case round =>
      obtain ⟨k, hk, rfl, ⟨z, rfl, hz0, hz1, HZ⟩, hbel⟩ := hrel
      by_cases hlt : k < n
      · obtain ⟨b, off, rfl, hb, hc⟩ := HA.out.row.pane hlt
        have hval := HA.out.val k hlt
        have hmm := HM.out k hlt
        have F := hc wr hbel
        have hlen : lens X k = (X k).1.vs.length := rfl
        have HT := Lib.hid (show z - ((X k).1.vs.length : Int) = left - (n : Int) - (ltot (lens X) (k + 1) : Int) from by rw [HZ.out]; simp only [ltot]; rw [hlen]; omega)
        have HT2 := Lib.hid (ltot_mono (lens X) (show k + 1 ≤ n by omega))
        clear hc hlen HZ
        unfold VRd at hval
        revert F hval hmm HT
        generalize X k = x
        obtain ⟨⟨q, kk, f, t, l, nn, vs, o⟩, v⟩ := x
        intro hval hmm F HT
        simp only at hval hmm F HT
        obtain ⟨V, cv, rfl, hV⟩ := hval
        obtain ⟨a0, a1, a2, a3, a4, a5, a6, a7⟩ := F
        clear hV
        go_wp2_with fail
        clear a0 a1 a2 a3 a4 a5 a6 a7
        refine (szPane_any q kk f t l nn o V vs.length cv z _ hz0 hz1 hmm).mono ?_
        rintro e w1 ⟨rfl, hb1⟩
        have hbel1 := below_trans hbel hb1
        clear hb1 hbel
        by_cases hneg : z - (vs.length : Int) < 0
        · have e1 : lessF z vs.length = -1 := by simp [lessF, hneg]
          rw [e1]
          have HR := Lib.hid (show (-1 : Int) = lessP left (lens X) n from by
            unfold lessP; rw [if_pos ?_]
            have h1 := HT.out
            have h2 := HT2.out
            omega)
          clear e1 HT HT2 hneg
          go_wp2
          go_ret
          exact ⟨ret_int HR.out, hbel1⟩
        · have e1 : lessF z vs.length = z - vs.length := by simp [lessF]; omega
          rw [e1]
          obtain ⟨z2, hz2⟩ : ∃ z2, z - (vs.length : Int) = z2 := ⟨_, rfl⟩
          rw [hz2] at HT ⊢
          have hz20 : 0 ≤ z2 ∧ z2 ≤ 1048576 := by omega
          clear e1 hneg hz2 HT2
          go_wp2
          go_roundw
          case rel => exact ⟨k + 1, by omega, by go_num, ⟨z2, rfl, hz20.1, hz20.2, HT⟩, hbel1⟩
          case measure => simp [intOf]; omega
      · obtain rfl : k = n := by omega
        go_wp2
        go_ret
        exact ⟨ret_int (by unfold lessP; rw [if_neg (by rw [← HZ.out]; omega)]; exact HZ.out), hbel⟩
end Go.Proofs.Ytlmlckgnmkjkdaa

/-
  s[:p] and s[p:] of a row of structs of the call's own: what they are, and how they read.
-/
namespace Go.Proofs.Ytlmlckgnmkjkdaa
open Go.RowKit

section
variable {P : Program} {t e : TypeId} {s : Nat} {w : World} {base n c p : Nat} {A : Option Addr} {F : Nat → List Value}
theorem rows_head (hu : P.underlying t = some (.slice (P.elem t))) (hsz : ∀ W, (sizeOf (P.elem t)).run P W = .ok s W) (hs : ∀ i, (F i).length = s) (h : w.ownsRow base e s (.slice A n c) n (rows F n)) (hp : p ≤ n) :
    ∃ A' c', (∀ W, (Instr.slice t (.slice A n c) none (some (.int .i64 (p : Int))) none).run P W = .ok (.slice A' p c') W) ∧ (∀ W, Below w.heap.size w W → Rd W A' (rows F p)) ∧ SFit A' p c' := by
  have hR := RowAt.reads (RowAt.of h)
  have hf := owns_fit h
  have hr : ∀ W, (Instr.slice t (.slice A n c) none (some (.int .i64 (p : Int))) none).run P W = .ok (sliced A 0 p c s) W := fun W => by
    rw [run_slice_h (P := P) (t := t) (ht := hu) (h0 := by omega) (h2 := by have := hf.1; omega), hsz]; rfl
  refine ⟨A, c, fun W => ?_, fun W hb k u hk => (hR.below hb) k u ?_, by have := hf.1; omega, hf.2⟩
  · rw [hr]
    rcases h.2 with ⟨h1, _⟩ | ⟨g, cap, cur, h1, _⟩
    · cases h1; simp [sliced]
    · cases h1; simp [sliced, plain_add']
  · rw [← rows_take hs hp, List.getElem?_take] at hk
    split at hk
    · exact hk
    · simp at hk
theorem rows_tail (hu : P.underlying t = some (.slice (P.elem t))) (hsz : ∀ W, (sizeOf (P.elem t)).run P W = .ok s W) (hs : ∀ i, (F i).length = s) (h : w.ownsRow base e s (.slice A n c) n (rows F n)) (hp : p ≤ n) :
    ∃ A' c', (∀ W, (Instr.slice t (.slice A n c) (some (.int .i64 (p : Int))) none none).run P W = .ok (.slice A' (n - p) c') W) ∧ (∀ W, Below w.heap.size w W → Rd W A' (rows (fun i => F (p + i)) (n - p))) ∧ SFit A' (n - p) c' := by
  have hR := RowAt.reads (RowAt.of h)
  have hf := owns_fit h
  have hr : ∀ W, (Instr.slice t (.slice A n c) (some (.int .i64 (p : Int))) none none).run P W = .ok (sliced A p n c s) W := fun W => by
    rw [run_slice_l (P := P) (t := t) (ht := hu) (h0 := by omega) (h1 := by omega), hsz]; rfl
  have hdrop : ∀ {k : Nat} {u : Value}, (rows (fun i => F (p + i)) (n - p))[k]? = some u → (rows F n)[p * s + k]? = some u := fun {k u} hk => by
    rw [← rows_drop hs hp, List.getElem?_drop] at hk
    exact hk
  rcases h.2 with ⟨h1, h0⟩ | ⟨g, cap, cur, h1, _⟩
  · cases h1
    obtain rfl : p = 0 := by omega
    refine ⟨none, 0, fun W => ?_, (fun W hb k u hk => by
      obtain ⟨ad, e, _⟩ := (hR.below hb) _ u (hdrop hk)
      cases e), by omega, fun _ => rfl⟩
    rw [hr]
    simp [sliced]
  · cases h1
    by_cases hc : c = p
    · have hn : n = p := by have := hf.1; omega
      refine ⟨some ⟨g, 0, none⟩, 0, fun W => ?_, fun W hb k u hk => ?_, by omega, fun h => by cases h⟩
      · rw [hr]; subst hc; simp [sliced]
      · rw [show n - p = 0 by omega, rows_zero] at hk
        simp at hk
    · refine ⟨some ⟨g, p * s, none⟩, c - p, fun W => ?_, fun W hb k u hk => ?_, by have := hf.1; omega, fun h => by cases h⟩
      · rw [hr]; simp [sliced, hc, plain_add']
      · obtain ⟨ad, e, hlt, hc'⟩ := (hR.below hb) _ u (hdrop hk)
        cases e
        refine ⟨_, rfl, hlt, ?_⟩
        rw [plain_add'] at hc' ⊢
        rwa [Nat.zero_add] at hc'
end
end Go.Proofs.Ytlmlckgnmkjkdaa

/-
  The program's copyPane, and how its sort looks at a row of panes: Len, Less, Swap.
-/
namespace Go.Proofs.Ytlmlckgnmkjkdaa
open Go.RowKit

set_option maxHeartbeats 1000000 in
theorem cloneIntZ_any (A : Option Addr) (n c : Nat) (ts : List Int) (w : World) (hR : Rd w A (iz ts)) (hz : ts.length = n) (hn : n ≤ 1048576) (hf : SFit A n c) :
    Calls Try.prog 92 #[.slice A n c] w fun e w' => ∃ A' c', e = .returned (.slice A' n c') ∧ w'.ownsRow w.heap.size 3 1 (.slice A' n c') n (iz ts) ∧ Below w.heap.size w w' := by
  have q : ∀ (w : World) (a : Option Addr) (n c n' c' : Nat), (binOp .eql 29 (.slice a n c) (.slice none n' c')).run Try.prog w = .ok (.bool a.isNone) w := fun w a n c n' c' => Lib.run_eql_slice_nil w _ _ a n c n' c' Try.underlying29
  cases A with
  | none =>
    have hc : c = 0 := hf.2 rfl
    obtain rfl : n = 0 := by have := hf.1; omega
    subst hc
    obtain rfl : ts = [] := List.eq_nil_of_length_eq_zero hz
    clear hR hf
    go_enter Try.func92, Try.ntmps92
    go_wp2
    go_ret
    exact ⟨none, 0, rfl, ⟨rfl, .inl ⟨rfl, rfl⟩⟩, Below.refl _ _⟩
  | some ad => exact cloneInt_any ad n c ts w hR hz hn hf

set_option maxHeartbeats 4000000 in
theorem copyPane_any (q k f t l n : Int) (o : Bool) (A : Option Addr) (m c : Nat) (zs : List Int) (w : World) (hA : Rd w A (iz zs)) (hz : zs.length = m) (hm : m ≤ 1048576) (hf : SFit A m c) :
    Calls Try.prog 48 #[pav q k f t l n (.slice A m c) o] w fun e w' => ∃ B d, e = .returned (pav q k f t l n (.slice B m d) o) ∧ RowAt w.heap.size w'.heap.size w' 3 1 (.slice B m d) m (iz zs) ∧ Below w.heap.size w w' := by
  obtain ⟨o1, o2, hb0⟩ := boxes_two (w := w) (cs := pac q k f t l n (.slice A m c) o) (ds := pac 0 0 0 0 0 0 (.slice none 0 0) false) (t := 31) (s := 31)
  have HSZ := Lib.hid (show ((w.alloc (.cells (pac q k f t l n (.slice A m c) o).toArray 31)).alloc (.cells (pac 0 0 0 0 0 0 (.slice none 0 0) false).toArray 31)).heap.size = w.heap.size + 2 by simp)
  have HA := Lib.hid (hA.below hb0)
  clear hA
  obtain ⟨a0, a1, a2, a3, a4, a5, a6, a7⟩ := o1.eight
  go_enter Try.func48, Try.ntmps48
  go_wp2_with fail
  clear a0 a1 a2 a3 a4 a5 a6 a7
  refine (cloneIntZ_any A m c zs _ HA.out hz hm hf).mono ?_
  rintro e w1 ⟨B, d, rfl, hrow, hb⟩
  have r := (RowAt.of hrow).base (lo' := w.heap.size + 2) (by have := HSZ.out; omega)
  replace o1 := o1.grow hb
  replace o2 := o2.grow hb
  replace hb0 := below_trans hb0 hb
  clear hb hrow
  obtain ⟨a0, a1, a2, a3, a4, a5, a6, a7⟩ := o1.eight
  obtain ⟨b0, b1, b2, b3, b4, b5, b6, b7⟩ := o2.eight
  have f6 := o1.free 6
  have fb0 := o2.free 0
  have fb1 := o2.free 1
  have fb2 := o2.free 2
  have fb3 := o2.free 3
  have fb4 := o2.free 4
  have fb5 := o2.free 5
  have fb6 := o2.free 6
  have fb7 := o2.free 7
  have HR := Lib.hid (And.intro r hb0)
  clear o1 o2 r hb0
  go_wp2
  refine bodyPost_ret (v := pav q k f t l n (.slice B m d) o) (by simp [results, Try.results48, go_sem, b0, b1, b2, b3, b4, b5, b6, b7]) rfl ⟨B, d, rfl, ?_, ?_⟩
  · simp only [size_set]
    exact RowAt.base (((((((((HR.out.1.set ⟨w.heap.size, 6, none⟩ (.slice B m d) (show w.heap.size < w.heap.size + 2 by omega)).set ⟨w.heap.size + 1, 0, none⟩ (.int .i64 q) (show w.heap.size + 1 < w.heap.size + 2 by omega)).set ⟨w.heap.size + 1, 1, none⟩ (.int .i64 k) (show w.heap.size + 1 < w.heap.size + 2 by omega)).set ⟨w.heap.size + 1, 2, none⟩ (.int .i64 f) (show w.heap.size + 1 < w.heap.size + 2 by omega)).set ⟨w.heap.size + 1, 3, none⟩ (.int .i64 t) (show w.heap.size + 1 < w.heap.size + 2 by omega)).set ⟨w.heap.size + 1, 4, none⟩ (.int .i64 l) (show w.heap.size + 1 < w.heap.size + 2 by omega)).set ⟨w.heap.size + 1, 5, none⟩ (.int .i64 n) (show w.heap.size + 1 < w.heap.size + 2 by omega)).set ⟨w.heap.size + 1, 6, none⟩ (.slice B m d) (show w.heap.size + 1 < w.heap.size + 2 by omega)).set ⟨w.heap.size + 1, 7, none⟩ (.bool o) (show w.heap.size + 1 < w.heap.size + 2 by omega)) (by omega)
  · exact (((((((((HR.out.2.setCell (p := ⟨w.heap.size, 6, none⟩) (show w.heap.size ≤ w.heap.size by omega) (.slice B m d)).setCell (p := ⟨w.heap.size + 1, 0, none⟩) (show w.heap.size ≤ w.heap.size + 1 by omega) (.int .i64 q)).setCell (p := ⟨w.heap.size + 1, 1, none⟩) (show w.heap.size ≤ w.heap.size + 1 by omega) (.int .i64 k)).setCell (p := ⟨w.heap.size + 1, 2, none⟩) (show w.heap.size ≤ w.heap.size + 1 by omega) (.int .i64 f)).setCell (p := ⟨w.heap.size + 1, 3, none⟩) (show w.heap.size ≤ w.heap.size + 1 by omega) (.int .i64 t)).setCell (p := ⟨w.heap.size + 1, 4, none⟩) (show w.heap.size ≤ w.heap.size + 1 by omega) (.int .i64 l)).setCell (p := ⟨w.heap.size + 1, 5, none⟩) (show w.heap.size ≤ w.heap.size + 1 by omega) (.int .i64 n)).setCell (p := ⟨w.heap.size + 1, 6, none⟩) (show w.heap.size ≤ w.heap.size + 1 by omega) (.slice B m d)).setCell (p := ⟨w.heap.size + 1, 7, none⟩) (show w.heap.size ≤ w.heap.size + 1 by omega) (.bool o))
/-! ### the row that is sorted -/
/-- the row of panes at block g, as the sort holds it -/
abbrev prv (g n : Nat) : Value := .agg #[.slice (some ⟨g, 0, none⟩) n n, .func (.func 15) #[] #[]]
/-- Y: the pane of each rank; E: the rank at each place; all else is as it was in w0 -/
structure PST (w0 : World) (g n : Nat) (Y : PX) (E : Nat → Nat) (w : World) : Prop where
  own : Own w g 31 (prow (fun i => Y (E i)) n)
  grown : w0.grownBy w (some g)
def ple (a b : Pl) : Prop := plt a.q a.k a.f a.t b.q b.k b.f b.t
theorem PST.grow {w0 w w' : World} {g n : Nat} {Y : PX} {E : Nat → Nat} (h : PST w0 g n Y E w) (hb : Below w.heap.size w w') : PST w0 g n Y E w' := ⟨h.own.grow hb, grownBy_trans h.grown (grownBy_of hb _)⟩
/-- the eight cells of the pane at a place -/
theorem Own.pane {w : World} {g n i : Nat} {X : PX} {t : TypeId} (h : Own w g t (prow X n)) (hi : i < n) :
      w.cell? ⟨g, i * 8, none⟩ = some (.int .i64 (X i).1.q) ∧ w.cell? ⟨g, i * 8 + 1, none⟩ = some (.int .i64 (X i).1.k) ∧ w.cell? ⟨g, i * 8 + 2, none⟩ = some (.int .i64 (X i).1.f) ∧ w.cell? ⟨g, i * 8 + 3, none⟩ = some (.int .i64 (X i).1.t) ∧
      w.cell? ⟨g, i * 8 + 4, none⟩ = some (.int .i64 (X i).1.l) ∧ w.cell? ⟨g, i * 8 + 5, none⟩ = some (.int .i64 (X i).1.n) ∧ w.cell? ⟨g, i * 8 + 6, none⟩ = some (X i).2 ∧ w.cell? ⟨g, i * 8 + 7, none⟩ = some (.bool (X i).1.o) := by
  have hc : ∀ j, j < 8 → w.cell? ⟨g, i * 8 + j, none⟩ = (pcx (X i))[j]? := fun j hj => (h.cell _).trans (rows_at (pcx_len X) hi hj)
  exact ⟨hc 0 (by omega), hc 1 (by omega), hc 2 (by omega), hc 3 (by omega), hc 4 (by omega), hc 5 (by omega), hc 6 (by omega), hc 7 (by omega)⟩
set_option maxHeartbeats 1000000 in
theorem paneLen_any {w0 : World} {g n : Nat} {Y : PX} (E : Nat → Nat) (w : World) (h : PST w0 g n Y E w) :
    Calls Try.prog 165 #[prv g n] w fun e w' => e = .returned (.int .i64 (n : Int)) ∧ PST w0 g n Y E w' := by
  have o1 := Own.new w 91 [.slice (some ⟨g, 0, none⟩) n n, .func (.func 15) #[] #[]]
  have H := Lib.hid (h.grow (below_alloc w (.cells [.slice (some ⟨g, 0, none⟩) n n, .func (.func 15) #[] #[]].toArray 91)))
  obtain ⟨a0, a1⟩ := o1.two
  clear o1 h
  go_enter Try.func165, Try.ntmps165
  go_wp2
  go_ret
  exact ⟨rfl, H.out⟩
set_option maxHeartbeats 2000000 in
theorem paneLess_any {w0 : World} {g n : Nat} {Y : PX} (E : Nat → Nat) (w : World) (i j : Nat) (h : PST w0 g n Y E w) (hi : i < n) (hj : j < n) :
    Calls Try.prog 166 #[prv g n, .int .i64 (i : Int), .int .i64 (j : Int)] w fun e w' => e = .returned (.bool (tf (ple (Y (E i)).1 (Y (E j)).1))) ∧ PST w0 g n Y E w' := by
  have o1 := Own.new w 91 [.slice (some ⟨g, 0, none⟩) n n, .func (.func 15) #[] #[]]
  have hb0 := below_alloc w (.cells [.slice (some ⟨g, 0, none⟩) n n, .func (.func 15) #[] #[]].toArray 91)
  have H := Lib.hid h
  have O1 := fun u : Bel (w.alloc (.cells [.slice (some ⟨g, 0, none⟩) n n, .func (.func 15) #[] #[]].toArray 91)) => (o1.grow u.ok).two
  have F1 := fun u : Bel (w.alloc (.cells [.slice (some ⟨g, 0, none⟩) n n, .func (.func 15) #[] #[]].toArray 91)) => (h.own.grow (below_trans hb0 u.ok)).pane hi
  have F2 := fun u : Bel (w.alloc (.cells [.slice (some ⟨g, 0, none⟩) n n, .func (.func 15) #[] #[]].toArray 91)) => (h.own.grow (below_trans hb0 u.ok)).pane hj
  unfold ple
  clear o1 h
  revert F1 F2
  generalize Y (E i) = x
  generalize Y (E j) = y
  obtain ⟨⟨q, k, f, t, l, m, vs, o⟩, v⟩ := x
  obtain ⟨⟨q', k', f', t', l', m', vs', o'⟩, v'⟩ := y
  intro F1 F2
  simp only at F1 F2 ⊢
  have a0 := fun u => (F1 u).1
  have a1 := fun u => (F1 u).2.1
  have a2 := fun u => (F1 u).2.2.1
  have a3 := fun u => (F1 u).2.2.2.1
  have a4 := fun u => (F1 u).2.2.2.2.1
  have a5 := fun u => (F1 u).2.2.2.2.2.1
  have a6 := fun u => (F1 u).2.2.2.2.2.2.1
  have a7 := fun u => (F1 u).2.2.2.2.2.2.2
  have b0 := fun u => (F2 u).1
  have b1 := fun u => (F2 u).2.1
  have b2 := fun u => (F2 u).2.2.1
  have b3 := fun u => (F2 u).2.2.2.1
  have b4 := fun u => (F2 u).2.2.2.2.1
  have b5 := fun u => (F2 u).2.2.2.2.2.1
  have b6 := fun u => (F2 u).2.2.2.2.2.2.1
  have b7 := fun u => (F2 u).2.2.2.2.2.2.2
  have o0 := fun u => (O1 u).1
  have o1 := fun u => (O1 u).2
  have HC := Lib.hid (fun W => implPaneLess_any q k f t l m v o q' k' f' t' l' m' v' o' W)
  clear F1 F2 O1
  go_enter Try.func166, Try.ntmps166
  go_wp2
  refine wp_region_bel (by kernel_rfl) (by kernel_rfl) ?_
  repeat (go_big_quiet_step ((go_at_call 15; exact bel_of _ (HC.out _))))
  refine wpQuiet_nil ?_
  rintro _ ⟨u, rfl⟩
  clear a0 a1 a2 a3 a4 a5 a6 a7 b0 b1 b2 b3 b4 b5 b6 b7 o0 o1
  go_wp2
  go_ret
  exact ⟨rfl, H.out.grow (below_trans hb0 u.ok)⟩

end Go.Proofs.Ytlmlckgnmkjkdaa

/-
  The program's Swap on a row of panes.
-/
namespace Go.Proofs.Ytlmlckgnmkjkdaa
open Go.RowKit

/-- a pane stored whole at o -/
abbrev store8 (w : World) (g o : Nat) (p : Pl) (v : Value) : World :=
  (((((((w.setCell ⟨g, o, none⟩ (.int .i64 p.q)).setCell ⟨g, o + 1, none⟩ (.int .i64 p.k)).setCell ⟨g, o + 2, none⟩ (.int .i64 p.f)).setCell ⟨g, o + 3, none⟩ (.int .i64 p.t)).setCell ⟨g, o + 4, none⟩ (.int .i64 p.l)).setCell ⟨g, o + 5, none⟩ (.int .i64 p.n)).setCell ⟨g, o + 6, none⟩ v).setCell ⟨g, o + 7, none⟩ (.bool p.o)
theorem Own.store8 {w : World} {g n i : Nat} {t : TypeId} {X : PX} (h : Own w g t (prow X n)) (hi : i < n) (p : Pl) (v : Value) : Own (store8 w g (i * 8) p v) g t (prow (updN X i (p, v)) n) := by
  have s1 := (((((((h.set (i * 8) (.int .i64 p.q)).set (i * 8 + 1) (.int .i64 p.k)).set (i * 8 + 2) (.int .i64 p.f)).set (i * 8 + 3) (.int .i64 p.t)).set (i * 8 + 4) (.int .i64 p.l)).set (i * 8 + 5) (.int .i64 p.n)).set (i * 8 + 6) v).set (i * 8 + 7) (.bool p.o)
  rw [prow_store hi] at s1
  exact s1
theorem grown_store8 {w : World} {g o : Nat} {p : Pl} {v : Value} : w.grownBy (store8 w g o p v) (some g) :=
  only_set (only_set (only_set (only_set (only_set (only_set (only_set (only_set (World.grownBy.refl _ _))))))))
theorem pst_drew {w0 w : World} {g n : Nat} {Y : PX} {E : Nat → Nat} (h : PST w0 g n Y E w) : PST w0 g n Y E w.drew := h.grow ((Below.refl w.heap.size w).drew)
theorem pst_swap {w0 w1 : World} {g n i j : Nat} {Y : PX} {E : Nat → Nat} {x y : Pl × Value} {u v : Value} (h : PST w0 g n Y E w1) (hi : i < n) (hj : j < n) (hij : ¬ i = j) (hx : x = Y (E i)) (hu : x.2 = u) (hy : y = Y (E j)) (hv : y.2 = v) :
    PST w0 g n Y (swp E i j) (store8 (store8 w1 g (i * 8) y.1 v) g (j * 8) x.1 u).drew := by
  have s2 := (h.own.store8 hi y.1 v).store8 hj x.1 u
  have hpe : prow (updN (updN (fun k => Y (E k)) i (y.1, v)) j (x.1, u)) n = prow (fun k => Y (swp E i j k)) n := prow_congr fun k _ => by
    unfold swp
    by_cases hk : k = j
    · subst hk
      rw [updN_at, if_neg (fun e => hij e.symm), if_pos rfl, ← hu, ← hx]
    · rw [updN_ne hk]
      by_cases hk2 : k = i
      · subst hk2
        rw [updN_at, if_pos rfl, ← hv, ← hy]
      · rw [updN_ne hk2, if_neg hk2, if_neg hk]
  rw [hpe] at s2
  exact pst_drew ⟨s2, grownBy_trans h.grown (grownBy_trans grown_store8 grown_store8)⟩

set_option maxRecDepth 100000 in
set_option maxHeartbeats 4000000 in
theorem paneSwap_any {w0 : World} {g n : Nat} {Y : PX} (E : Nat → Nat) (w : World) (i j : Nat) (h : PST w0 g n Y E w) (hi : i < n) (hj : j < n) (hne : ¬ i = j) (hsl : ∀ k, ∃ B m c, (Y k).2 = .slice B m c) :
    Calls Try.prog 167 #[prv g n, .int .i64 (i : Int), .int .i64 (j : Int)] w fun e w' => e = .returned (.tuple #[]) ∧ PST w0 g n Y (swp E i j) w' := by
  have o1 := Own.new w 91 [.slice (some ⟨g, 0, none⟩) n n, .func (.func 15) #[] #[]]
  have hb0 := below_alloc w (.cells [.slice (some ⟨g, 0, none⟩) n n, .func (.func 15) #[] #[]].toArray 91)
  have H := Lib.hid (h.grow hb0)
  obtain ⟨a0, a1, a2, a3, a4, a5, a6, a7⟩ := H.out.own.pane hi
  obtain ⟨b0, b1, b2, b3, b4, b5, b6, b7⟩ := H.out.own.pane hj
  obtain ⟨c0, c1⟩ := o1.two
  have f0 := H.out.own.free
  have hgl : g < w.heap.size := h.own.lt
  clear o1 h
  go_enter Try.func167, Try.ntmps167
  go_upto_region 1 with (fail)
  have hww : Hid (w.heap.size = w.heap.size) := Lib.hid rfl
  clear hb0
  revert H a0 a1 a2 a3 a4 a5 a6 a7 b0 b1 b2 b3 b4 b5 b6 b7 c0 c1 f0
  generalize w.alloc (Obj.cells #[Value.slice (some { block := g, off := 0 }) n n, Value.func (Fn.func 15) #[] #[]] 91) = w1
  intro H a0 a1 a2 a3 a4 a5 a6 a7 b0 b1 b2 b3 b4 b5 b6 b7 c0 c1 f0
  have e0 := f0 (i * 8)
  have e1 := f0 (i * 8 + 1)
  have e2 := f0 (i * 8 + 2)
  have e3 := f0 (i * 8 + 3)
  have e4 := f0 (i * 8 + 4)
  have e5 := f0 (i * 8 + 5)
  have e6 := f0 (i * 8 + 6)
  have e7 := f0 (i * 8 + 7)
  have d0 := f0 (j * 8)
  have d1 := f0 (j * 8 + 1)
  have d2 := f0 (j * 8 + 2)
  have d3 := f0 (j * 8 + 3)
  have d4 := f0 (j * 8 + 4)
  have d5 := f0 (j * 8 + 5)
  have d6 := f0 (j * 8 + 6)
  have d7 := f0 (j * 8 + 7)
  have hij : ¬ (i = j) := hne
  have hij2 : ¬ (j = i) := fun h => hne h.symm
  have hgne : ¬ (w.heap.size = g) := by omega
  have hgne2 : ¬ (g = w.heap.size) := by omega
  clear f0
  obtain ⟨Bi, mi, ci, hvi⟩ := hsl (E i)
  obtain ⟨Bj, mj, cj, hvj⟩ := hsl (E j)
  rw [hvi] at a6
  rw [hvj] at b6
  obtain ⟨x, hx⟩ : ∃ x, x = Y (E i) := ⟨_, rfl⟩
  obtain ⟨y, hy⟩ : ∃ y, y = Y (E j) := ⟨_, rfl⟩
  rw [← hx] at a0 a1 a2 a3 a4 a5 a7
  rw [← hy] at b0 b1 b2 b3 b4 b5 b7
  rw [← hx] at hvi
  rw [← hy] at hvj
  have HX := Lib.hid (And.intro (And.intro hx hvi) (And.intro hy hvj))
  clear hx hy hvi hvj hsl
  have HS := Lib.hid (pst_swap H.out hi hj hij HX.out.1.1 HX.out.1.2 HX.out.2.1 HX.out.2.2)
  clear H
  go_region
  go_wp2
  go_end0
  exact ⟨rfl, HS.out⟩
/-- the row as data to sort -/
theorem sortData {w0 : World} {g n : Nat} {Y : PX} (hn : n ≤ 1048576) (hsl : ∀ k, ∃ B m c, (Y k).2 = .slice B m c) (hup : ∀ x y, x < y → y < n → ¬ ple (Y y).1 (Y x).1) :
    SortData (prv g n) n (fun x y => ple (Y x).1 (Y y).1) (PST w0 g n Y) where
  small := by omega
  less E w i j h hi hj := paneLess_any E w i j h hi hj
  swap E w i j h hi hj hne := paneSwap_any E w i j h hi hj hne hsl
  len E w h := paneLen_any E w h
  up := hup
  mLess k w := by kernel_rfl
  mSwap k w := by kernel_rfl
  mLen k w := by kernel_rfl
end Go.Proofs.Ytlmlckgnmkjkdaa

/-
  The program's PanesSort.
-/
namespace Go.Proofs.Ytlmlckgnmkjkdaa
open Go.RowKit

/-- the numbers' slice reads as the numbers, and has its room -/
def VFit (w : World) (x : Pl × Value) : Prop := ∃ B c, x.2 = .slice B x.1.vs.length c ∧ Rd w B (iz x.1.vs) ∧ SFit B x.1.vs.length c
theorem VFit.below {w w' : World} {x : Pl × Value} (h : VFit w x) (hb : Below w.heap.size w w') : VFit w' x := by
  obtain ⟨B, c, e, r, f⟩ := h
  exact ⟨B, c, e, r.below hb, f⟩
/-- how two places of a list of panes compare -/
def plo (X : PX) : Nat → Nat → Prop := fun i j => ple (X i).1 (X j).1
theorem plo_swo (X : PX) : Swo (plo X) where
  asymm a b h := by unfold plo ple plt at *; omega
  ntrans a b c h1 h2 := by unfold plo ple plt at *; omega
theorem PST.zero {w0 : World} {g n : Nat} {Z Y : PX} {E : Nat → Nat} (h : Own w0 g 31 (prow Z n)) (he : ∀ i, i < n → Y (E i) = Z i) : PST w0 g n Y E w0 :=
  ⟨by rw [prow_congr he]; exact h, World.grownBy.refl _ _⟩

set_option maxRecDepth 100000 in
set_option maxHeartbeats 4000000 in
theorem panesSort_any (A : Option Addr) (n ca : Nat) (X : PX) (s : List Nat) (w : World) (hA : Rd w A (prow X n)) (hV : ∀ i, i < n → VFit w (X i)) (hm : ∀ i, i < n → (X i).1.vs.length ≤ 1048576) (hn : n ≤ 1048576) (hs : Stab (plo X) n s) :
    Calls Try.prog 12 #[.slice A n ca] w fun e w' => ∃ g Y, e = .returned (.slice (some ⟨g, 0, none⟩) n n) ∧ PAt w.heap.size w'.heap.size w' (.slice (some ⟨g, 0, none⟩) n n) n Y ∧ (∀ i, i < n → (Y i).1 = (X (s.getD i 0)).1) ∧ Below w.heap.size w w' := by
  have hmk := make_Pane n hn
  have HA := Lib.hid hA
  have HV := Lib.hid hV
  have HM := Lib.hid hm
  have HS := Lib.hid hs
  clear hA hm hV hs
  go_enter Try.func12, Try.ntmps12
  go_wp2
  clear hmk
  go_loopw [11] (fun i wr => ∃ (k : Nat) (Y : PX), k ≤ n ∧ i = .int .i64 k ∧ Hid (Fill w.heap.size w.heap.size wr k n X Y) ∧ w.heap.size < wr.heap.size ∧ Below w.heap.size w wr) (fun i _ => n - (intOf i).toNat)
  case atStart => exact ⟨0, _, Nat.zero_le _, rfl, Lib.hid (Fill.start w n X), by simp, below_alloc _ _⟩
  case round =>
    obtain ⟨k, Y, hk, rfl, HF, hsz, hbel⟩ := hrel
    by_cases hlt : k < n
    · obtain ⟨b, off, rfl, hb, hc⟩ := HA.out.pane hlt
      have hval := HV.out k hlt
      have hmm := HM.out k hlt
      have F := hc wr hbel
      clear hc
      unfold VFit at hval
      obtain ⟨x, hx⟩ : ∃ x, x = X k := ⟨_, rfl⟩
      rw [← hx] at hval hmm F
      have HX := Lib.hid hx
      clear hx
      obtain ⟨⟨q, kk, f, t, l, nn, vs, o⟩, v⟩ := x
      simp only at hval hmm F
      obtain ⟨V, cv, rfl, hV, hfit⟩ := hval
      obtain ⟨a0, a1, a2, a3, a4, a5, a6, a7⟩ := F
      have hbx := below_alloc wr (.cells (pac 0 0 0 0 0 0 (.slice none 0 0) false).toArray 31)
      have HV2 := Lib.hid (hV.below hbel)
      have HFI := Lib.hid hfit
      clear hV hfit
      go_wp2_with fail
      clear a0 a1 a2 a3 a4 a5 a6 a7
      refine (copyPane_any q kk f t l nn o V vs.length cv vs _ (HV2.out.below (below_alloc _ _)) rfl hmm HFI.out).mono ?_
      rintro e w1 ⟨B, d, rfl, r, hb1⟩
      have hb2 := below_trans (below_alloc wr _) hb1
      have HN := Lib.hid (HF.out.next (p := ⟨q, kk, f, t, l, nn, vs, o⟩) (v := .slice B vs.length d) hlt hb2 (by rw [← HX.out]) (RowAt.base' r (by simp) (Nat.le_refl _)) (by omega))
      have ho := HF.out.own.grow hb2
      have hcells : ∀ j, j < 8 → w1.cell? ⟨w.heap.size, k * 8 + j, none⟩ = (pcx (Y k))[j]? := fun j hj => by rw [ho.cell]; exact rows_at (pcx_len Y) hlt hj
      have c0 := hcells 0 (by omega)
      have c1 := hcells 1 (by omega)
      have c2 := hcells 2 (by omega)
      have c3 := hcells 3 (by omega)
      have c4 := hcells 4 (by omega)
      have c5 := hcells 5 (by omega)
      have c6 := hcells 6 (by omega)
      have c7 := hcells 7 (by omega)
      simp only [Nat.add_zero, List.getElem?_cons_zero, List.getElem?_cons_succ] at c0 c1 c2 c3 c4 c5 c6 c7
      have f0 := ho.free (k * 8)
      have f1 := ho.free (k * 8 + 1)
      have f2 := ho.free (k * 8 + 2)
      have f3 := ho.free (k * 8 + 3)
      have f4 := ho.free (k * 8 + 4)
      have f5 := ho.free (k * 8 + 5)
      have f6 := ho.free (k * 8 + 6)
      have f7 := ho.free (k * 8 + 7)
      have hsz1 : w.heap.size < w1.heap.size := by have := hb2.size; omega
      have HB := Lib.hid (((((((((below_trans hbel hb2).setCell (p := ⟨w.heap.size, k * 8, none⟩) (Nat.le_refl _) (.int .i64 q)).setCell (p := ⟨w.heap.size, k * 8 + 1, none⟩) (Nat.le_refl _) (.int .i64 kk)).setCell (p := ⟨w.heap.size, k * 8 + 2, none⟩) (Nat.le_refl _) (.int .i64 f)).setCell (p := ⟨w.heap.size, k * 8 + 3, none⟩) (Nat.le_refl _) (.int .i64 t)).setCell (p := ⟨w.heap.size, k * 8 + 4, none⟩) (Nat.le_refl _) (.int .i64 l)).setCell (p := ⟨w.heap.size, k * 8 + 5, none⟩) (Nat.le_refl _) (.int .i64 nn)).setCell (p := ⟨w.heap.size, k * 8 + 6, none⟩) (Nat.le_refl _) (.slice B vs.length d)).setCell (p := ⟨w.heap.size, k * 8 + 7, none⟩) (Nat.le_refl _) (.bool o))
      clear r HF hb1 hb2 hbx hbel hcells ho
      go_wp2
      go_roundw
      case rel => exact ⟨k + 1, _, by omega, by go_num, HN, by simpa using hsz1, HB.out⟩
      case measure => simp [intOf]; omega
    · obtain rfl : k = n := by omega
      obtain ⟨Y2, hY2⟩ : ∃ Y2 : PX, Y2 = fun r => if r < k then Y (s.getD r 0) else (pzero, .slice none 0 0) := ⟨_, rfl⟩
      have HY2 := Lib.hid hY2
      have HP := Lib.hid (PST.zero (Y := Y2) (E := rankOf s) HF.out.own fun i hi => by
        obtain ⟨h1, h2⟩ := HS.out.rank hi
        rw [HY2.out]
        simp only
        rw [if_pos h1, h2])
      have hq : ∀ i, i < k → (Y i).1 = (X i).1 := fun i hi => HF.out.same i hi
      have HD := Lib.hid (sortData (w0 := wr) (g := w.heap.size) (Y := Y2) hn (fun r => by
        rw [HY2.out]
        simp only
        by_cases c : r < k
        · rw [if_pos c]
          obtain ⟨B, cc, e, _⟩ := RowAt.rd (HF.out.val _ (HS.out.lt_at c))
          exact ⟨B, _, cc, e⟩
        · rw [if_neg c]; exact ⟨none, 0, 0, rfl⟩) (fun x y hxy hy => by
        rw [HY2.out]
        simp only
        rw [if_pos hy, if_pos (show x < k by omega), hq _ (HS.out.lt_at hy), hq _ (HS.out.lt_at (show x < k by omega))]
        exact HS.out.up x y hxy hy))
      have HI := Lib.hid (show Inv (fun x y => ple (Y2 x).1 (Y2 y).1) k (rankOf s) from by
        obtain ⟨i1, i2⟩ := HS.out.inv
        refine ⟨i1, fun i j hij hj => ⟨(i2 i j hij hj).1, fun hlt2 => ?_⟩⟩
        have h3 := (i2 i j hij hj).2 hlt2
        have r1 := HS.out.rank (i := i) (by omega)
        have r2 := HS.out.rank hj
        rw [HY2.out]
        simp only
        rw [if_pos r1.1, if_pos r2.1, hq _ (HS.out.lt_at r1.1), hq _ (HS.out.lt_at r2.1)]
        exact h3)
      clear hY2 hq
      go_wp2_with fail
      refine (sortStable_any HD.out (rankOf s) _ HP.out HI.out).mono ?_
      rintro e w2 ⟨rfl, F, hp, hi, hu⟩
      have HE := Lib.hid (show PST wr w.heap.size k Y2 id w2 from ⟨by
        have := hp.own
        rw [prow_congr (Y := fun i => Y2 (id i)) (fun i hik => by show Y2 (F i) = Y2 i; rw [up_id hu hi.1 hik])] at this
        exact this, hp.grown⟩)
      clear hp hi hu HP HD HI
      go_wp2
      go_ret
      refine ⟨w.heap.size, Y2, rfl, ⟨?_, fun i hi => ?_, fun i j h1 h2 h3 => ?_⟩, fun i hi => ?_, ?_⟩
      · exact rowAt_of_own HE.out.own (Nat.le_refl _) hn
      · unfold VAt
        rw [HY2.out]
        simp only
        rw [if_pos hi]
        have hv := HF.out.val _ (HS.out.lt_at hi)
        exact (RowAt.far hv HE.out.grown (.inr (types_farS HF.out.own (by decide) hv.1))).base' (Nat.le_refl _) HE.out.grown.size
      · rw [HY2.out]
        simp only
        rw [if_pos h1, if_pos h2]
        exact HF.out.sep _ _ (HS.out.lt_at h1) (HS.out.lt_at h2) (HS.out.inj h1 h2 h3)
      · rw [HY2.out]
        simp only
        rw [if_pos hi]
        exact HF.out.same _ (HS.out.lt_at hi)
      · exact hbel.grown HE.out.grown hbel.size (fun j hj => by injection hj with hj; omega)
end Go.Proofs.Ytlmlckgnmkjkdaa

/-
  The model's PanesSort.
-/
namespace Go.Proofs.Ytlmlckgnmkjkdaa
open Go.RowKit

theorem appPane : AppT Try.prog 24 31 (pav 0 0 0 0 0 0 (.slice none 0 0) false) 8 80 := by
  obtain ⟨i0, hi, hz0, hz1, hz2⟩ := info_parts info_Pane
  exact ⟨Try.underlying24, ⟨i0, hi, hz0, hz1, hz2⟩, rfl, by decide, by decide⟩
theorem under_Pane : Try.prog.underlying 24 = some (.slice (Try.prog.elem 24)) := by
  rw [show Try.prog.elem 24 = 31 by kernel_rfl]; exact Try.underlying24
theorem size_Pane : ∀ W, (sizeOf (Try.prog.elem 24)).run Try.prog W = .ok 8 W := fun W => by
  rw [show Try.prog.elem 24 = 31 by kernel_rfl]; kernel_rfl
theorem prow_one (X : PX) (n : Nat) (hX : ∀ k, k < n → ∃ B m c, (X k).2 = .slice B m c) : ∀ u ∈ prow X n, u.oneCell' = true := by
  intro u hu
  simp only [prow, rows, List.mem_flatMap, List.mem_range] at hu
  obtain ⟨i, hi, hu⟩ := hu
  obtain ⟨B, m, c, e⟩ := hX i hi
  simp at hu
  rcases hu with rfl | rfl | rfl | rfl | rfl | rfl | rfl | rfl
  all_goals first | rfl | (rw [e]; rfl)

set_option maxHeartbeats 4000000 in
theorem l08Copy_any (q k f t l n : Int) (o : Bool) (A : Option Addr) (m c : Nat) (zs : List Int) (w : World) (hA : Rd w A (iz zs)) (hz : zs.length = m) (hm : m ≤ 1048576) (hf : SFit A m c) :
    Calls Try.prog 51 #[pav q k f t l n (.slice A m c) o] w fun e w' => ∃ B d, e = .returned (pav q k f t l n (.slice B m d) o) ∧ RowAt w.heap.size w'.heap.size w' 3 1 (.slice B m d) m (iz zs) ∧ Below w.heap.size w w' := by
  obtain ⟨o1, o2, hb0⟩ := boxes_two (w := w) (cs := pac q k f t l n (.slice A m c) o) (ds := pac 0 0 0 0 0 0 (.slice none 0 0) false) (t := 31) (s := 31)
  have HSZ := Lib.hid (show ((w.alloc (.cells (pac q k f t l n (.slice A m c) o).toArray 31)).alloc (.cells (pac 0 0 0 0 0 0 (.slice none 0 0) false).toArray 31)).heap.size = w.heap.size + 2 by simp)
  generalize hw0 : (w.alloc (.cells (pac q k f t l n (.slice A m c) o).toArray 31)).alloc (.cells (pac 0 0 0 0 0 0 (.slice none 0 0) false).toArray 31) = w0 at *
  have p1 := o1.alloc (.cells #[] 3)
  have p2 := o2.alloc (.cells #[] 3)
  have HR := Lib.hid ((hA.below hb0).below (below_alloc w0 (.cells #[] 3)))
  have HE := Lib.hid (owns_empty (size := 1) (Own.new w0 3 []) (Nat.le_refl w0.heap.size))
  have HL := Lib.hid (show (iz zs).length = m * 1 by rw [iz_length, hz, Nat.mul_one])
  have HN : Hid (0 + m ≤ 2097152) := Lib.hid (by omega)
  have HF := Lib.hid hf
  clear hA hf o1 o2
  obtain ⟨a0, a1, a2, a3, a4, a5, a6, a7⟩ := p1.eight
  go_enter Try.func51, Try.ntmps51
  go_wp2_with (at_builtin; refine appInt.rd rfl _ (.tmp 5) rfl w0.heap.size (.slice (some ⟨w0.heap.size, 0, none⟩) 0 0) 0 [] rfl HE.out A m c (iz zs) rfl HR.out HF.out HL.out (iz_one _) HN.out (by simp) ?_; intro B d w1 hown hgrow hb1; rw [Nat.zero_add, List.nil_append] at hown; rw [Nat.zero_add]; clear a0 a1 a2 a3 a4 a5 a6 a7; replace p1 := p1.below hb1 (by have := HSZ.out; omega); replace p2 := p2.below hb1 (by have := HSZ.out; omega); obtain ⟨a0, a1, a2, a3, a4, a5, a6, a7⟩ := p1.eight; obtain ⟨b0, b1, b2, b3, b4, b5, b6, b7⟩ := p2.eight; have f6 := p1.free 6; have fb0 := p2.free 0; have fb1 := p2.free 1; have fb2 := p2.free 2; have fb3 := p2.free 3; have fb4 := p2.free 4; have fb5 := p2.free 5; have fb6 := p2.free 6; have fb7 := p2.free 7)
  have hbB := below_trans hb0 ((below_alloc w0 (.cells #[] 3)).trans hb1)
  have r := (RowAt.of hown).base (lo' := w.heap.size + 2) (by have := HSZ.out; omega)
  have HR2 := Lib.hid (And.intro r hbB)
  refine bodyPost_ret (v := pav q k f t l n (.slice B m d) o) (by simp [results, Try.results51, go_sem, b0, b1, b2, b3, b4, b5, b6, b7]) rfl ⟨B, d, rfl, ?_, ?_⟩
  · simp only [size_set]
    exact RowAt.base (((((((((HR2.out.1.set ⟨w.heap.size, 6, none⟩ (.slice B m d) (show w.heap.size < w.heap.size + 2 by omega)).set ⟨w.heap.size + 1, 0, none⟩ (.int .i64 q) (show w.heap.size + 1 < w.heap.size + 2 by omega)).set ⟨w.heap.size + 1, 1, none⟩ (.int .i64 k) (show w.heap.size + 1 < w.heap.size + 2 by omega)).set ⟨w.heap.size + 1, 2, none⟩ (.int .i64 f) (show w.heap.size + 1 < w.heap.size + 2 by omega)).set ⟨w.heap.size + 1, 3, none⟩ (.int .i64 t) (show w.heap.size + 1 < w.heap.size + 2 by omega)).set ⟨w.heap.size + 1, 4, none⟩ (.int .i64 l) (show w.heap.size + 1 < w.heap.size + 2 by omega)).set ⟨w.heap.size + 1, 5, none⟩ (.int .i64 n) (show w.heap.size + 1 < w.heap.size + 2 by omega)).set ⟨w.heap.size + 1, 6, none⟩ (.slice B m d) (show w.heap.size + 1 < w.heap.size + 2 by omega)).set ⟨w.heap.size + 1, 7, none⟩ (.bool o) (show w.heap.size + 1 < w.heap.size + 2 by omega)) (by omega)
  · exact (((((((((HR2.out.2.setCell (p := ⟨w.heap.size, 6, none⟩) (show w.heap.size ≤ w.heap.size by omega) (.slice B m d)).setCell (p := ⟨w.heap.size + 1, 0, none⟩) (show w.heap.size ≤ w.heap.size + 1 by omega) (.int .i64 q)).setCell (p := ⟨w.heap.size + 1, 1, none⟩) (show w.heap.size ≤ w.heap.size + 1 by omega) (.int .i64 k)).setCell (p := ⟨w.heap.size + 1, 2, none⟩) (show w.heap.size ≤ w.heap.size + 1 by omega) (.int .i64 f)).setCell (p := ⟨w.heap.size + 1, 3, none⟩) (show w.heap.size ≤ w.heap.size + 1 by omega) (.int .i64 t)).setCell (p := ⟨w.heap.size + 1, 4, none⟩) (show w.heap.size ≤ w.heap.size + 1 by omega) (.int .i64 l)).setCell (p := ⟨w.heap.size + 1, 5, none⟩) (show w.heap.size ≤ w.heap.size + 1 by omega) (.int .i64 n)).setCell (p := ⟨w.heap.size + 1, 6, none⟩) (show w.heap.size ≤ w.heap.size + 1 by omega) (.slice B m d)).setCell (p := ⟨w.heap.size + 1, 7, none⟩) (show w.heap.size ≤ w.heap.size + 1 by omega) (.bool o))
end Go.Proofs.Ytlmlckgnmkjkdaa

/-
  The model's PanesSort: by insertion.
-/
namespace Go.Proofs.Ytlmlckgnmkjkdaa
open Go.RowKit

/-- the model's list so far: m panes of X in the order s -/
structure InsSt (lo : Nat) (w : World) (A : Option Addr) (c m : Nat) (X Y : PX) (s : List Nat) : Prop where
  row : w.ownsRow lo 31 8 (.slice A m c) m (prow Y m)
  val : ∀ k, k < m → VAt lo w.heap.size w (Y k)
  ord : Stab (plo X) m s
  img : ∀ k, k < m → (Y k).1 = (X (s.getD k 0)).1
theorem InsSt.grow {lo : Nat} {w w' : World} {A : Option Addr} {c m : Nat} {X Y : PX} {s : List Nat} (h : InsSt lo w A c m X Y s) (hb : Below w.heap.size w w') : InsSt lo w' A c m X Y s :=
  ⟨owns_grow h.row hb, fun k hk => RowAt.base' (RowAt.grow (h.val k hk) hb) (Nat.le_refl _) hb.size, h.ord, h.img⟩
/-- Y with x put at p -/
def insY (Y : PX) (p : Nat) (x : Pl × Value) : PX := fun i => if i < p then Y i else if i = p then x else Y (i - 1)
theorem insY_rows {Y : PX} {p m : Nat} {x : Pl × Value} (hp : p ≤ m) : prow Y p ++ (pcx x ++ rows (fun i => pcx (Y (p + i))) (m - p)) = prow (insY Y p x) (m + 1) := by
  have e1 : pcx x = rows (fun _ => pcx x) 1 := by rw [rows_succ, rows_zero, List.nil_append]
  unfold prow
  rw [e1, rows_append, rows_append, show p + (1 + (m - p)) = m + 1 by omega]
  refine rows_congr fun i hi => ?_
  unfold insY
  by_cases c : i < p
  · rw [if_pos c, if_pos c]
  · rw [if_neg c, if_neg c]
    by_cases c2 : i = p
    · subst c2; rw [if_pos (by omega), if_pos rfl]
    · rw [if_neg (by omega), if_neg c2]
      congr 2
      omega
theorem insL_at {s : List Nat} {p m i : Nat} (hp : p ≤ m) (hl : s.length = m) (hi : i < m + 1) : (s.take p ++ m :: s.drop p).getD i 0 = if i < p then s.getD i 0 else if i = p then m else s.getD (i - 1) 0 := by
  rw [List.getD_eq_getElem?_getD, List.getD_eq_getElem?_getD, List.getD_eq_getElem?_getD]
  by_cases c : i < p
  · rw [if_pos c, List.getElem?_append_left (by rw [List.length_take]; omega), List.getElem?_take_of_lt c]
  · rw [if_neg c, List.getElem?_append_right (by rw [List.length_take]; omega)]
    by_cases c2 : i = p
    · subst c2
      rw [if_pos rfl, show i - (s.take i).length = 0 by rw [List.length_take]; omega]
      simp
    · rw [if_neg c2]
      obtain ⟨d, hd⟩ : ∃ d, i - (s.take p).length = d + 1 := ⟨i - p - 1, by rw [List.length_take]; omega⟩
      rw [hd, List.getElem?_cons_succ, List.getElem?_drop]
      congr 2
      rw [List.length_take] at hd
      omega

set_option maxRecDepth 100000 in
set_option maxHeartbeats 4000000 in
theorem specPanesSort_any (A : Option Addr) (n ca : Nat) (X : PX) (w : World) (hA : Rd w A (prow X n)) (hV : ∀ i, i < n → VFit w (X i)) (hm : ∀ i, i < n → (X i).1.vs.length ≤ 1048576) (hn : n ≤ 1048576) :
    Calls Try.prog 14 #[.slice A n ca] w fun e w' => ∃ B c Y s, e = .returned (.slice B n c) ∧ PRd w' B n Y ∧ Stab (plo X) n s ∧ (∀ i, i < n → (Y i).1 = (X (s.getD i 0)).1) ∧ Below w.heap.size w w' := by
  have HA := Lib.hid hA
  have HV := Lib.hid hV
  have HM := Lib.hid hm
  clear hA hm hV
  go_enter Try.func14, Try.ntmps14
  go_wp2
  go_loopw [3, 4] (fun v i wr => ∃ (m : Nat) (B : Option Addr) (c : Nat) (Y : PX) (s : List Nat), m ≤ n ∧ i = .int .i64 m ∧ v = .slice B m c ∧ Hid (InsSt w.heap.size wr B c m X Y s) ∧ Below w.heap.size w wr) (fun _ i _ => n - (intOf i).toNat)
  case atStart => exact ⟨0, _, _, fun _ => (pzero, .slice none 0 0), [], Nat.zero_le _, rfl, rfl, Lib.hid ⟨owns_empty (Own.new w 31 []) (Nat.le_refl _), fun k h => by omega, Stab.zero, fun k h => by omega⟩, below_alloc _ _⟩
  case round =>
    obtain ⟨m, B, c, Y, s, hmn, rfl, rfl, HI, hbel⟩ := hrel
    generalize wr = w1 at *
    by_cases hlt : m < n
    · obtain ⟨ab, ao, rfl, hab, hc⟩ := HA.out.pane hlt
      have HC := Lib.hid (fun W (h : Below w.heap.size w W) => hc W h)
      clear hc
      go_upto_block 2 with (fail)
      go_cut [5] from 14 to 31 (fun s5 wx => ∃ p : Nat, p ≤ m ∧ s5 = .int .i64 (p : Int) ∧ Hid ((∀ k, p ≤ k → k < m → plo X m (s.getD k 0)) ∧ (p = 0 ∨ ¬ plo X m (s.getD (p - 1) 0))) ∧ Below w1.heap.size w1 wx)
      case first =>
        go_wp2_with fail
        go_loopw [5] (fun v wr => ∃ p : Nat, p ≤ m ∧ v = .int .i64 (p : Int) ∧ Hid (∀ k, p ≤ k → k < m → plo X m (s.getD k 0)) ∧ Below w1.heap.size w1 wr) (fun v _ => (intOf v).toNat)
        case atStart => exact ⟨m, Nat.le_refl _, rfl, Lib.hid (fun k h1 h2 => by omega), Below.refl _ _⟩
        case round =>
          obtain ⟨p, hp, rfl, HP, hb2⟩ := hrel
          cases p with
          | zero =>
            have hg : decide ((0 : Int) < ((0 : Nat) : Int)) = false := by simp
            go_wp2
            refine wp_region_bel (by kernel_rfl) (by kernel_rfl) ?_
            repeat (go_big_quiet_step (fail))
            refine wpQuiet_nil ?_
            rintro _ ⟨u, rfl⟩
            go_wp2_with fail
            go_meet
            case rel => exact ⟨0, hp, rfl, Lib.hid ⟨HP.out, .inl rfl⟩, below_trans hb2 u.ok⟩
          | succ p =>
            have hg : ((0 : Int) < ((p + 1 : Nat) : Int)) := by omega
            obtain ⟨g, rfl⟩ : ∃ g, B = some ⟨g, 0, none⟩ := by
              rcases HI.out.row.2 with ⟨h, h'⟩ | ⟨g, cap, cur, h, _⟩
              · omega
              · injection h with h; exact ⟨g, h⟩
            obtain ⟨bb, bo, e, hbb, hd⟩ := (RowAt.reads (RowAt.of HI.out.row)).pane (show p < m by omega)
            cases e
            simp only [Nat.zero_add] at hd
            have F1 := fun u : Bel wr => HC.out u.w (below_trans hbel (below_trans hb2 u.ok))
            have F2 := fun u : Bel wr => hd u.w (below_trans hb2 u.ok)
            have HY := Lib.hid (HI.out.img p (by omega))
            clear hd
            obtain ⟨x, hx⟩ : ∃ x, x = X m := ⟨_, rfl⟩
            obtain ⟨y, hy⟩ : ∃ y, y = Y p := ⟨_, rfl⟩
            rw [← hx] at F1
            rw [← hy] at F2 HY
            have HX := Lib.hid hx
            clear hx hy
            have HQ := Lib.hid (show plt x.1.q x.1.k x.1.f x.1.t y.1.q y.1.k y.1.f y.1.t ↔ plo X m (s.getD p 0) by
              unfold plo ple; rw [← HX.out, ← HY.out])
            obtain ⟨⟨q, kk, f, t, l, nn, vs, o⟩, xv⟩ := x
            obtain ⟨⟨q', kk', f', t', l', nn', vs', o'⟩, yv⟩ := y
            simp only at F1 F2 HQ
            have a0 := fun u => (F1 u).1
            have a1 := fun u => (F1 u).2.1
            have a2 := fun u => (F1 u).2.2.1
            have a3 := fun u => (F1 u).2.2.2.1
            have a4 := fun u => (F1 u).2.2.2.2.1
            have a5 := fun u => (F1 u).2.2.2.2.2.1
            have a6 := fun u => (F1 u).2.2.2.2.2.2.1
            have a7 := fun u => (F1 u).2.2.2.2.2.2.2
            have b0 := fun u => (F2 u).1
            have b1 := fun u => (F2 u).2.1
            have b2 := fun u => (F2 u).2.2.1
            have b3 := fun u => (F2 u).2.2.2.1
            have b4 := fun u => (F2 u).2.2.2.2.1
            have b5 := fun u => (F2 u).2.2.2.2.2.1
            have b6 := fun u => (F2 u).2.2.2.2.2.2.1
            have b7 := fun u => (F2 u).2.2.2.2.2.2.2
            clear F1 F2
            have HL := Lib.hid (fun W => specPaneLess_any q kk f t l nn xv o q' kk' f' t' l' nn' yv o' W)
            go_wp2
            refine wp_region_bel (by kernel_rfl) (by kernel_rfl) ?_
            repeat (go_big_quiet_step ((go_at_call 29; exact bel_of _ (HL.out _))))
            refine wpQuiet_nil ?_
            rintro _ ⟨u, rfl⟩
            clear a0 a1 a2 a3 a4 a5 a6 a7 b0 b1 b2 b3 b4 b5 b6 b7
            by_cases hq : plo X m (s.getD p 0)
            · rw [show tf (plt q kk f t q' kk' f' t') = true from (tf_yes (HQ.out.2 hq)).symm]
              have HQ2 := Lib.hid hq
              clear hq
              go_wp2
              go_roundw
              case rel =>
                refine ⟨p, by omega, by go_num, Lib.hid fun k h1 h2 => ?_, below_trans hb2 u.ok⟩
                by_cases hkp : k = p
                · subst hkp; exact HQ2.out
                · exact HP.out k (by omega) h2
              case measure => simp [intOf]
            · rw [show tf (plt q kk f t q' kk' f' t') = false from (tf_no (fun h => hq (HQ.out.1 h))).symm]
              have HQ2 := Lib.hid hq
              clear hq
              go_wp2_with fail
              go_meet
              case rel => exact ⟨p + 1, hp, rfl, Lib.hid ⟨HP.out, .inr HQ2.out⟩, below_trans hb2 u.ok⟩
      case rest =>
        obtain ⟨p, hp, rfl, HP, hb2⟩ := hcut
        generalize wc = w2 at *
        replace HI := Lib.hid (HI.out.grow hb2)
        replace hbel := below_trans hbel hb2
        clear hb2
        have hsl : ∀ k, k < m → ∃ B m c, (Y k).2 = .slice B m c := fun k hk => by
          obtain ⟨B, c, e, _⟩ := RowAt.rd (HI.out.val k hk)
          exact ⟨B, _, c, e⟩
        have hval := HV.out m hlt
        have hmm := HM.out m hlt
        have F := HC.out w2 hbel
        have hone : ∀ u ∈ rows (fun i => pcx (Y (p + i))) (m - p), u.oneCell' = true := prow_one (fun i => Y (p + i)) (m - p) (fun k hk => hsl (p + k) (by omega))
        have hone2 := prow_one Y p (fun k hk => hsl k (by omega))
        have hlen : (rows (fun i => pcx (Y (p + i))) (m - p)).length = (m - p) * 8 := rows_length (fun _ => rfl)
        obtain ⟨A1, c1, hrun1, hrd1, hf1⟩ := rows_tail under_Pane size_Pane (pcx_len Y) HI.out.row hp
        obtain ⟨A2, c2, hrun2, hrd2, hf2⟩ := rows_head under_Pane size_Pane (pcx_len Y) HI.out.row hp
        have HT := Lib.hid (And.intro hone (And.intro hlen (And.intro hrd1 hf1)))
        have HU := Lib.hid (And.intro hone2 (And.intro hrd2 hf2))
        unfold VFit at hval
        clear hone hone2 hlen hrd1 hf1 hrd2 hf2 hsl
        obtain ⟨x, hx⟩ : ∃ x, x = X m := ⟨_, rfl⟩
        rw [← hx] at hval hmm F
        have HX := Lib.hid hx
        clear hx
        obtain ⟨⟨q, kk, f, t, l, nn, vs, o⟩, xv⟩ := x
        simp only at F hval hmm
        obtain ⟨V, cv, rfl, hV, hfit⟩ := hval
        obtain ⟨a0, a1, a2, a3, a4, a5, a6, a7⟩ := F
        have HVI := Lib.hid (And.intro (hV.below hbel) hfit)
        have HN1 : Hid (1 + (m - p) ≤ 2097152) := Lib.hid (by omega)
        have HN2 : Hid (0 + p ≤ 2097152) := Lib.hid (by omega)
        have HN3 : Hid (p + (1 + (m - p)) ≤ 2097152) := Lib.hid (by omega)
        clear hV hfit
        obtain ⟨r, hr⟩ : ∃ r, m - p = r := ⟨_, rfl⟩
        rw [hr] at HT HN1 HN3 hrun1
        have HRR := Lib.hid hr
        clear hr
        go_upto_region 8 with (fail)
        go_cut [6] from 14 to 48 (fun s6 wx => ∃ (T : Option Addr) (ct : Nat) (y : Value), s6 = .slice T (1 + r) ct ∧ Hid (VAt w.heap.size wx.heap.size wx (⟨q, kk, f, t, l, nn, vs, o⟩, y) ∧ wx.ownsRow w2.heap.size 31 8 (.slice T (1 + r) ct) (1 + r) (pac q kk f t l nn y o ++ rows (fun i => pcx (Y (p + i))) r)) ∧ Below w2.heap.size w2 wx)
        case first =>
          have hrun1' := hrun1
          clear hrun1 hrun2
          go_region_law (first
            | (go_simp; go_at_call 51; refine (l08Copy_any q kk f t l nn o V vs.length cv vs _ (HVI.out.1.below (Below.refl _ _).drew) rfl hmm HVI.out.2).mono ?_; rintro e w3 ⟨T, d, rfl, rr, hb3⟩; have hb3' : Below w2.heap.size w2 w3 := below_trans (Below.refl w2.heap.size w2).drew hb3)
            | (refine appPane.step rfl (.tmp 37) (.tmp 40) rfl w2.heap.size (.slice (some ⟨w3.heap.size, 0, none⟩) 1 1) 1 (pac q kk f t l nn (.slice T vs.length d) o) rfl (Own.ownsS (n := 1) (s := 8) (Own.new w3 31 (pac q kk f t l nn (.slice T vs.length d) o)) hb3'.size rfl (by decide)) A1 r c1 (rows (fun i => pcx (Y (p + i))) r) rfl (HT.out.2.2.1 _ (below_trans hb3' (below_alloc _ _))) HT.out.2.2.2 HT.out.2.1 HT.out.1 HN1 (Nat.le_trans hb3'.size (below_alloc _ _).size) ?_; intro T2 ct w4 hown hgrow hb4))
          all_goals
            go_wp2_with fail
            go_meet
            case rel =>
              refine ⟨T2, ct, .slice T vs.length d, rfl, Lib.hid ⟨?_, hown⟩, (below_trans hb3' (below_alloc _ _)).trans hb4⟩
              have h1 := RowAt.grow rr (below_alloc w3 (.cells (pac q kk f t l nn (.slice T vs.length d) o).toArray 31))
              have h2 := h1.far hgrow (.inr (fun e => absurd (rr.2 _ e) (Nat.lt_irrefl _)))
              exact h2.base' (Nat.le_trans hbel.size (by simp)) (Nat.le_trans (by simp) hgrow.size)
        case rest =>
          obtain ⟨T, ct, y, rfl, HY, hb3⟩ := hcut
          generalize wc = w3 at *
          have hrun2' := hrun2
          clear hrun1 hrun2 a0 a1 a2 a3 a4 a5 a6 a7 HVI
          have hsl : ∃ By cy, y = .slice By vs.length cy := by
            obtain ⟨By, cy, e, _⟩ := RowAt.rd HY.out.1
            exact ⟨By, cy, e⟩
          have HO1 := Lib.hid (show ∀ u ∈ pac q kk f t l nn y o ++ rows (fun i => pcx (Y (p + i))) r, u.oneCell' = true from by
            obtain ⟨By, cy, rfl⟩ := hsl
            intro u hu
            rcases List.mem_append.1 hu with hu | hu
            · simp at hu
              rcases hu with rfl | rfl | rfl | rfl | rfl | rfl | rfl | rfl
              all_goals rfl
            · exact HT.out.1 u hu)
          have HO2 := Lib.hid (show (pac q kk f t l nn y o ++ rows (fun i => pcx (Y (p + i))) r).length = (1 + r) * 8 from by
            rw [List.length_append, HT.out.2.1]; simp; omega)
          have HE := Lib.hid (owns_empty (size := 8) (Own.new w3 31 []) (Nat.le_refl w3.heap.size))
          have hrd := RowAt.reads (RowAt.of HY.out.2)
          have hft := owns_fit HY.out.2
          have HRD := Lib.hid (And.intro hrd hft)
          have HPL := Lib.hid (show (rows (fun i => pcx (Y i)) p).length = p * 8 from rows_length (fun _ => rfl))
          clear hrd hft hsl
          go_wp2_with (first
            | (at_builtin; refine appPane.rd rfl _ (.tmp 45) rfl w3.heap.size (.slice (some ⟨w3.heap.size, 0, none⟩) 0 0) 0 [] rfl HE.out A2 p c2 (rows (fun i => pcx (Y i)) p) rfl (HU.out.2.1 _ (below_trans hb3 (below_alloc _ _))) HU.out.2.2 HPL.out HU.out.1 HN2.out (by simp) ?_; intro A5 c5 w5 hown5 hgrow5 hb5; rw [Nat.zero_add, List.nil_append] at hown5; rw [Nat.zero_add])
            | (at_builtin; refine appPane.rd rfl _ (.tmp 47) rfl w3.heap.size (.slice A5 p c5) p (rows (fun i => pcx (Y i)) p) rfl hown5 T (1 + r) ct _ rfl (HRD.out.1.below ((below_alloc w3 _).trans hb5)) HRD.out.2 HO2.out HO1.out HN3.out (Nat.le_trans (below_alloc w3 _).size hgrow5.size) ?_; intro A6 c6 w6 hown6 hgrow6 hb6))
          have hm1 : p + (1 + r) = m + 1 := by have := HRR.out; omega
          rw [hm1] at hown6
          have hb13 : Below w3.heap.size w3 w6 := (below_alloc w3 _).trans (hb5.trans hb6)
          have HF := Lib.hid (show InsSt w.heap.size w6 A6 c6 (m + 1) X (insY Y p (⟨q, kk, f, t, l, nn, vs, o⟩, y)) (s.take p ++ m :: s.drop p) from by
            have hle : w.heap.size ≤ w3.heap.size := Nat.le_trans hbel.size hb3.size
            refine ⟨?_, fun k hk => ?_, HI.out.ord.step (plo_swo X) hp HP.out.1 HP.out.2, fun k hk => ?_⟩
            · rw [← insY_rows hp, HRR.out]
              exact owns_base hown6 hle
            · unfold insY
              by_cases c1 : k < p
              · rw [if_pos c1]
                exact RowAt.base' (RowAt.grow (RowAt.grow (HI.out.val k (by omega)) hb3) hb13) (Nat.le_refl _) (Nat.le_trans hb3.size hb13.size)
              · rw [if_neg c1]
                by_cases c2 : k = p
                · rw [if_pos c2]
                  exact RowAt.base' (RowAt.grow HY.out.1 hb13) (Nat.le_refl _) hb13.size
                · rw [if_neg c2]
                  exact RowAt.base' (RowAt.grow (RowAt.grow (HI.out.val (k - 1) (by omega)) hb3) hb13) (Nat.le_refl _) (Nat.le_trans hb3.size hb13.size)
            · rw [insL_at hp HI.out.ord.length hk]
              unfold insY
              by_cases c1 : k < p
              · rw [if_pos c1, if_pos c1]; exact HI.out.img k (by omega)
              · rw [if_neg c1, if_neg c1]
                by_cases c2 : k = p
                · rw [if_pos c2, if_pos c2, ← HX.out]
                · rw [if_neg c2, if_neg c2]; exact HI.out.img (k - 1) (by omega))
          have hbf := below_trans (below_trans hbel hb3) hb13
          rw [hm1]
          clear HI hown6 hgrow6 hb6 hown5 hgrow5 hb5 hb3 hbel hb13
          go_roundw
          case rel => exact ⟨m + 1, A6, c6, _, _, hlt, by go_num, rfl, HF, hbf⟩
          case measure => simp [intOf]; omega
    · obtain rfl : m = n := by omega
      obtain ⟨B', c', e, hr⟩ := RowAt.rd (RowAt.of HI.out.row)
      cases e
      go_wp2
      go_ret
      exact ⟨_, _, Y, s, rfl, ⟨hr, fun i hi => (HI.out.val i hi).rd⟩, HI.out.ord, HI.out.img, hbel⟩
end Go.Proofs.Ytlmlckgnmkjkdaa

/-
  What the laws' own helpers on rows of panes return: marks, and whether they are held.
-/
namespace Go.Proofs.Ytlmlckgnmkjkdaa
open Go.RowKit

section
variable {lo hi : Nat} {w w' : World} {v : Value} {n : Nat} {X Y : PX}
theorem updN_keep {X : PX} {i : Nat} {p : Pl} (hp : p.vs = (X i).1.vs) (k : Nat) : (updN X i (p, (X i).2) k).2 = (X k).2 ∧ (updN X i (p, (X i).2) k).1.vs = (X k).1.vs := by
  by_cases h : k = i
  · subst h; rw [updN_at]; exact ⟨rfl, hp⟩
  · rw [updN_ne h]; exact ⟨rfl, rfl⟩
theorem PAt.six {g c i : Nat} (h : PAt lo hi w (.slice (some ⟨g, 0, none⟩) n c) n X) (hin : i < n) (z0 z1 z2 z3 z4 z5 : Int) :
    PAt lo hi ((((((w.setCell ⟨g, i * 8, none⟩ (.int .i64 z0)).setCell ⟨g, i * 8 + 1, none⟩ (.int .i64 z1)).setCell ⟨g, i * 8 + 2, none⟩ (.int .i64 z2)).setCell ⟨g, i * 8 + 3, none⟩ (.int .i64 z3)).setCell ⟨g, i * 8 + 4, none⟩ (.int .i64 z4)).setCell ⟨g, i * 8 + 5, none⟩ (.int .i64 z5))
      (.slice (some ⟨g, 0, none⟩) n c) n (updN X i (⟨z0, z1, z2, z3, z4, z5, (X i).1.vs, (X i).1.o⟩, (X i).2)) ∧
    w.grownBy ((((((w.setCell ⟨g, i * 8, none⟩ (.int .i64 z0)).setCell ⟨g, i * 8 + 1, none⟩ (.int .i64 z1)).setCell ⟨g, i * 8 + 2, none⟩ (.int .i64 z2)).setCell ⟨g, i * 8 + 3, none⟩ (.int .i64 z3)).setCell ⟨g, i * 8 + 4, none⟩ (.int .i64 z4)).setCell ⟨g, i * 8 + 5, none⟩ (.int .i64 z5)) (some g) := by
  have h0 := h.put (prow_set0 hin z0) (fun k _ => updN_keep (by rfl) k)
  have h1 := h0.1.put (prow_set1 hin z1) (fun k _ => updN_keep (by rfl) k)
  have h2 := h1.1.put (prow_set2 hin z2) (fun k _ => updN_keep (by rfl) k)
  have h3 := h2.1.put (prow_set3 hin z3) (fun k _ => updN_keep (by rfl) k)
  have h4 := h3.1.put (prow_set4 hin z4) (fun k _ => updN_keep (by rfl) k)
  have h5 := h4.1.put (prow_set5 hin z5) (fun k _ => updN_keep (by rfl) k)
  refine ⟨?_, grownBy_trans h0.2 (grownBy_trans h1.2 (grownBy_trans h2.2 (grownBy_trans h3.2 (grownBy_trans h4.2 h5.2))))⟩
  have := h5.1
  simp only [updN_updN, updN_at] at this
  exact this
theorem PAt.last {g c i : Nat} (h : PAt lo hi w (.slice (some ⟨g, 0, none⟩) n c) n X) (hin : i < n) (z : Bool) :
    PAt lo hi (w.setCell ⟨g, i * 8 + 7, none⟩ (.bool z)) (.slice (some ⟨g, 0, none⟩) n c) n (updN X i (⟨(X i).1.q, (X i).1.k, (X i).1.f, (X i).1.t, (X i).1.l, (X i).1.n, (X i).1.vs, z⟩, (X i).2)) ∧ w.grownBy (w.setCell ⟨g, i * 8 + 7, none⟩ (.bool z)) (some g) :=
  h.put (prow_set7 hin z) (fun k _ => updN_keep (by rfl) k)
end
theorem markVals_any {lo hi n i : Nat} {w : World} {v : Value} {X : PX} (h : PAt lo hi w v n X) (hin : i < n) (z : Int) (h0 : 0 ≤ z) (h1 : z ≤ 4611686018427387904) (hm : (X i).1.vs.length ≤ 1048576) :
    Calls Try.prog 84 #[(X i).2, .int .i64 z] w fun e w' => e = .returned (.int .i64 (z + ((X i).1.vs.length : Nat))) ∧
      PAt lo hi w' v n (updN X i (⟨(X i).1.q, (X i).1.k, (X i).1.f, (X i).1.t, (X i).1.l, (X i).1.n, marks z (X i).1.vs.length, (X i).1.o⟩, (X i).2)) ∧ Only lo hi w w' := by
  have hr := h.val i hin
  refine (markIntS_any (X i).2 lo (X i).1.vs z w hr.1 h0 h1 hm).mono ?_
  rintro _ w' ⟨rfl, ho, hg⟩
  exact ⟨rfl, h.inner hin (marks_length _ _) ⟨ho, hr.2⟩ hg, Only.of_row hr hg⟩
theorem markVals_as {lo hi n i : Nat} {w : World} {v xv : Value} {X : PX} {p : Pl} (h : PAt lo hi w v n X) (hin : i < n) (hx : X i = (p, xv)) (z : Int) (h0 : 0 ≤ z) (h1 : z ≤ 4611686018427387904) (hm : p.vs.length ≤ 1048576) :
    Calls Try.prog 84 #[xv, .int .i64 z] w fun e w' => e = .returned (.int .i64 (z + (p.vs.length : Nat))) ∧
      PAt lo hi w' v n (updN X i (⟨p.q, p.k, p.f, p.t, p.l, p.n, marks z p.vs.length, p.o⟩, xv)) ∧ Only lo hi w w' := by
  have := markVals_any h hin z h0 h1 (by rw [hx]; exact hm)
  rw [hx] at this
  exact this
/-- marked up to j -/
def mkTo (K : Int) (X : PX) (j : Nat) : PX := fun i => if i < j then (mkP (K + (moff (lens X) i : Nat)) (lens X i), (X i).2) else X i
theorem mkTo_zero (K : Int) (X : PX) : mkTo K X 0 = X := by
  funext i; unfold mkTo; rw [if_neg (by omega)]
theorem mkTo_at (K : Int) (X : PX) {j : Nat} : mkTo K X j j = X j := by unfold mkTo; rw [if_neg (by omega)]

set_option maxRecDepth 100000 in
set_option maxHeartbeats 4000000 in
theorem markPaneS_at (v : Value) (lo hi n : Nat) (X : PX) (K : Int) (w : World) (hp : PAt lo hi w v n X) (h0 : 0 ≤ K) (h1 : K ≤ 1048576) (hm : ∀ i, i < n → (X i).1.vs.length ≤ 1048576) (hn : n ≤ 1048576) (ht : ltot (lens X) n ≤ 1048576) :
    Calls Try.prog 43 #[v, .int .i64 K] w fun e w' => e = .returned (.int .i64 (K + (moff (lens X) n : Nat))) ∧ PAt lo hi w' v n (mkTo K X n) ∧ Only lo hi w w' := by
  obtain ⟨A, c, rfl, -⟩ := hp.rd
  have HT := Lib.hid (fun i (hi : i ≤ n) => show moff (lens X) i ≤ 8388608 from by have := ltot_mono (lens X) hi; unfold moff; omega)
  have HP := Lib.hid hp
  have HM := Lib.hid hm
  clear ht hp hm
  go_enter Try.func43, Try.ntmps43
  go_wp2
  go_loopw [1, 5] (fun q i wr => ∃ (j : Nat) (z : Int), j ≤ n ∧ i = .int .i64 j ∧ q = .int .i64 z ∧ 0 ≤ z ∧ z ≤ 20000000 ∧ Hid (z = K + (moff (lens X) j : Nat) ∧ PAt lo hi wr (.slice A n c) n (mkTo K X j) ∧ Only lo hi w wr)) (fun _ i _ => n - (intOf i).toNat)
  case atStart => exact ⟨0, K, Nat.zero_le _, rfl, rfl, h0, by omega, Lib.hid ⟨by simp [moff_zero], by rw [mkTo_zero]; exact HP.out, Only.of_below (Below.refl _ _) _ _⟩⟩
  case round =>
    obtain ⟨j, z, hj, rfl, rfl, hz0, hz1, H⟩ := hrel
    by_cases hlt : j < n
    · obtain ⟨g, rfl⟩ : ∃ g, A = some ⟨g, 0, none⟩ := by
        rcases H.out.2.1.row.1.2 with ⟨h, h'⟩ | ⟨g, cap, cur, h, _⟩
        · omega
        · injection h with h; exact ⟨g, h⟩
      have hr := H.out.2.1.row.1
      have hcells : ∀ q, q < 8 → wr.cell? ⟨g, j * 8 + q, none⟩ = (pcx (mkTo K X j j))[q]? := fun q hq => by rw [hr.cellAt (j * 8 + q) (by omega)]; exact rows_at (pcx_len _) hlt hq
      rw [mkTo_at] at hcells
      have c0 := hcells 0 (by omega)
      have c1 := hcells 1 (by omega)
      have c2 := hcells 2 (by omega)
      have c3 := hcells 3 (by omega)
      have c4 := hcells 4 (by omega)
      have c5 := hcells 5 (by omega)
      have c6 := hcells 6 (by omega)
      have c7 := hcells 7 (by omega)
      simp only [Nat.add_zero, List.getElem?_cons_zero, List.getElem?_cons_succ] at c0 c1 c2 c3 c4 c5 c6 c7
      have f0 := hr.frozenAt (j * 8)
      have f1 := hr.frozenAt (j * 8 + 1)
      have f2 := hr.frozenAt (j * 8 + 2)
      have f3 := hr.frozenAt (j * 8 + 3)
      have f4 := hr.frozenAt (j * 8 + 4)
      have f5 := hr.frozenAt (j * 8 + 5)
      have H6 := Lib.hid (H.out.2.1.six hlt z (z + 1) (z + 1 + 1) (z + 1 + 1 + 1) (z + 1 + 1 + 1 + 1) (z + 1 + 1 + 1 + 1 + 1))
      have hmm := HM.out j hlt
      have hx : mkTo K X j j = X j := mkTo_at K X
      rw [hx] at H6
      clear hr hcells
      have hs : updN (mkTo K X j) j (⟨z, z + 1, z + 1 + 1, z + 1 + 1 + 1, z + 1 + 1 + 1 + 1, z + 1 + 1 + 1 + 1 + 1, (X j).1.vs, (X j).1.o⟩, (X j).2) j = (⟨z, z + 1, z + 1 + 1, z + 1 + 1 + 1, z + 1 + 1 + 1 + 1, z + 1 + 1 + 1 + 1 + 1, (X j).1.vs, (X j).1.o⟩, (X j).2) := updN_at
      have HX := Lib.hid (And.intro hs hs)
      clear hs hx
      go_wp2_with fail
      clear c0 c1 c2 c3 c4 c5 c6 c7 f0 f1 f2 f3 f4 f5
      refine (markVals_as H6.out.1 hlt HX.out.1 _ (by omega) (by omega) hmm).mono ?_
      rintro e w1 ⟨rfl, hp1, hO1⟩
      rw [updN_updN] at hp1
      have hO := H.out.2.2.trans ((H.out.2.1.only H6.out.2).trans hO1)
      obtain ⟨y, hy⟩ : ∃ y, z + 1 + 1 + 1 + 1 + 1 + 1 + ((X j).1.vs.length : Int) = y := ⟨_, rfl⟩
      have hr := hp1.row.1
      have c7 := (hr.cellAt (j * 8 + 7) (by omega)).trans (rows_at (pcx_len _) hlt (j := 7) (by omega))
      rw [updN_at] at c7
      simp only [List.getElem?_cons_zero, List.getElem?_cons_succ] at c7
      have f7 := hr.frozenAt (j * 8 + 7)
      have H7 := Lib.hid (hp1.last hlt (y % 3 == 0))
      have hz : z = K + (moff (lens X) j : Nat) := H.out.1
      have hyb : 0 ≤ y ∧ y ≤ 30000000 := by omega
      have HR := Lib.hid (show y + 1 = K + (moff (lens X) (j + 1) : Nat) ∧ (y + 1) ≤ 20000000 ∧ mkP z (lens X j) = ⟨z, z + 1, z + 1 + 1, z + 1 + 1 + 1, z + 1 + 1 + 1 + 1, z + 1 + 1 + 1 + 1 + 1, marks (z + 1 + 1 + 1 + 1 + 1 + 1) (X j).1.vs.length, y % 3 == 0⟩ from by
        have h1 := moff_succ (lens X) j
        have h2 := HT.out (j + 1) hlt
        have hl : lens X j = (X j).1.vs.length := rfl
        rw [hl] at h1
        refine ⟨by omega, by omega, ?_⟩
        rw [← hy]; rfl)
      have HZ := Lib.hid hz
      have HO := Lib.hid (hO.trans (hp1.only H7.out.2))
      rw [hy]
      clear hr hz hO hO1 hp1 H6 H HX hy hmm
      go_wp2
      go_roundw
      case rel =>
        refine ⟨j + 1, y + 1, by omega, by go_num, rfl, by omega, HR.out.2.1, Lib.hid ⟨HR.out.1, H7.out.1.congr fun i _ => ?_, HO.out⟩⟩
        rw [updN_at, updN_updN]
        unfold mkTo
        by_cases hi : i = j
        · subst hi
          rw [updN_at, if_pos (by omega), ← HZ.out, HR.out.2.2]
        · rw [updN_ne hi]
          by_cases c1 : i < j
          · rw [if_pos c1, if_pos (by omega)]
          · rw [if_neg c1, if_neg (by omega)]
      case measure => simp [intOf]; omega
    · obtain rfl : j = n := by omega
      go_wp2
      go_ret
      exact ⟨ret_int H.out.1, H.out.2.1, H.out.2.2⟩

set_option maxRecDepth 100000 in
set_option maxHeartbeats 4000000 in
theorem heldPaneS_any (A : Option Addr) (c n : Nat) (X : PX) (L : Nat → Nat) (K : Int) (w : World) (hA : PRd w A n X) (hX : ∀ i, i < n → (X i).1 = mkP (K + (moff L i : Nat)) (L i)) (h0 : 0 ≤ K) (h1 : K ≤ 1048576) (hm : ∀ i, i < n → L i ≤ 1048576) (hn : n ≤ 1048576) (ht : ltot L n ≤ 1048576) :
    Calls Try.prog 44 #[.slice A n c, .int .i64 K] w fun e w' => e = .returned (.int .i64 (K + (moff L n : Nat))) ∧ w = w' := by
  have HT := Lib.hid (fun i (hi : i ≤ n) => show moff L i ≤ 8388608 from by have := ltot_mono L hi; unfold moff; omega)
  have HA := Lib.hid hA
  have HM := Lib.hid hm
  have HX := Lib.hid hX
  clear ht hA hm hX
  go_enter Try.func44, Try.ntmps44
  go_wp2
  go_loop [1, 5] (fun q i => ∃ (j : Nat) (z : Int), j ≤ n ∧ i = .int .i64 j ∧ q = .int .i64 z ∧ 0 ≤ z ∧ z ≤ 20000000 ∧ Hid (z = K + (moff L j : Nat))) (fun _ i => n - (intOf i).toNat)
  case atStart => exact ⟨0, K, Nat.zero_le _, rfl, rfl, h0, by omega, Lib.hid (by simp [moff_zero])⟩
  case round =>
    obtain ⟨j, z, hj, rfl, rfl, hz0, hz1, H⟩ := hrel
    by_cases hlt : j < n
    · obtain ⟨b, off, rfl, hb, hc⟩ := HA.out.row.pane hlt
      have hval := HA.out.val j hlt
      have F := hc w (Below.refl _ _)
      have hmm := HM.out j hlt
      have hx := HX.out j hlt
      rw [← H.out] at hx
      obtain ⟨V, cv, hv, hV⟩ := hval
      rw [hx] at F hv hV
      have hml : (mkP z (L j)).vs.length = L j := marks_length _ _
      rw [hml] at hv
      obtain ⟨c0, c1, c2, c3, c4, c5, c6, c7⟩ := F
      rw [hv] at c6
      have HV := Lib.hid (show Rd w V (iz (marks (z + 1 + 1 + 1 + 1 + 1 + 1) (L j))) from hV)
      clear hc hx hV hv hml
      have HR := Lib.hid (show z + 1 + 1 + 1 + 1 + 1 + 1 + (L j : Int) + 1 = K + (moff L (j + 1) : Nat) ∧ z + 1 + 1 + 1 + 1 + 1 + 1 + (L j : Int) + 1 ≤ 20000000 from by
        have h1 := moff_succ L j
        have h2 := HT.out (j + 1) hlt
        have h3 := H.out
        omega)
      have d0 : w.cell? ⟨b, off + j * 8, none⟩ = some (.int .i64 z) := c0
      have d1 : w.cell? ⟨b, off + j * 8 + 1, none⟩ = some (.int .i64 (z + 1)) := c1
      have d2 : w.cell? ⟨b, off + j * 8 + 2, none⟩ = some (.int .i64 (z + 1 + 1)) := c2
      have d3 : w.cell? ⟨b, off + j * 8 + 3, none⟩ = some (.int .i64 (z + 1 + 1 + 1)) := c3
      have d4 : w.cell? ⟨b, off + j * 8 + 4, none⟩ = some (.int .i64 (z + 1 + 1 + 1 + 1)) := c4
      have d5 : w.cell? ⟨b, off + j * 8 + 5, none⟩ = some (.int .i64 (z + 1 + 1 + 1 + 1 + 1)) := c5
      have d7 : w.cell? ⟨b, off + j * 8 + 7, none⟩ = some (.bool ((z + 1 + 1 + 1 + 1 + 1 + 1 + (L j : Int)) % 3 == 0)) := c7
      clear c0 c1 c2 c3 c4 c5 c7 H
      generalize L j = m at *
      have n0 : (z != z) = false := by simp
      have n1 : (z + 1 != z + 1) = false := by simp
      have n2 : (z + 1 + 1 != z + 1 + 1) = false := by simp
      have n3 : (z + 1 + 1 + 1 != z + 1 + 1 + 1) = false := by simp
      have n4 : (z + 1 + 1 + 1 + 1 != z + 1 + 1 + 1 + 1) = false := by simp
      have n5 : (z + 1 + 1 + 1 + 1 + 1 != z + 1 + 1 + 1 + 1 + 1) = false := by simp
      go_wp2_with fail
      refine (heldIntS_any V cv m _ _ HV.out (by omega) (by omega) hmm).mono ?_
      rintro e w1 ⟨rfl, rfl⟩
      obtain ⟨y, hy⟩ : ∃ y, z + 1 + 1 + 1 + 1 + 1 + 1 + (m : Int) = y := ⟨_, rfl⟩
      rw [hy] at HR d7 ⊢
      have hyb : 0 ≤ y ∧ y ≤ 30000000 := by omega
      have n7 : ((y % 3 == 0) != (y % 3 == 0)) = false := by simp
      clear d0 d1 d2 d3 d4 d5 hy
      go_wp2
      go_round
      case rel => exact ⟨j + 1, y + 1, by omega, by go_num, rfl, by omega, HR.out.2, Lib.hid HR.out.1⟩
      case measure => simp [intOf]; omega
    · obtain rfl : j = n := by omega
      go_wp2
      go_ret
      exact ⟨ret_int H.out, rfl⟩
end Go.Proofs.Ytlmlckgnmkjkdaa

/-
  The law on PanesSort: at every list of panes the program answers as the model, writes into no argument, and its answer owns its memory.
-/
namespace Go.Proofs.Ytlmlckgnmkjkdaa
open Go.RowKit

theorem ltot_sum (L : Nat → Nat) (n : Nat) : ltot L n = ((List.range n).map L).sum := by
  induction n with
  | zero => rfl
  | succ n ih => rw [List.range_succ, List.map_append, List.sum_append, ← ih]; simp [ltot]
theorem ltot_congr {L M : Nat → Nat} {n : Nat} (h : ∀ i, i < n → L i = M i) : ltot L n = ltot M n := by
  induction n with
  | zero => rfl
  | succ n ih => simp only [ltot]; rw [ih fun i hi => h i (by omega), h n (by omega)]
theorem ltot_at (L : Nat → Nat) {i n : Nat} (h : i < n) : L i ≤ ltot L n := by
  have := ltot_mono L (show i + 1 ≤ n from h)
  simp only [ltot] at this
  omega
theorem ltot_perm {L : Nat → Nat} {n : Nat} {s : List Nat} (h : s.Perm (List.range n)) : ltot (fun i => L (s.getD i 0)) n = ltot L n := by
  have hl : s.length = n := by rw [h.length_eq, List.length_range]
  have e : (List.range n).map (fun i => L (s.getD i 0)) = s.map L := by
    apply List.ext_getElem (by simp [hl])
    intro i h1 h2
    have : i < s.length := by simpa using h2
    simp [this]
  rw [ltot_sum, ltot_sum, e]
  exact (h.map L).sum_nat
theorem mkTo_done {K : Int} {X : PX} {n i : Nat} (h : i < n) : (mkTo K X n i).1 = mkP (K + (moff (lens X) i : Nat)) (lens X i) := by
  unfold mkTo; rw [if_pos h]

set_option maxRecDepth 100000 in
set_option maxHeartbeats 4000000 in
theorem fnExactPanesSort_walk (A : Option Addr) (n ca : Nat) (X : PX) (w : World) (hA : PRd w A n X) (hn : n ≤ 9223372036854775807) (hl : ∀ i, i < n → (X i).1.vs.length ≤ 9223372036854775807) :
    Calls Try.prog 9 #[.slice A n ca] w fun e w' => e = .returned (.bool true) ∧ Below w.heap.size w w' := by
  have HA := Lib.hid (fun W (h : Below w.heap.size w W) => hA.below h)
  clear hA
  by_cases ht : n + ltot (lens X) n ≤ 1048576
  · have hle : lessP 1048576 (lens X) n = 1048576 - (n : Int) - (ltot (lens X) n : Int) := by simp [lessP]; omega
    obtain ⟨z, hz⟩ : ∃ z, 1048576 - (n : Int) - (ltot (lens X) n : Int) = z := ⟨_, rfl⟩
    rw [hz] at hle
    have hz0 : 0 ≤ z := by omega
    have hn' : n ≤ 1048576 := by omega
    have hm : ∀ i, i < n → (X i).1.vs.length ≤ 1048576 := fun i hi => by
      have h1 : (lens X) i ≤ ltot (lens X) n := ltot_at (lens X) hi
      have h2 : lens X i = (X i).1.vs.length := rfl
      omega
    have HT := Lib.hid (show ltot (lens X) n ≤ 1048576 by omega)
    have HM := Lib.hid hm
    have HL := Lib.hid hl
    clear ht hz hm hl
    go_enter Try.func9, Try.ntmps9
    go_wp2_with fail
    refine (hle ▸ szPaneS_any A n ca X 1048576 _ (HA.out _ (Below.refl _ _)) HL.out (by omega) (by omega) hn).mono ?_
    rintro e w1 ⟨rfl, hb⟩
    go_wp2_with fail
    refine (toPaneS_w A n ca X _ (HA.out _ hb) HM.out hn').mono ?_
    rintro e w2 ⟨g1, X1, rfl, p1, e1, hb2⟩
    replace hb := below_trans hb hb2
    clear hb2
    go_wp2_with fail
    refine (specPanesSort_any _ n n X1 _ (RowAt.reads p1.row) (fun i hi => (p1.val i hi).fit) (fun i hi => by rw [e1 i hi]; exact HM.out i hi) hn').mono ?_
    rintro e w3 ⟨B, cw, Yw, s, rfl, rw0, hs, ew, hb2⟩
    -- the order, said of the argument itself
    have HS := Lib.hid (show Stab (plo X) n s from hs.congr fun a b ha hb' => by unfold plo; rw [e1 a ha, e1 b hb'])
    have HW := Lib.hid (show ∀ i, i < n → (Yw i).1 = (X (s.getD i 0)).1 from fun i hi => by rw [ew i hi, e1 _ (hs.lt_at hi)])
    replace hb := below_trans hb hb2
    have hw3 := hb.size
    have h3 := Below.refl w3.heap.size w3
    have HR0 := Lib.hid (fun W (h : Below w3.heap.size w3 W) => rw0.below h)
    clear hb2 p1 e1 ew hs rw0
    go_wp2_with fail
    refine (toPaneS_w A n ca X _ (HA.out _ hb) HM.out hn').mono ?_
    rintro e w4 ⟨gx, X2, rfl, px, ex, hb2⟩
    replace h3 := below_trans h3 hb2
    have hx0 := hb2.size
    replace hb := below_trans hb hb2
    clear hb2
    have HX := Lib.hid ex
    have HS2 := Lib.hid (show Stab (plo X2) n s from HS.out.congr fun a b ha hb' => by unfold plo; rw [HX.out a ha, HX.out b hb'])
    have HM2 := Lib.hid (show ∀ i, i < n → (X2 i).1.vs.length ≤ 1048576 from fun i hi => by rw [HX.out i hi]; exact HM.out i hi)
    clear ex
    go_wp2_with fail
    refine (panesSort_any _ n n X2 s _ (RowAt.reads px.row) (fun i hi => (px.val i hi).fit) HM2.out hn' HS2.out).mono ?_
    rintro e w5 ⟨gg, Y, rfl, pg, eg, hb2⟩
    have HG := Lib.hid (show ∀ i, i < n → (Y i).1 = (X (s.getD i 0)).1 from fun i hi => by rw [eg i hi, HX.out _ (HS.out.lt_at hi)])
    replace h3 := below_trans h3 hb2
    replace px := px.grow hb2
    have hg0 := hb2.size
    replace hb := below_trans hb hb2
    clear hb2 eg
    have HMG := Lib.hid (show ∀ i, i < n → (Y i).1.vs.length ≤ 1048576 from fun i hi => by rw [HG.out i hi]; exact HM.out _ (HS.out.lt_at hi))
    have HEQ := Lib.hid (show ∀ i, i < n → (Y i).1 = (Yw i).1 from fun i hi => by rw [HG.out i hi, HW.out i hi])
    go_wp2_with fail
    refine (eqPaneS_same _ B n n cw Y Yw _ (by obtain ⟨_, _, e, h⟩ := pg.rd; cases e; exact h) (HR0.out _ h3) HEQ.out HMG.out hn').mono ?_
    rintro e w6 ⟨rfl, hb2⟩
    replace h3 := below_trans h3 hb2
    replace px := px.grow hb2
    replace pg := pg.grow hb2
    replace hb := below_trans hb hb2
    have h56 := hb2.size
    clear hb2
    go_wp2_with fail
    refine (toPaneS_w A n ca X _ (HA.out _ hb) HM.out hn').mono ?_
    rintro e w7 ⟨gt, X3, rfl, pt, et, hb2⟩
    replace h3 := below_trans h3 hb2
    replace px := px.grow hb2
    replace pg := pg.grow hb2
    replace hb := below_trans hb hb2
    have h67 := hb2.size
    clear hb2
    go_wp2_with fail
    refine (eqPaneS_same _ _ n n n X2 X3 _ (by obtain ⟨_, _, e, h⟩ := px.rd; cases e; exact h) (by obtain ⟨_, _, e, h⟩ := pt.rd; cases e; exact h) (fun i hi => by rw [HX.out i hi, et i hi]) HM2.out hn').mono ?_
    rintro e w8 ⟨rfl, hb2⟩
    replace h3 := below_trans h3 hb2
    replace px := px.grow hb2
    replace pg := pg.grow hb2
    replace hb := below_trans hb hb2
    have h78 := hb2.size
    clear hb2 pt et
    have HTX := Lib.hid (show ltot (lens X2) n ≤ 1048576 from by rw [ltot_congr (M := lens X) fun i hi => by unfold lens; rw [HX.out i hi]]; exact HT.out)
    have HTG := Lib.hid (show ltot (lens Y) n ≤ 1048576 from by
      rw [ltot_congr (M := fun i => lens X (s.getD i 0)) fun i hi => by unfold lens; rw [HG.out i hi], ltot_perm HS.out.perm]; exact HT.out)
    go_wp2_with fail
    refine (markPaneS_at _ _ _ n X2 1 _ px (by omega) (by omega) HM2.out hn' HTX.out).mono ?_
    rintro e w9 ⟨rfl, -, hO⟩
    replace h3 := h3.trans (hO.below (Nat.le_refl _) (by omega))
    replace hb := hb.trans (hO.below hw3 (by omega))
    replace pg := pg.move (hO.same (.inr (Nat.le_refl _)) (by omega))
    have h89 := hO.size
    clear hO px
    go_wp2_with fail
    refine (eqPaneS_same _ B n n cw Y Yw _ (by obtain ⟨_, _, e, h⟩ := pg.rd; cases e; exact h) (HR0.out _ h3) HEQ.out HMG.out hn').mono ?_
    rintro e w10 ⟨rfl, hb2⟩
    replace h3 := below_trans h3 hb2
    replace pg := pg.grow hb2
    replace hb := below_trans hb hb2
    have h910 := hb2.size
    clear hb2
    have hmo : moff (lens Y) n ≤ 8388608 := by have := HTG.out; unfold moff; omega
    obtain ⟨q, hq⟩ : ∃ q, (1 : Int) + (moff (lens Y) n : Nat) = q := ⟨_, rfl⟩
    have hq0 : 0 ≤ q := by omega
    go_wp2_with fail
    refine (hq ▸ markPaneS_at _ _ _ n Y 1 _ pg (by omega) (by omega) HMG.out hn' HTG.out).mono ?_
    rintro e w11 ⟨rfl, pm, hO⟩
    replace h3 := h3.trans (hO.below (by omega) (by omega))
    replace hb := hb.trans (hO.below (by omega) (by omega))
    clear hO pg
    have HK := Lib.hid (fun (W : World) (h : Below w11.heap.size w11 W) => show Calls Try.prog 44 #[.slice (some ⟨gg, 0, none⟩) n n, .int .i64 1] W fun e w' => e = .returned (.int .i64 q) ∧ W = w' from
      hq ▸ heldPaneS_any (some ⟨gg, 0, none⟩) n n (mkTo 1 Y n) (lens Y) 1 W (by obtain ⟨_, _, e, h2⟩ := (pm.grow h).rd; cases e; exact h2) (fun i hi => mkTo_done hi) (by omega) (by omega) HMG.out hn' HTG.out)
    clear pm hq
    go_wp2_with fail
    refine (HK.out _ (Below.refl _ _)).mono ?_
    rintro e w12 ⟨rfl, rfl⟩
    have hqq : (q != q) = false := by simp
    go_wp2_with fail
    refine (toPaneS_w A n ca X _ (HA.out _ hb) HM.out hn').mono ?_
    rintro e w13 ⟨gy, X4, rfl, py, ey, hb2⟩
    have hk := hb2
    replace h3 := below_trans h3 hb2
    replace hb := below_trans hb hb2
    clear hb2
    have HY4 := Lib.hid ey
    clear ey
    go_wp2_with fail
    refine (panesSort_any _ n n X4 s _ (RowAt.reads py.row) (fun i hi => (py.val i hi).fit) (fun i hi => by rw [HY4.out i hi]; exact HM.out i hi) hn' (HS.out.congr fun a b ha hb' => by unfold plo; rw [HY4.out a ha, HY4.out b hb'])).mono ?_
    rintro e w14 ⟨gh, Yh, rfl, ph, eh, hb2⟩
    replace hk := below_trans hk hb2
    replace h3 := below_trans h3 hb2
    replace hb := below_trans hb hb2
    clear hb2 py
    have HEH := Lib.hid (show ∀ i, i < n → (Yh i).1 = (Yw i).1 from fun i hi => by rw [eh i hi, HY4.out _ (HS.out.lt_at hi), HW.out i hi])
    have HMH := Lib.hid (show ∀ i, i < n → (Yh i).1.vs.length ≤ 1048576 from fun i hi => by rw [HEH.out i hi, ← HEQ.out i hi]; exact HMG.out i hi)
    clear eh
    go_wp2_with fail
    refine (eqPaneS_same _ B n n cw Yh Yw _ (by obtain ⟨_, _, e, h⟩ := ph.rd; cases e; exact h) (HR0.out _ h3) HEH.out HMH.out hn').mono ?_
    rintro e w15 ⟨rfl, hb2⟩
    replace hk := below_trans hk hb2
    replace hb := below_trans hb hb2
    clear hb2 ph h3
    go_wp2_with fail
    refine (HK.out _ hk).mono ?_
    rintro e w16 ⟨rfl, rfl⟩
    go_wp2
    go_ret
    exact ⟨rfl, hb⟩
  · have hle : lessP 1048576 (lens X) n = -1 := by simp [lessP]; omega
    go_enter Try.func9, Try.ntmps9
    go_wp2_with fail
    refine (hle ▸ szPaneS_any A n ca X 1048576 _ (HA.out _ (Below.refl _ _)) hl (by omega) (by omega) hn).mono ?_
    rintro e w1 ⟨rfl, hb⟩
    go_wp2
    go_ret
    exact ⟨rfl, hb⟩
end Go.Proofs.Ytlmlckgnmkjkdaa
