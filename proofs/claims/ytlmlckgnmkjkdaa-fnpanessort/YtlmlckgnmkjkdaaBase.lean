/-
  Words for memory that only grows, and for slices that read as lists; a region in whatever order whose callees make memory of their own.
-/
import Derived.Test.YtlmlckgnmkjkdaaRows
import Derived.Test.YtlmlckgnmkjkdaaMath
import Derived.Test.YtlmlckgnmkjkdaaTail
import Derived.WalkKit
import Derived.WalkSpells
import Derived.WalkLawsBesides
import Derived.Deep.QuietTactic
import Derived.BigQuiet
import Derived.Lib.Hide
namespace Go.Proofs.Ytlmlckgnmkjkdaa
open Go.RowKit

/-! ### Worlds that have only grown -/

/-- A world that has grown out of w0: nothing of w0 has turned. -/
structure Bel (w0 : World) where
  w : World
  ok : Below w0.heap.size w0 w

instance (w0 : World) : Nonempty (Bel w0) := ⟨⟨w0, Below.refl _ _⟩⟩

theorem below_trans {a b c : World} (h : Below a.heap.size a b) (k : Below b.heap.size b c) : Below a.heap.size a c :=
  h.trans (k.mono h.size)

/-- A region in whatever order, whose operations read and whose callees read or make memory of their own: one walk in the order of the text. -/
theorem wp_region_bel {P : Program} {id : Nat} {Q : Exit → Act → World → Prop} {a : Act} {w : World} {l : List Oper} (hm : P.follows .mixedOrders = true) (hB : Region.lexB .any l.toArray = true)
    (h : wpQuiet P l.toArray (fun w' => ∃ u : Bel w, w' = u.w) (fun a' => ∀ w', (∃ u : Bel w, w' = u.w) → Q .normal a' w') l a) : (Code.region id l.toArray true).wp P Q a w :=
  wp_region_quiet (C := fun w' => ∃ u : Bel w, w' = u.w) hm hB ⟨⟨w.drew, (Below.refl _ _).drew⟩, rfl⟩ (by simpa using h)

/-- .. and whose last operations come in one forced order. -/
theorem wp_region_belt {P : Program} {id : Nat} {Q : Exit → Act → World → Prop} {a : Act} {w : World} {l : List Oper} (n : Nat) (hm : P.follows .mixedOrders = true) (hB : Region.lexTailB .any l.toArray n = true)
    (h : wpQuiet P l.toArray (fun w' => ∃ u : Bel w, w' = u.w) (fun a' => ∀ w', (∃ u : Bel w, w' = u.w) → wpList P l.toArray Q (l.drop n) a' w') (l.take n) a) : (Code.region id l.toArray true).wp P Q a w :=
  wp_region_head (C := fun w' => ∃ u : Bel w, w' = u.w) n hm hB ⟨⟨w.drew, (Below.refl _ _).drew⟩, rfl⟩ h

theorem bel_of {P : Program} {f : FuncId} {args : Array Value} {w0 : World} (u : Bel w0) {v : Value}
    (h : Calls P f args u.w fun e w' => e = .returned v ∧ Below u.w.heap.size u.w w') : Calls P f args u.w fun e w'' => e = .returned v ∧ ∃ u' : Bel w0, w'' = u'.w :=
  h.mono fun _ w'' ⟨he, hb⟩ => ⟨he, ⟨w'', below_trans u.ok hb⟩, rfl⟩

theorem bel_of_same {P : Program} {f : FuncId} {args : Array Value} {w0 : World} (u : Bel w0) {v : Value}
    (h : Calls P f args u.w fun e w' => e = .returned v ∧ u.w = w') : Calls P f args u.w fun e w'' => e = .returned v ∧ ∃ u' : Bel w0, w'' = u'.w :=
  h.mono fun _ _ ⟨he, hb⟩ => ⟨he, u, hb.symm⟩

/-- A contract's answer, known otherwise. -/
theorem as_bool {P : Program} {f : FuncId} {args : Array Value} {w : World} {R : World → Prop} {b c : Bool} (h : b = c) (hc : Calls P f args w fun e w' => e = .returned (.bool b) ∧ R w') :
    Calls P f args w fun e w' => e = .returned (.bool c) ∧ R w' := h ▸ hc
theorem as_int {P : Program} {f : FuncId} {args : Array Value} {w : World} {R : World → Prop} {k : IntKind} {b c : Int} (h : b = c) (hc : Calls P f args w fun e w' => e = .returned (.int k b) ∧ R w') :
    Calls P f args w fun e w' => e = .returned (.int k c) ∧ R w' := h ▸ hc

theorem below_alloc (w : World) (o : Obj) : Below w.heap.size w (w.alloc o) := (Below.refl _ _).alloc (Nat.le_refl _) _
/-! ### A slice that reads as a list of cells -/

/-- The slice at A holds the cells cs (one cell an element); an empty one may lie anywhere. -/
def Rd (w : World) (A : Option Addr) (cs : List Value) : Prop :=
  ∀ k u, cs[k]? = some u → ∃ ad, A = some ad ∧ ad.block < w.heap.size ∧ w.cell? (ad.add k) = some u

theorem add_block (a : Addr) (n : Nat) : (a.add n).block = a.block := by unfold Addr.add; split <;> rfl

theorem Rd.below {w w' : World} {A : Option Addr} {cs : List Value} (h : Rd w A cs) (hb : Below w.heap.size w w') : Rd w' A cs := fun k u hu => by
  obtain ⟨ad, e, hlt, hc⟩ := h k u hu
  exact ⟨ad, e, Nat.lt_of_lt_of_le hlt hb.size, (hb.cell (by rw [add_block]; exact hlt)).trans hc⟩

/-- unsigned numbers as cells -/
def us (xs : List Nat) : List Value := xs.map fun n : Nat => Value.int .u64 (n : Int)
theorem us_at {xs : List Nat} {k : Nat} (h : k < xs.length) : (us xs)[k]? = some (.int .u64 ((xs.getD k 0 : Nat) : Int)) := by
  simp [us, h]

theorem ret_int {k : IntKind} {a b : Int} (h : a = b) : Ending.returned (.int k a) = .returned (.int k b) := by rw [h]
theorem ret_bool {a b : Bool} (h : a = b) : Ending.returned (.bool a) = .returned (.bool b) := by rw [h]

theorem Rd.nat {w : World} {A : Option Addr} {xs : List Nat} (h : Rd w A (us xs)) (h0 : 0 < xs.length) :
    ∃ ad, A = some ad ∧ ∀ W, Below w.heap.size w W → ∀ i, i < xs.length → W.cell? (ad.add i) = some (.int .u64 (row xs i : Int)) := by
  obtain ⟨ad, rfl, hb, _⟩ := h 0 _ (us_at h0)
  refine ⟨ad, rfl, fun W hW i hi => ?_⟩
  obtain ⟨ad', e', _, hc⟩ := h i _ (us_at hi)
  obtain rfl : ad = ad' := by injection e'
  exact (hW.cell (by rw [add_block]; exact hb)).trans hc

/-! ### A block of the call's own, known whole -/

/-- Block g holds just the cells cs, of element type t, none of them frozen. -/
def Own (w : World) (g : Nat) (t : TypeId) (cs : List Value) : Prop := w.heap[g]? = some (.cells cs.toArray t (0, 0))

theorem Own.lt {w : World} {g : Nat} {t : TypeId} {cs : List Value} (h : Own w g t cs) : g < w.heap.size := by
  rcases Nat.lt_or_ge g w.heap.size with hl | hl
  · exact hl
  · unfold Own at h; rw [Array.getElem?_eq_none hl] at h; cases h
theorem Own.cell {w : World} {g : Nat} {t : TypeId} {cs : List Value} (h : Own w g t cs) (k : Nat) : w.cell? ⟨g, k, none⟩ = cs[k]? := by
  rw [cell_of_row w g k cs.toArray t (0, 0) h]; simp
theorem Own.free {w : World} {g : Nat} {t : TypeId} {cs : List Value} (h : Own w g t cs) (k : Nat) : w.frozen? ⟨g, k, none⟩ = false := by
  unfold Own at h
  simp [World.frozen?, h]
theorem Own.set {w : World} {g : Nat} {t : TypeId} {cs : List Value} (h : Own w g t cs) (k : Nat) (u : Value) : Own (w.setCell ⟨g, k, none⟩ u) g t (cs.set k u) := by
  unfold Own at h ⊢
  simp [World.setCell, Array.getElem?_modify, h]
theorem Own.far {w : World} {g : Nat} {t : TypeId} {cs : List Value} (h : Own w g t cs) {p : Addr} (hp : g ≠ p.block) (u : Value) : Own (w.setCell p u) g t cs :=
  (Below.heap_setCell w p u g hp).trans h
theorem Own.alloc {w : World} {g : Nat} {t : TypeId} {cs : List Value} (h : Own w g t cs) (o : Obj) : Own (w.alloc o) g t cs := (Below.heap_alloc w o g h.lt).trans h
theorem Own.below {w w' : World} {g B : Nat} {t : TypeId} {cs : List Value} (h : Own w g t cs) (hb : Below B w w') (hg : g < B) : Own w' g t cs := (hb.block g hg).trans h
theorem Own.grow {w w' : World} {g : Nat} {t : TypeId} {cs : List Value} (h : Own w g t cs) (hb : Below w.heap.size w w') : Own w' g t cs := h.below hb h.lt
theorem Own.new (w : World) (t : TypeId) (cs : List Value) : Own (w.alloc (.cells cs.toArray t)) w.heap.size t cs := heap_alloc_new w _
theorem add_plain (g k : Nat) : (⟨g, 0, none⟩ : Addr).add k = ⟨g, k, none⟩ := by
  unfold Addr.add
  split
  · simp_all
  · simp
theorem Own.rd {w : World} {g : Nat} {t : TypeId} {cs : List Value} (h : Own w g t cs) : Rd w (some ⟨g, 0, none⟩) cs := fun k u hu =>
  ⟨_, rfl, h.lt, by rw [add_plain, h.cell]; exact hu⟩

/-- A struct that was boxed, while the world grows. -/
theorem box_own {w w1 : World} {cs : List Value} {t : TypeId} (hb : Below (w.alloc (.cells cs.toArray t)).heap.size (w.alloc (.cells cs.toArray t)) w1) : Own w1 w.heap.size t cs ∧ Below w.heap.size w w1 :=
  ⟨(Own.new w t cs).grow hb, below_trans (below_alloc w _) hb⟩
theorem Own.two {w : World} {g : Nat} {t : TypeId} {c0 c1 : Value} (h : Own w g t [c0, c1]) : w.cell? ⟨g, 0, none⟩ = some c0 ∧ w.cell? ⟨g, 1, none⟩ = some c1 := ⟨h.cell 0, h.cell 1⟩

/-! ### rows that the call appended to, or made -/

theorem grownBy_of {w w' : World} (hb : Below w.heap.size w w') (r : Option Nat) : w.grownBy w' r := ⟨hb.os, hb.tape, hb.output, hb.size, fun k hk _ => hb.block k hk⟩
theorem grownBy_trans {a b c : World} {r : Option Nat} (h : a.grownBy b r) (k : b.grownBy c r) : a.grownBy c r :=
  ⟨k.os.trans h.os, k.tape.trans h.tape, k.output.trans h.output, Nat.le_trans h.size k.size, fun i hi hr => (k.block i (Nat.lt_of_lt_of_le hi h.size) hr).trans (h.block i hi hr)⟩
theorem owns_grow {w w' : World} {base : Nat} {e : TypeId} {s : Nat} {v : Value} {n : Nat} {cs : List Value} (h : w.ownsRow base e s v n cs) (hb : Below w.heap.size w w') : w'.ownsRow base e s v n cs := by
  rcases h.2 with ⟨rfl, _⟩ | ⟨g, cap, cur, rfl, _⟩
  · exact h.kept (row := none) (grownBy_of hb none) (.inl rfl)
  · exact h.kept (row := none) (grownBy_of hb none) (.inr (by simp [Value.ownBlock]))
theorem owns_far {w w' : World} {base : Nat} {e : TypeId} {s : Nat} {v : Value} {n g : Nat} {cs : List Value} (h : w.ownsRow base e s v n cs) (hg : w.grownBy w' (some g)) (hne : v.ownBlock ≠ some g) : w'.ownsRow base e s v n cs :=
  h.kept hg (.inr hne)
theorem owns_base {w : World} {base base' : Nat} {e : TypeId} {s : Nat} {v : Value} {n : Nat} {cs : List Value} (h : w.ownsRow base e s v n cs) (hb : base' ≤ base) : w.ownsRow base' e s v n cs := by
  obtain ⟨h1, h2⟩ := h
  refine ⟨h1, ?_⟩
  rcases h2 with h2 | ⟨g, cap, cur, hv, hg, r⟩
  · exact .inl h2
  · exact .inr ⟨g, cap, cur, hv, by omega, r⟩
/-- the value's form, and how it reads -/
theorem owns_rd {w : World} {base : Nat} {e : TypeId} {s : Nat} {v : Value} {n : Nat} {cs : List Value} (h : w.ownsRow base e s v n cs) : ∃ A c, v = .slice A n c ∧ Rd w A cs := by
  rcases h.2 with ⟨rfl, rfl⟩ | ⟨g, cap, cur, rfl, _⟩
  · refine ⟨none, 0, rfl, fun k u hu => ?_⟩
    have := (List.getElem?_eq_some_iff.1 hu).1
    have := h.1
    simp at this; subst this; simp at hu
  · refine ⟨_, _, rfl, fun k u hu => ⟨_, rfl, (h.lt g rfl).2, h.cells (g := g) rfl k u hu⟩⟩
theorem owns_lt {w : World} {base : Nat} {e : TypeId} {s : Nat} {v : Value} {n : Nat} {cs : List Value} (h : w.ownsRow base e s v n cs) {g : Nat} (hg : g < base) : v.ownBlock ≠ some g := fun he => by
  have := (h.lt g he).1; omega
theorem Own.owns {w : World} {g base n : Nat} {t : TypeId} {cs : List Value} (h : Own w g t cs) (hb : base ≤ g) (hn : cs.length = n) (hm : n ≤ 1048576) : w.ownsRow base t 1 (.slice (some ⟨g, 0, none⟩) n n) n cs := by
  refine ⟨by omega, .inr ⟨g, n, cs.toArray, rfl, hb, h, Nat.le_refl _, by unfold maxLen; omega, by simp; omega, ?_⟩⟩
  simp [← hn]

/-- signed numbers as cells -/
def iz (xs : List Int) : List Value := xs.map fun z : Int => Value.int .i64 z
theorem iz_length (xs : List Int) : (iz xs).length = xs.length := by simp [iz]
theorem iz_at {xs : List Int} {k : Nat} (h : k < xs.length) : (iz xs)[k]? = some (.int .i64 (xs.getD k 0)) := by
  simp [iz, h]
theorem iz_append (xs ys : List Int) : iz (xs ++ ys) = iz xs ++ iz ys := by simp [iz]

/-- unsigned numbers, written as integers -/
def uz (xs : List Int) : List Value := xs.map fun z : Int => Value.int .u64 z
theorem uz_length (xs : List Int) : (uz xs).length = xs.length := by simp [uz]
theorem uz_at {xs : List Int} {k : Nat} (h : k < xs.length) : (uz xs)[k]? = some (.int .u64 (xs.getD k 0)) := by
  simp [uz, h]
theorem us_uz (xs : List Nat) : us xs = uz (xs.map fun n : Nat => (n : Int)) := by simp [us, uz]

/-- The call hands back f of a new slice that holds the cells cs, in a block of its own. -/
def Makes (t : TypeId) (w : World) (cs : List Value) (f : Value → Value) (e : Ending) (w' : World) : Prop :=
  ∃ g, w.heap.size ≤ g ∧ e = .returned (f (.slice (some ⟨g, 0, none⟩) cs.length cs.length)) ∧ Own w' g t cs ∧ Below w.heap.size w w'

theorem made_zeros (n : Nat) : madeCells (Value.int .u64 0).cells (n * 1) = (us (List.replicate n 0)).toArray := by
  apply Array.ext
  · simp [madeCells, us]
  · intro i h1 h2
    simp [madeCells, us, Value.cells, Nat.mod_one]

/-- does p hold? -/
noncomputable def tf (p : Prop) : Bool := @decide p (Classical.propDecidable p)
theorem tf_yes {p : Prop} (h : p) : true = tf p := by simp [tf, h]
theorem tf_no {p : Prop} (h : ¬ p) : false = tf p := by simp [tf, h]
theorem tf_iff {p q : Prop} (h : p ↔ q) : tf p = tf q := by
  by_cases hp : p
  · rw [← tf_yes hp, ← tf_yes (h.1 hp)]
  · rw [← tf_no hp, ← tf_no (fun hq => hp (h.2 hq))]
theorem tf_true {p : Prop} : tf p = true ↔ p := by simp [tf]
theorem tf_false {p : Prop} : tf p = false ↔ ¬ p := by simp [tf]

theorem take_next {α : Type} [BEq α] {xs ys : List α} {k : Nat} (hx : k < xs.length) (hy : k < ys.length) (h : xs.take k = ys.take k) (he : xs[k] = ys[k]) : xs.take (k + 1) = ys.take (k + 1) := by
  rw [List.take_succ_eq_append_getElem hx, List.take_succ_eq_append_getElem hy, h, he]

end Go.Proofs.Ytlmlckgnmkjkdaa
