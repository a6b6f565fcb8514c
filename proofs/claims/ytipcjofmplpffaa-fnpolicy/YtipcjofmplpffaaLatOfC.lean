/-
  A table of truth values in memory, as the model's LatOf keeps it.
-/
import Derived.Test.YtipcjofmplpffaaLatOfB
import Derived.Test.YtipcjofmplpffaaLatDown
namespace Go.Proofs.Ytipcjofmplpffaa
open Go.RowKit

def bz (g : Nat → Bool) (n : Nat) : List Value := (List.range n).map fun j => Value.bool (g j)
theorem bz_length (g : Nat → Bool) (n : Nat) : (bz g n).length = n := by simp [bz]
theorem bz_at {g : Nat → Bool} {n j : Nat} (h : j < n) : (bz g n)[j]? = some (.bool (g j)) := by simp [bz, h]
theorem bz_set {g : Nat → Bool} {n j : Nat} {v : Bool} : (bz g n).set j (.bool v) = bz (fun b => if b = j then v else g b) n := by
  apply List.ext_getElem
  · simp [bz]
  · intro i h1 h2
    rw [List.getElem_set]
    by_cases e : j = i
    · subst e; simp [bz]
    · have e' : ¬ i = j := fun h => e h.symm
      simp [bz, e, e']
theorem bz_congr {g h : Nat → Bool} {n : Nat} (e : ∀ j, j < n → g j = h j) : bz g n = bz h n := by
  unfold bz
  apply List.map_congr_left
  intro j hj
  rw [e j (List.mem_range.1 hj)]

def heads (B n k : Nat) : List Value := (List.range n).map fun i => if i < k then Value.slice (some ⟨B + 1 + i, 0, none⟩) n n else .slice none 0 0
theorem heads_length (B n k : Nat) : (heads B n k).length = n := by simp [heads]
theorem heads_zero (B n : Nat) : heads B n 0 = List.replicate n (.slice none 0 0) := by
  apply List.ext_getElem
  · simp [heads]
  · intro i h1 h2; simp [heads]
theorem heads_at {B n k i : Nat} (h : i < n) : (heads B n k)[i]? = some (if i < k then Value.slice (some ⟨B + 1 + i, 0, none⟩) n n else .slice none 0 0) := by simp [heads, h]
theorem heads_set {B n k : Nat} : (heads B n k).set k (.slice (some ⟨B + 1 + k, 0, none⟩) n n) = heads B n (k + 1) := by
  apply List.ext_getElem
  · simp [heads]
  · intro i h1 h2
    rw [List.getElem_set]
    by_cases e : k = i
    · subst e; simp [heads]
    · have e' : (i < k) = (i < k + 1) := by rw [eq_iff_iff]; omega
      simp [heads, e, e']

/-- the table's first k rows, in the blocks behind B -/
structure Mat (w : World) (B n k : Nat) (R : Nat → Nat → Bool) : Prop where
  outer : Own w B 109 (heads B n k)
  inner : ∀ i, i < k → Own w (B + 1 + i) 4 (bz (R i) n)

section
variable {w w' : World} {B n k : Nat} {R S : Nat → Nat → Bool}
theorem Mat.grow (h : Mat w B n k R) (hb : Below w.heap.size w w') : Mat w' B n k R := ⟨h.outer.grow hb, fun i hi => (h.inner i hi).grow hb⟩
theorem Mat.alloc (h : Mat w B n k R) (o : Obj) : Mat (w.alloc o) B n k R := h.grow (below_alloc _ _)
theorem Mat.far (h : Mat w B n k R) {p : Addr} (hp : p.block < B ∨ B + 1 + k ≤ p.block) (u : Value) : Mat (w.setCell p u) B n k R :=
  ⟨h.outer.far (by omega) u, fun i hi => (h.inner i hi).far (by omega) u⟩
theorem Mat.congr (h : Mat w B n k R) (e : ∀ i j, i < k → j < n → R i j = S i j) : Mat w B n k S := ⟨h.outer, fun i hi => by rw [← bz_congr (e i · hi)]; exact h.inner i hi⟩
theorem Mat.head (h : Mat w B n k R) {i : Nat} (hi : i < k) (hn : k ≤ n) : w.cell? ⟨B, i, none⟩ = some (.slice (some ⟨B + 1 + i, 0, none⟩) n n) := by
  rw [h.outer.cell, heads_at (by omega), if_pos hi]
theorem Mat.cell (h : Mat w B n k R) {i j : Nat} (hi : i < k) (hj : j < n) : w.cell? ⟨B + 1 + i, j, none⟩ = some (.bool (R i j)) := by
  rw [(h.inner i hi).cell, bz_at hj]
theorem Mat.put (h : Mat w B n k R) {i j : Nat} (hi : i < k) (v : Bool) : Mat (w.setCell ⟨B + 1 + i, j, none⟩ (.bool v)) B n k (fun a b => if a = i ∧ b = j then v else R a b) := by
  refine ⟨h.outer.far (by simp; omega) _, fun a ha => ?_⟩
  by_cases e : a = i
  · subst e
    have := (h.inner a ha).set j (.bool v)
    rw [bz_set] at this
    rw [bz_congr (h := fun b => if b = j then v else R a b) (fun b _ => by simp)]
    exact this
  · have := (h.inner a ha).far (p := ⟨B + 1 + i, j, none⟩) (by simp; omega) (.bool v)
    rw [bz_congr (h := R a) (fun b _ => by simp [e])]
    exact this
end

theorem info_bool : (Try.prog.info? 4).map (fun i => (i.zero, i.size, i.bytes)) = some (some (.bool false), 1, 1) := by kernel_rfl
theorem info_bools : (Try.prog.info? 109).map (fun i => (i.zero, i.size, i.bytes)) = some (some (.slice none 0 0), 1, 24) := by kernel_rfl
theorem made_one {z : Value} (hz : z.cells = #[z]) (n : Nat) : madeCells z.cells (n * 1) = (List.replicate n z).toArray := by
  apply Array.ext
  · simp [madeCells]
  · intro i h1 h2
    simp [madeCells, hz, Nat.mod_one]
theorem make_bools (n : Nat) (hn : n ≤ 1048576) (W : World) : (Instr.makeSlice 109 (.int .i64 (n : Int)) (.int .i64 (n : Int))).run Try.prog W = .ok (.slice (some ⟨W.heap.size, 0, none⟩) n n) (W.alloc (.cells (bz (fun _ => false) n).toArray 4)) := by
  obtain ⟨i0, hi, hz0, hz1, hz2⟩ := info_parts info_bool
  have h := run_make (P := Try.prog) W 109 4 i0 (.bool false) Try.underlying109 hi hz0 .i64 .i64 n n (by omega) (by omega) (by rw [hz2]; omega) (by omega)
  rw [hz1, Int.toNat_natCast, made_one rfl, show List.replicate n (Value.bool false) = bz (fun _ => false) n by apply List.ext_getElem <;> simp [bz]] at h
  exact h
theorem make_table (n : Nat) (hn : n ≤ 1048576) (W : World) : (Instr.makeSlice 108 (.int .i64 (n : Int)) (.int .i64 (n : Int))).run Try.prog W = .ok (.slice (some ⟨W.heap.size, 0, none⟩) n n) (W.alloc (.cells (List.replicate n (.slice none 0 0)).toArray 109)) := by
  obtain ⟨i0, hi, hz0, hz1, hz2⟩ := info_parts info_bools
  have h := run_make (P := Try.prog) W 108 109 i0 (.slice none 0 0) Try.underlying108 hi hz0 .i64 .i64 n n (by omega) (by omega) (by rw [hz2]; omega) (by omega)
  rw [hz1, Int.toNat_natCast, made_one rfl] at h
  exact h
/-- a new row, its own place set, is the identity's -/
theorem new_row (k n : Nat) : (bz (fun _ => false) n).set k (.bool true) = bz (idR k) n := by
  rw [bz_set]
  refine bz_congr fun j _ => ?_
  by_cases e : j = k
  · subst e; simp [idR]
  · have : (k == j) = false := by rw [beq_eq_false_iff_ne]; omega
    simp [idR, e, this]
theorem cellStep_next (R : Nat → Nat → Bool) (k a b i j : Nat) : (if i = a ∧ j = b then stepR R k a b else cellStep R k a b i j) = cellStep R k a (b + 1) i j := by
  unfold cellStep
  by_cases h1 : i = a ∧ j = b
  · obtain ⟨rfl, rfl⟩ := h1
    simp
  · rw [if_neg h1]
    have e : (i < a ∨ i = a ∧ j < b) = (i < a ∨ i = a ∧ j < b + 1) := by
      rw [eq_iff_iff]; omega
    simp only [e]
theorem cellStep_row_end {R : Nat → Nat → Bool} {k a n i j : Nat} (hj : j < n) : cellStep R k a n i j = cellStep R k (a + 1) 0 i j := by
  unfold cellStep
  have e : (i < a ∨ i = a ∧ j < n) = (i < a + 1 ∨ i = a + 1 ∧ j < 0) := by rw [eq_iff_iff]; omega
  simp only [e]
theorem cellStep_end {R : Nat → Nat → Bool} {k n i j : Nat} (hi : i < n) : cellStep R k n 0 i j = stepR R k i j := by simp [cellStep, hi]

theorem relTo_put {es : List (Int × Int)} {k a b : Nat} (hk : k < es.length) (h1 : elo es k = (a : Int)) (h2 : ehi es k = (b : Int)) (i j : Nat) : (if i = a ∧ j = b then true else relTo es k i j) = relTo es (k + 1) i j := by
  rw [relTo_succ hk]
  have e1 : es[k].1 = (a : Int) := by rw [← h1]; simp [elo, hk]
  have e2 : es[k].2 = (b : Int) := by rw [← h2]; simp [ehi, hk]
  unfold addE
  rw [e1, e2, Int.toNat_natCast, Int.toNat_natCast]
  by_cases h : i = a ∧ j = b
  · rw [if_pos h, h.1, h.2]; simp
  · rw [if_neg h]
    have : (i == a && j == b) = false := by
      rw [Bool.and_eq_false_iff, beq_eq_false_iff_ne, beq_eq_false_iff_ne]; omega
    rw [this]; simp

theorem Mat.grownBy {w w' : World} {B n k : Nat} {R : Nat → Nat → Bool} {r : Option Nat} (h : Mat w B n k R) (hg : w.grownBy w' r) (hr : ∀ j, r = some j → B + 1 + k ≤ j) : Mat w' B n k R :=
  ⟨(hg.block B h.outer.lt (fun e => by have := hr B e.symm; omega)).trans h.outer, fun i hi => (hg.block _ (h.inner i hi).lt (fun e => by have := hr _ e.symm; omega)).trans (h.inner i hi)⟩
theorem pack_yes {g : Nat → Bool} {b : Nat} (h : g b = true) : pack g (b + 1) = pack g b + 2 ^ b := by simp [pack, h]
theorem pack_no {g : Nat → Bool} {b : Nat} (h : g b = false) : pack g (b + 1) = pack g b := by simp [pack, h]
theorem add_wrap {x y : Nat} (h : x + y < 18446744073709551616) : IntKind.u64.wrap ((x : Int) + (y : Int)) = ((x + y : Nat) : Int) := by
  simp only [IntKind.wrap, IntKind.bits, IntKind.signed]
  simp
  omega
theorem pack_wrap {g : Nat → Bool} {b : Nat} (h : g b = true) (hb : b < 16) : IntKind.u64.wrap ((pack g b : Int) + (2 : Int) ^ b) = ((pack g (b + 1) : Nat) : Int) := by
  have h1 := pack_lt g b
  have h2 : 2 ^ b ≤ 2 ^ 16 := Nat.pow_le_pow_right (by omega) (by omega)
  rw [pack_yes h, ← add_wrap (by omega)]
  simp
theorem us_take {xs : List Nat} {a : Nat} (h : a < xs.length) : us (xs.take (a + 1)) = us (xs.take a) ++ [.int .u64 (row xs a : Int)] := by
  rw [List.take_succ_eq_append_getElem h, row_at h]; simp [us]
theorem specLatOk_n (N : Int) (A : Option Addr) (n ca : Nat) (xs : List Nat) (w : World) (hx : xs.length = n) (hA : Rd w A (us xs)) (hu : U64 xs) (hn : n ≤ 1048576) :
    Calls Try.prog 56 #[.agg #[.int .i64 N, .slice A n ca]] w fun e w' => e = .returned (.bool (tf (LatP N xs))) ∧ Below w.heap.size w w' := by
  subst hx; exact specLatOk_any N A ca xs w hA hu hn

end Go.Proofs.Ytipcjofmplpffaa
