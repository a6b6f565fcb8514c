/-
  Keys of maps that are structs of three integers: what such a key reads as.
-/
import Derived.Test.YtipcjofmplpffaaBase
import Derived.Maps.Keyed
namespace Go.Proofs.Ytipcjofmplpffaa
open Go.RowKit Go.WideMaps Go.Maps

/-- one integer cell as part of a key -/
def litOf : Value → Option (List Lit)
  | .int q n => if q = .i64 ∧ (Lit.int .i64 n).wf = true then some [.int .i64 n] else none
  | _ => none
theorem keyLits_int {P : Program} {e : TypeId} (he : P.underlying e = some (.int .i64)) (d : Nat) (v : Value) : P.keyLits (d + 1) e [v] = litOf v := by
  unfold Program.keyLits
  rw [he]
  cases v <;> simp [litOf]
theorem litOf_inv {v : Value} {ls : List Lit} (h : litOf v = some ls) : ∃ n, v = .int .i64 n ∧ (Lit.int .i64 n).wf = true ∧ ls = [.int .i64 n] := by
  cases v <;> simp [litOf] at h
  rename_i q n
  obtain ⟨⟨rfl, hw⟩, rfl⟩ := h
  exact ⟨n, rfl, hw, rfl⟩

theorem three_of {α : Type} {l : List α} (h : l.length = 3) : ∃ a b c, l = [a, b, c] := by
  match l, h with
  | [a, b, c], _ => exact ⟨a, b, c, rfl⟩

structure Key3 (P : Program) (k e : TypeId) (fs : Array Field) : Prop where
  hu : P.underlying k = some (.struct fs)
  he : P.underlying e = some (.int .i64)
  hk : P.keyType k = true
  hc : P.cellsOf k = 3
  h1 : P.cellsOf e = 1
  hn : fs.all (·.name != "_") = true
  hf : fs.toList.map (fun f => (f.type, f.offset)) = [(e, 0), (e, 1), (e, 2)]
  hs : 1 ≤ P.types.size

variable {P : Program} {k e : TypeId} {fs : Array Field}

theorem keyLits_three (K : Key3 P k e fs) (x y z : Value) :
    P.keyLits (P.types.size + 1) k [x, y, z] = (litOf x).bind fun a => (litOf y).bind fun b => (litOf z).bind fun c => some (a ++ b ++ c) := by
  obtain ⟨m, hm⟩ : ∃ m, P.types.size = m + 1 := ⟨P.types.size - 1, by have := K.hs; omega⟩
  unfold Program.keyLits
  simp only [K.hu]
  rw [if_pos ⟨by rw [K.hc]; rfl, K.hn⟩, hm]
  have hf := K.hf
  obtain ⟨f0, f1, f2, e3⟩ := three_of (l := fs.toList) (by have := congrArg List.length hf; rwa [List.length_map] at this)
  rw [e3] at hf ⊢
  simp only [List.map_cons, List.map_nil, List.cons.injEq, Prod.mk.injEq, and_true] at hf
  obtain ⟨⟨t0, o0⟩, ⟨t1, o1⟩, t2, o2⟩ := hf
  rw [List.mapM_cons, List.mapM_cons, List.mapM_cons, List.mapM_nil]
  simp only [t0, t1, t2, o0, o1, o2, K.h1, List.drop_zero, List.drop_succ_cons, List.take_succ_cons, List.take_zero, keyLits_int K.he]
  cases litOf x <;> cases litOf y <;> cases litOf z <;> simp

theorem keyOf_three (K : Key3 P k e fs) {a b c : Int} (ha : (Lit.int .i64 a).wf = true) (hb : (Lit.int .i64 b).wf = true) (hc : (Lit.int .i64 c).wf = true) :
    keyOf P k (.agg #[.int .i64 a, .int .i64 b, .int .i64 c]) = some (.string (keyBytes [.int .i64 a, .int .i64 b, .int .i64 c])) := by
  unfold keyOf
  simp only [K.hu]
  rw [if_pos (by rw [K.hk]; simp [Value.formed, K.hu, K.hc])]
  simp only [Value.cells]
  rw [keyLits_three K]
  simp [litOf, ha, hb, hc]

theorem keyOf_three_inv (K : Key3 P k e fs) {v : Value} {l : Lit} (h : keyOf P k v = some l) :
    ∃ a b c : Int, v = .agg #[.int .i64 a, .int .i64 b, .int .i64 c] ∧ ((Lit.int .i64 a).wf = true ∧ (Lit.int .i64 b).wf = true ∧ (Lit.int .i64 c).wf = true) ∧ l = .string (keyBytes [.int .i64 a, .int .i64 b, .int .i64 c]) := by
  unfold keyOf at h
  simp only [K.hu] at h
  split at h
  · rename_i hc
    simp only [Bool.and_eq_true] at hc
    obtain ⟨_, hf⟩ := hc
    cases v <;> simp [Value.formed, K.hu] at hf
    rename_i cs
    rw [K.hc] at hf
    obtain ⟨cs⟩ := cs
    obtain ⟨x, y, z, rfl⟩ := three_of (l := cs) (by simpa using hf)
    · simp only [Value.cells] at h
      rw [keyLits_three K] at h
      cases hx : litOf x with
      | none => simp [hx] at h
      | some u =>
        cases hy : litOf y with
        | none => simp [hx, hy] at h
        | some v =>
          cases hz : litOf z with
          | none => simp [hx, hy, hz] at h
          | some t =>
            simp [hx, hy, hz] at h
            obtain ⟨a, rfl, wa, rfl⟩ := litOf_inv hx
            obtain ⟨b, rfl, wb, rfl⟩ := litOf_inv hy
            obtain ⟨c, rfl, wc, rfl⟩ := litOf_inv hz
            exact ⟨a, b, c, rfl, ⟨wa, wb, wc⟩, h.symm⟩
  · cases h
end Go.Proofs.Ytipcjofmplpffaa
