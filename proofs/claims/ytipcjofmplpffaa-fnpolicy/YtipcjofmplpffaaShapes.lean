/-
  The six lattices that are drawn.
-/
import Derived.Test.YtipcjofmplpffaaLatOfD
namespace Go.Proofs.Ytipcjofmplpffaa
open Go.RowKit

def shape : Nat → List (Int × Int)
  | 0 => []
  | 1 => [(0, 1)]
  | 2 => [(0, 1), (1, 2)]
  | 3 => [(0, 1), (0, 2), (1, 3), (2, 3)]
  | 4 => [(4, 0), (4, 1), (4, 2), (0, 3), (1, 3), (2, 3)]
  | _ => [(0, 1), (0, 2), (0, 3), (1, 4), (2, 4), (1, 5), (3, 5), (2, 6), (3, 6), (4, 7), (5, 7), (6, 7)]
def shapeN : Nat → Nat
  | 0 => 1
  | 1 => 2
  | 2 => 3
  | 3 => 4
  | 4 => 5
  | _ => 8
def shapeRows : Nat → List Nat
  | 0 => [1]
  | 1 => [3, 2]
  | 2 => [7, 6, 4]
  | 3 => [15, 10, 12, 8]
  | 4 => [9, 10, 12, 8, 31]
  | _ => [255, 178, 212, 232, 144, 160, 192, 128]

theorem shape_rows (k : Nat) (h : k < 6) : ofRows (shapeN k) (shape k) = shapeRows k := by
  match k, h with
  | 0, _ => decide +kernel
  | 1, _ => decide +kernel
  | 2, _ => decide +kernel
  | 3, _ => decide +kernel
  | 4, _ => decide +kernel
  | 5, _ => decide +kernel

def latB (xs : List Nat) : Bool :=
  decide (∀ a, a < xs.length → row xs a < 2 ^ xs.length) &&
  decide (∀ a, a < xs.length → le xs a a = true ∧ ∀ b, b < xs.length → (a ≠ b → le xs a b = true → le xs b a = false) ∧ ∀ c, c < xs.length → le xs a b = true → le xs b c = true → le xs a c = true) &&
  decide (∀ a, a < xs.length → ∀ b, b < a → 0 ≤ bound xs true a b) && decide (∀ a, a < xs.length → ∀ b, b < a → 0 ≤ bound xs false a b)
theorem latB_ok (k : Nat) (h : k < 6) : latB (shapeRows k) = true := by
  match k, h with
  | 0, _ => decide +kernel
  | 1, _ => decide +kernel
  | 2, _ => decide +kernel
  | 3, _ => decide +kernel
  | 4, _ => decide +kernel
  | 5, _ => decide +kernel

theorem shape_len (k : Nat) (h : k < 6) : 1 ≤ shapeN k ∧ shapeN k ≤ 8 ∧ (shape k).length ≤ 12 ∧ (shapeRows k).length = shapeN k := by
  match k, h with
  | 0, _ | 1, _ | 2, _ | 3, _ | 4, _ | 5, _ => decide
theorem shape_labels (k : Nat) (h : k < 6) : ∀ i, i < (shape k).length → (0 ≤ elo (shape k) i ∧ elo (shape k) i < (shapeN k : Int)) ∧ (0 ≤ ehi (shape k) i ∧ ehi (shape k) i < (shapeN k : Int)) := by
  match k, h with
  | 0, _ | 1, _ | 2, _ | 3, _ | 4, _ | 5, _ => decide +kernel
theorem shape_lat (k : Nat) (h : k < 6) : LatP (shapeN k) (shapeRows k) := by
  obtain ⟨h1, h2, _, h4⟩ := shape_len k h
  have hb := latB_ok k h
  simp only [latB, Bool.and_eq_true, decide_eq_true_eq] at hb
  exact ⟨⟨by omega, by omega, by omega⟩, hb.1.1.1, hb.1.1.2, hb.1.2, hb.2⟩
theorem shape_ok (k : Nat) (h : k < 6) : OfOk (shapeN k) (shape k) := by
  obtain ⟨h1, h2, h3, h4⟩ := shape_len k h
  refine ⟨⟨by omega, by omega, by omega⟩, ?_, ?_⟩
  · rw [Int.toNat_natCast]; exact shape_labels k h
  · rw [Int.toNat_natCast, shape_rows k h]; exact shape_lat k h

end Go.Proofs.Ytipcjofmplpffaa
