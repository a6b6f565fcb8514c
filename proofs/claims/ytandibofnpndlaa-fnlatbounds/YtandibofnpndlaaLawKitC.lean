/-
  The laws' helpers again, in the words of ranges of blocks.
-/
import Derived.Test.YtandibofnpndlaaLawKitB
import Derived.Test.YtandibofnpndlaaHold
namespace Go.Proofs.Ytandibofnpndlaa
open Go.RowKit

theorem toLat_at (N : Int) (A : Option Addr) (ca : Nat) (xs : List Nat) (w : World) (hA : Rd w A (us xs)) (hn : xs.length ≤ 1048576) :
    Calls Try.prog 44 #[.agg #[.int .i64 N, .slice A xs.length ca]] w fun e w' => ∃ g, e = .returned (.agg #[.int .i64 N, .slice (some ⟨g, 0, none⟩) xs.length xs.length]) ∧
      RowAt w.heap.size w'.heap.size w' 67 1 (.slice (some ⟨g, 0, none⟩) xs.length xs.length) xs.length (us xs) ∧ Below w.heap.size w w' :=
  (toLat_any N A ca xs w hA hn).mono fun _ _ ⟨g, he, hg, hown, hb⟩ => ⟨g, he, hown.rowAt hg (us_length xs) hn, hb⟩

theorem markIntS_at (v : Value) (lo hi n : Nat) (zs : List Int) (k : Int) (w : World) (hr : RowAt lo hi w 3 1 v n (iz zs)) (h0 : 0 ≤ k) (h1 : k ≤ 4611686018427387904) (hl : zs.length = n) (hn : n ≤ 1048576) :
    Calls Try.prog 48 #[v, .int .i64 k] w fun e w' => e = .returned (.int .i64 (k + n)) ∧ RowAt lo hi w' 3 1 v n (iz (marks k n)) ∧ Only lo hi w w' := by
  subst hl
  exact (markIntS_any v lo zs k w hr.1 h0 h1 hn).mono fun _ _ ⟨he, ho, hg⟩ => ⟨he, ⟨ho, hr.2⟩, Only.of_row hr hg⟩

theorem markLat_at (N : Int) (g lo hi : Nat) (xs : List Nat) (k : Int) (w : World) (hr : RowAt lo hi w 67 1 (.slice (some ⟨g, 0, none⟩) xs.length xs.length) xs.length (us xs)) (h0 : 0 ≤ k) (h1 : k ≤ 4611686018427387904) (hn : xs.length ≤ 1048576) :
    Calls Try.prog 41 #[.agg #[.int .i64 N, .slice (some ⟨g, 0, none⟩) xs.length xs.length], .int .i64 k] w fun e w' => e = .returned (.int .i64 (k + xs.length)) ∧
      RowAt lo hi w' 67 1 (.slice (some ⟨g, 0, none⟩) xs.length xs.length) xs.length (uz (marks k xs.length)) ∧ Only lo hi w w' :=
  (markLat_any N g lo xs k w hr.1 h0 h1 hn).mono fun _ _ ⟨he, ho, hg⟩ => ⟨he, ⟨ho, hr.2⟩, Only.of_row hr hg⟩

/-- rows of integers that hold the same -/
theorem eqIntS_same (A B : Option Addr) (n ca cb : Nat) (zs : List Int) (w : World) (hA : Rd w A (iz zs)) (hB : Rd w B (iz zs)) (hl : zs.length = n) (hn : n ≤ 1048576) :
    Calls Try.prog 47 #[.slice A n ca, .slice B n cb] w fun e w' => e = .returned (.bool true) ∧ Below w.heap.size w w' := by
  subst hl
  exact as_bool (decide_eq_true rfl) (eqIntS_any A B ca cb zs zs w hA hB (by omega) (by omega))

end Go.Proofs.Ytandibofnpndlaa
