/-
  The laws' helpers again, in the words of ranges of blocks.
-/
import Derived.Test.YtipcjofmplpffaaLawKitB
import Derived.Test.YtipcjofmplpffaaHold
namespace Go.Proofs.Ytipcjofmplpffaa
open Go.RowKit

theorem toLat_at (N : Int) (A : Option Addr) (ca : Nat) (xs : List Nat) (w : World) (hA : Rd w A (us xs)) (hn : xs.length ≤ 1048576) :
    Calls Try.prog 27 #[.agg #[.int .i64 N, .slice A xs.length ca]] w fun e w' => ∃ g, e = .returned (.agg #[.int .i64 N, .slice (some ⟨g, 0, none⟩) xs.length xs.length]) ∧
      RowAt w.heap.size w'.heap.size w' 81 1 (.slice (some ⟨g, 0, none⟩) xs.length xs.length) xs.length (us xs) ∧ Below w.heap.size w w' :=
  (toLat_any N A ca xs w hA hn).mono fun _ _ ⟨g, he, hg, hown, hb⟩ => ⟨g, he, hown.rowAt hg (us_length xs) hn, hb⟩

theorem markLat_at (N : Int) (g lo hi : Nat) (xs : List Nat) (k : Int) (w : World) (hr : RowAt lo hi w 81 1 (.slice (some ⟨g, 0, none⟩) xs.length xs.length) xs.length (us xs)) (h0 : 0 ≤ k) (h1 : k ≤ 4611686018427387904) (hn : xs.length ≤ 1048576) :
    Calls Try.prog 35 #[.agg #[.int .i64 N, .slice (some ⟨g, 0, none⟩) xs.length xs.length], .int .i64 k] w fun e w' => e = .returned (.int .i64 (k + xs.length)) ∧
      RowAt lo hi w' 81 1 (.slice (some ⟨g, 0, none⟩) xs.length xs.length) xs.length (uz (marks k xs.length)) ∧ Only lo hi w w' :=
  (markLat_any N g lo xs k w hr.1 h0 h1 hn).mono fun _ _ ⟨he, ho, hg⟩ => ⟨he, ⟨ho, hr.2⟩, Only.of_row hr hg⟩

end Go.Proofs.Ytipcjofmplpffaa
