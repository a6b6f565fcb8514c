/-
  The program's closure of a relation.
-/
import Derived.Test.YtipcjofmplpffaaLatFns
import Derived.Test.YtipcjofmplpffaaMathD
import Derived.Test.YtipcjofmplpffaaOnly
namespace Go.Proofs.Ytipcjofmplpffaa
open Go.RowKit

theorem us_row {xs : List Nat} {k : Nat} (h : k < xs.length) : (us xs)[k]? = some (.int .u64 (row xs k : Int)) := us_at h
theorem rowStep_row {R : Nat → Nat → Bool} {n k a : Nat} (ha : a < n) : row (rowsOf (rowStep R k a) n) a = pack (R a) n := by
  rw [rowsOf_row ha]; exact pack_congr fun i _ => by simp [rowStep]
theorem rowStep_key {R : Nat → Nat → Bool} {n k a : Nat} (hk : k < n) : row (rowsOf (rowStep R k a) n) k = pack (R k) n := by
  rw [rowsOf_row hk]
  refine pack_congr fun i _ => ?_
  unfold rowStep
  split
  · exact stepR_row R k i
  · rfl
end Go.Proofs.Ytipcjofmplpffaa
