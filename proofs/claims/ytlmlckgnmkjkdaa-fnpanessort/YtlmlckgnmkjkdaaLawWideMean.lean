/-
  The law on WideMean: at every number and count the program answers as the model.
-/
import Derived.Test.YtlmlckgnmkjkdaaWideMeanB
import Derived.Test.YtlmlckgnmkjkdaaWideT
namespace Go.Proofs.Ytlmlckgnmkjkdaa
open Go.RowKit

/-- What WideMean hands back: the floor of the quotient, where the count is in range and it is an int. -/
theorem mean_both (ah al x n : Int) (hx : Wr x) (e1 : ah = hi x) (e2 : al = lo x) : ∃ m ok,
    (∀ W, Calls Try.prog 129 #[.agg #[.int .i64 ah, .int .u64 al], .int .i64 n] W (IntRes W m ok)) ∧
    (∀ W, Calls Try.prog 108 #[.agg #[.int .i64 ah, .int .u64 al], .int .i64 n] W (IntRes W m ok)) ∧
    (ok = true → 1 ≤ n ∧ n ≤ 1000000 ∧ m = x / n ∧ I64 m) ∧ (ok = false → m = 0) := by
  by_cases hn : 1 ≤ n ∧ n ≤ 1000000
  · obtain ⟨hn1, hn2⟩ := hn
    obtain ⟨N, rfl⟩ := Int.eq_ofNat_of_zero_le (show 0 ≤ n by omega)
    have hw : Wr (x / N) := by
      have h1 : -170141183460469231731687303715884105728 ≤ x / (N : Int) := by
        rw [Int.le_ediv_iff_mul_le (by omega)]
        unfold Wr at hx; omega
      have h2 : x / (N : Int) ≤ 170141183460469231731687303715884105727 := by
        have : x / (N : Int) < 170141183460469231731687303715884105728 := by
          rw [Int.ediv_lt_iff_lt_mul (by omega)]
          unfold Wr at hx; omega
        omega
      exact ⟨h1, h2⟩
    by_cases h : I64 (x / N)
    · refine ⟨x / N, true, fun W => implWideMean_yes ah al x N W hn1 hn2 hx e1 e2 h, fun W => ?_, fun _ => ⟨hn1, hn2, rfl, h⟩, (fun h => by cases h)⟩
      have hI : ∀ W, Calls Try.prog 107 #[.agg #[.int .i64 (hi (x / N)), .int .u64 (lo (x / N))]] W (IntRes W (x / N) true) := fun W => specWideInt_yes _ _ (x / N) W h rfl rfl
      by_cases h0 : x < 0
      · exact specWideMean_neg ah al x N W _ _ (by omega) (by omega) hx h0 e1 e2 hI
      · exact specWideMean_pos ah al x N W _ _ (by omega) (by omega) hx (by omega) e1 e2 hI
    · refine ⟨0, false, fun W => implWideMean_no ah al x N W hn1 hn2 hx e1 e2 h, fun W => ?_, (fun h => by cases h), fun _ => rfl⟩
      have hI : ∀ W, Calls Try.prog 107 #[.agg #[.int .i64 (hi (x / N)), .int .u64 (lo (x / N))]] W (IntRes W 0 false) := fun W => specWideInt_no _ _ (x / N) W hw h rfl rfl
      by_cases h0 : x < 0
      · exact specWideMean_neg ah al x N W _ _ (by omega) (by omega) hx h0 e1 e2 hI
      · exact specWideMean_pos ah al x N W _ _ (by omega) (by omega) hx (by omega) e1 e2 hI
  · exact ⟨0, false, fun W => implWideMean_bad ah al n W hn, fun W => specWideMean_bad ah al n W hn, (fun h => by cases h), fun _ => rfl⟩

end Go.Proofs.Ytlmlckgnmkjkdaa
