/-
  strings.Split at a blank.
-/
import Derived.Test.YtmkfmohahfaemaaDoorExprRJ
namespace Go.Proofs.YtmkfmohahfaemaaDoor
open Go.RowKit Go.Sort

theorem byteIx_none {l : List UInt8} {c : UInt8} (h : Lib.indexByte l c = -1) : c ∉ l := by
  induction l with
  | nil => simp
  | cons b l ih =>
    unfold Lib.indexByte at h
    split at h
    · omega
    · rename_i hb
      split at h
      · rename_i h1
        intro hm
        rcases List.mem_cons.1 hm with rfl | hm
        · simp at hb
        · exact ih (by simpa using h1) hm
      · have := Lib.indexByte_ge l c
        rename_i h1
        have : Lib.indexByte l c ≠ -1 := by simpa using h1
        omega
theorem byteIx_some {l : List UInt8} {c : UInt8} {i : Nat} (h : Lib.indexByte l c = i) : l = l.take i ++ c :: l.drop (i + 1) ∧ c ∉ l.take i := by
  induction l generalizing i with
  | nil => simp [Lib.indexByte] at h
  | cons b l ih =>
    unfold Lib.indexByte at h
    split at h
    · rename_i hb
      obtain rfl : i = 0 := by omega
      have : b = c := by simpa using hb
      simp [this]
    · rename_i hb
      split at h
      · omega
      · rename_i h1
        have hge := Lib.indexByte_ge l c
        have hne : Lib.indexByte l c ≠ -1 := by simpa using h1
        obtain ⟨k, rfl⟩ : ∃ k, i = k + 1 := ⟨i - 1, by omega⟩
        obtain ⟨h1, h2⟩ := ih (i := k) (by omega)
        refine ⟨by rw [List.take_succ_cons, List.drop_succ_cons, List.cons_append, ← h1], ?_⟩
        rw [List.take_succ_cons]
        intro hm
        rcases List.mem_cons.1 hm with rfl | hm
        · simp at hb
        · exact h2 hm

def blank : ByteArray := ⟨#[32]⟩
theorem ix_blank (s : ByteArray) : Lib.indexB s blank = Lib.indexByte s.data.toList 32 := by
  show Lib.index s.data.toList blank.data.toList = _
  exact Lib.index_one s.data.toList 32
theorem split_cut : ∀ (k : Nat) (s : ByteArray), Lib.countB s blank = k → (Lib.splitB blank 0 k s).map (·.data.toList) = cutW s.data.toList
  | 0, s, hk => by
    rcases Lib.indexB_cases s blank with hix | ⟨i, hix, _⟩
    · rw [Lib.splitB_zero, cutW_none (byteIx_none (by rw [← ix_blank]; exact hix))]; rfl
    · have := Lib.countB_hit s blank i (by decide) hix; omega
  | k + 1, s, hk => by
    rcases Lib.indexB_cases s blank with hix | ⟨i, hix, _⟩
    · rw [Lib.countB_miss s blank hix] at hk; omega
    · have hc := Lib.countB_hit s blank i (by decide) hix
      rw [Lib.splitB_hit blank 0 k s i hix, List.map_cons, split_cut k _ (by omega)]
      obtain ⟨h1, h2⟩ := byteIx_some (by rw [← ix_blank]; exact hix)
      rw [Lib.extract_from_zero, Lib.extract_to_end, Nat.add_zero]
      have : i + blank.size = i + 1 := rfl
      rw [this]
      conv => rhs; rw [h1]
      rw [cutW_app h2]
end Go.Proofs.YtmkfmohahfaemaaDoor
