/-
  The decimal text of an integer.
-/
import Derived.Test.YtmkfmohahfaemaaDoorTextMath
namespace Go.Proofs.YtmkfmohahfaemaaDoor

theorem trimZ_le (l : List UInt8) : (trimZ l).length ≤ l.length := by
  induction l with
  | nil => simp [trimZ]
  | cons x l ih => simp only [trimZ]; split <;> simp <;> omega
theorem dec_len {g : Nat} (h : g < 10 ^ 39) (h0 : g ≠ 0) : (dec g).length ≤ 39 := by
  rw [← (trim_pad 39 g h).2 h0]
  have := trimZ_le (pad 39 g)
  rwa [pad_length] at this
def decS (x : Int) : List UInt8 := if x < 0 then 45 :: dec x.natAbs else dec x.natAbs

end Go.Proofs.YtmkfmohahfaemaaDoor
