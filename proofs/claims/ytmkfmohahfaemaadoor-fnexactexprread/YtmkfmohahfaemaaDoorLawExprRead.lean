/-
  The law on ExprRead: at every string the program answers as the model, and its answer is memory of its own.
-/
import Derived.Test.YtmkfmohahfaemaaDoorExprRT
import Derived.Test.YtmkfmohahfaemaaDoorTokMark
namespace Go.Proofs.YtmkfmohahfaemaaDoor
open Go.RowKit

theorem read_fix (l : List UInt8) : ∃ (es : List (Int × Int)) (b : Bool), es.length ≤ 20 ∧ ∀ W e W', ReadRes l W e W' →
    ∃ v, e = .returned (.tuple #[v, .bool b]) ∧ W'.ownsRow W.heap.size 31 2 v es.length (ez es) ∧ Below W.heap.size W W' := by
  by_cases h : ∃ es, IsText l es
  · obtain ⟨es, ht⟩ := h
    refine ⟨es, true, depthOf_len ht.2.1, fun W e W' hr => ?_⟩
    rcases hr with ⟨es', v, ht', he, hrow, hb⟩ | ⟨hno, _⟩
    · obtain rfl : es = es' := (specToks_text ht).symm.trans (specToks_text ht')
      exact ⟨v, he, hrow, hb⟩
    · exact absurd ht (hno es)
  · refine ⟨[], false, by simp, fun W e W' hr => ?_⟩
    rcases hr with ⟨es', v, ht', _⟩ | ⟨_, he, hb⟩
    · exact absurd ⟨es', ht'⟩ h
    · exact ⟨_, he, ⟨by simp [ez], .inl ⟨rfl, rfl⟩⟩, hb⟩

set_option maxRecDepth 100000 in
set_option maxHeartbeats 2000000 in
theorem fnExactExprRead_walk (l : List UInt8) (w : World) (ht : Tabs w) (he : Errs w) :
    Calls Tryd.prog 6 #[.string ⟨l.toArray⟩] w fun e w' => e = .returned (.bool true) ∧ Below w.heap.size w w' := by
  have HZ := Lib.hid (show (⟨l.toArray⟩ : ByteArray).size = l.length by simp [ByteArray.size])
  by_cases hl : l.length ≤ 1048576
  · have h1 : ¬ ((⟨l.toArray⟩ : ByteArray).size : Int) > 1048576 := by rw [HZ.out]; omega
    obtain ⟨es, b, hlen, hfix⟩ := read_fix l
    have CS := Lib.hid (fun W => (specExprRead_any l hl W).mono (hfix W))
    have CI := Lib.hid (fun W (h : Below w.heap.size w W) => (implExprRead_any l hl W (ht.below h) (he.below h)).mono (hfix W))
    generalize (⟨l.toArray⟩ : ByteArray) = D at *
    generalize hm : es.length = m at hlen CS CI
    have HM := Lib.hid hm
    have tb : (b != b) = false := by simp
    clear hm hfix hl ht he
    go_enter Tryd.func6, Tryd.ntmps6
    go_wp2_with fail
    refine (CS.out _).mono ?_
    rintro e w1 ⟨v0, rfl, r0, hb1⟩
    replace r0 := RowAt.of r0
    obtain ⟨A0, cc0, rfl, _⟩ := r0.rd
    have s1 := hb1.size
    go_wp2_with fail
    refine (CI.out _ hb1).mono ?_
    rintro e w2 ⟨v1, rfl, r1, hb⟩
    replace r1 := RowAt.of r1
    obtain ⟨A1, cc1, rfl, _⟩ := r1.rd
    have hb2 := below_trans hb1 hb
    have s2 := hb.size
    replace r0 := r0.grow hb
    clear hb hb1
    go_wp2_with fail
    refine (eqTokS_same A1 A0 m cc1 cc0 es _ r1.reads r0.reads HM.out (by omega)).mono ?_
    rintro e w3 ⟨rfl, hb⟩
    have hb3 := below_trans hb2 hb
    have s3 := hb.size
    replace r0 := r0.grow hb
    replace r1 := r1.grow hb
    clear hb hb2
    go_wp2_with fail
    refine (markTokS_at (.slice A1 m cc1) _ _ m es 1 _ r1 (by omega) (by omega) HM.out (by omega)).mono ?_
    rintro e w4 ⟨rfl, r1m, hO⟩
    have hb4 := below_only hb3 hO (by omega) (by omega)
    have s4 := hO.size
    replace r0 := r0.move (hO.same (.inl (by omega)) (by omega))
    clear hO hb3 r1
    go_wp2_with fail
    refine (heldTokS_any A1 cc1 m 1 _ r1m.reads (by omega) (by omega) (by omega)).mono ?_
    rintro e w' ⟨rfl, rfl⟩
    have hne : ((1 + ((m * 2 : Nat) : Int)) != 1 + ((m * 2 : Nat) : Int)) = false := by simp
    go_wp2_with fail
    refine (CI.out _ hb4).mono ?_
    rintro e w5 ⟨v2, rfl, r2, hb⟩
    replace r2 := RowAt.of r2
    obtain ⟨A2, cc2, rfl, _⟩ := r2.rd
    have hb5 := below_trans hb4 hb
    replace r0 := r0.grow hb
    replace r1m := r1m.grow hb
    clear hb hb4
    go_wp2_with fail
    refine (eqTokS_same A2 A0 m cc2 cc0 es _ r2.reads r0.reads HM.out (by omega)).mono ?_
    rintro e w6 ⟨rfl, hb⟩
    have hb6 := below_trans hb5 hb
    replace r1m := r1m.grow hb
    clear hb hb5 r2 r0
    go_wp2_with fail
    refine (heldTokS_any A1 cc1 m 1 _ r1m.reads (by omega) (by omega) (by omega)).mono ?_
    rintro e w' ⟨rfl, rfl⟩
    go_wp2
    go_ret
    exact ⟨rfl, hb6⟩
  · have h1 : ((⟨l.toArray⟩ : ByteArray).size : Int) > 1048576 := by rw [HZ.out]; omega
    generalize (⟨l.toArray⟩ : ByteArray) = D at *
    go_enter Tryd.func6, Tryd.ntmps6
    go_wp2
    go_ret
    exact ⟨rfl, Below.refl _ _⟩
end Go.Proofs.YtmkfmohahfaemaaDoor
