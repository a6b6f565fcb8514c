/-
  The program's and the model's LatEnds.
-/
import Derived.Test.YtipcjofmplpffaaLatSpecD
import Derived.Test.YtipcjofmplpffaaMathB
import Derived.Deep.RegionHeld3
namespace Go.Proofs.Ytipcjofmplpffaa
open Go.RowKit

noncomputable def endV (N : Int) (xs : List Nat) (up : Bool) : Int := if tf (LatP N xs) = true then endOf xs up else -1
theorem endV_no {N : Int} {xs : List Nat} {up : Bool} (h : ¬ LatP N xs) : endV N xs up = -1 := by unfold endV; rw [← tf_no h]; rfl
theorem endV_yes {N : Int} {xs : List Nat} {up : Bool} (h : LatP N xs) : endV N xs up = endOf xs up := by unfold endV; rw [← tf_yes h]; rfl
theorem ret_two {k : IntKind} {a b c d : Int} (h : a = c) (h' : b = d) : Ending.returned (.tuple #[.int k a, .int k b]) = .returned (.tuple #[.int k c, .int k d]) := by rw [h, h']

set_option maxHeartbeats 1000000 in
theorem implLatEnds_any (N : Int) (A : Option Addr) (ca : Nat) (xs : List Nat) (w : World) (hA : Rd w A (us xs)) (hu : U64 xs) (hn : xs.length ≤ 1048576) :
    Calls Try.prog 24 #[.agg #[.int .i64 N, .slice A xs.length ca]] w fun e w' => e = .returned (.tuple #[.int .i64 (endV N xs false), .int .i64 (endV N xs true)]) ∧ Below w.heap.size w w' := by
  have HA := Lib.hid (fun W (h : Below w.heap.size w W) => hA.below h)
  clear hA
  by_cases hL : LatP N xs
  · obtain ⟨rfl, h1, h16⟩ := hL.len
    go_enter Try.func24, Try.ntmps24
    go_wp2_with fail
    refine (as_bool (tf_yes hL).symm (implLatOk_any _ A ca xs _ (HA.out _ (below_alloc _ _)) hu hn)).mono ?_
    have HL := Lib.hid hL
    clear hL
    rintro e w1 ⟨rfl, hb1⟩
    obtain ⟨ho1, hB1⟩ := box_own hb1
    clear hb1
    obtain ⟨c0, c1⟩ := ho1.two
    go_wp2_with fail
    refine (allLabels_any xs.length _ (by omega)).mono ?_
    rintro e w' ⟨rfl, rfl⟩
    have k1 : ∀ W, Below w1.heap.size w1 W → W.cell? ⟨w.heap.size, 1, none⟩ = some (.slice A xs.length ca) := fun W h => (ho1.grow h).two.2
    have HR := Lib.hid (fun W (h : Below w1.heap.size w1 W) => HA.out W (below_trans hB1 h))
    have hp : 2 ^ xs.length - 1 < 18446744073709551616 := by
      have : 2 ^ xs.length ≤ 2 ^ 16 := Nat.pow_le_pow_right (by omega) h16
      omega
    have HP := Lib.hid hp
    clear hp c0 c1 ho1
    go_wp2
    go_region_held3 (fun W => Below w1.heap.size w1 W) (first | exact (Below.refl _ _).drew | exact below_trans (by assumption) (by assumption) | assumption)
      (first
        | (go_at_call 66; refine (flipRows_at A ca xs _ (HR.out _ (by assumption)) hu h16).mono ?_; rintro e w6 ⟨g3, rfl, hR3, hb6⟩)
        | (go_at_call_of 65 (Value.slice A xs.length ca); refine (leastIn_any A ca xs (2 ^ xs.length - 1) _ (HR.out _ (by assumption)) hu HP.out (by omega)).mono ?_; rintro e w7 ⟨rfl, rfl⟩)
        | (go_at_call 65; refine (leastIn_flip _ xs.length xs (2 ^ xs.length - 1) _ hR3 HP.out (by omega)).mono ?_; rintro e w7 ⟨rfl, rfl⟩))
    all_goals
      have hb8 : Below w1.heap.size w1 w6 := by assumption
      go_wp2
      go_ret2
      refine ⟨ret_two ?_ ?_, below_trans hB1 hb8⟩
      · rw [endV_yes HL.out, least_all hu h16]
      · rw [endV_yes HL.out, ← flip_end, ← least_all (flip_u64 (by omega)) (by rw [flip_length]; exact h16), flip_length]
  · go_enter Try.func24, Try.ntmps24
    go_wp2_with fail
    refine (as_bool (tf_no hL).symm (implLatOk_any N A ca xs _ (HA.out _ (below_alloc _ _)) hu hn)).mono ?_
    have HL := Lib.hid hL
    clear hL
    rintro e w1 ⟨rfl, hb1⟩
    go_wp2
    go_ret2
    exact ⟨ret_two (endV_no HL.out).symm (endV_no HL.out).symm, (box_own hb1).2⟩

/-- lo is at or below, hi at or above, every label before k -/
def EndsTo (xs : List Nat) (k lo hi : Nat) : Prop := ∀ i, i < k → side xs false i lo = true ∧ side xs true i hi = true

theorem endsTo_one {N : Int} {xs : List Nat} (h : LatP N xs) (h0 : 0 < xs.length) : EndsTo xs 1 0 0 := fun i hi => by
  obtain rfl : i = 0 := by omega
  exact ⟨h.side_refl _ h0, h.side_refl _ h0⟩
theorem endsTo_next {N : Int} {xs : List Nat} (h : LatP N xs) {k lo hi lo' hi' : Nat} (hk : k < xs.length) (hlo : lo < xs.length) (hhi : hi < xs.length) (hlo' : lo' < xs.length) (hhi' : hi' < xs.length)
    (h1 : isB xs false lo k lo' = true) (h2 : isB xs true hi k hi' = true) (hE : EndsTo xs k lo hi) : EndsTo xs (k + 1) lo' hi' := fun i hi => by
  rcases Nat.lt_succ_iff_lt_or_eq.1 hi with e | e
  · exact ⟨h.side_trans (by omega) hlo hlo' (hE i e).1 (isB_iff.1 h1).1.1, h.side_trans (by omega) hhi hhi' (hE i e).2 (isB_iff.1 h2).1.1⟩
  · subst e
    exact ⟨(isB_iff.1 h1).1.2, (isB_iff.1 h2).1.2⟩

set_option maxHeartbeats 1000000 in
theorem specLatEnds_any (N : Int) (A : Option Addr) (ca : Nat) (xs : List Nat) (w : World) (hA : Rd w A (us xs)) (hu : U64 xs) (hn : xs.length ≤ 1048576) :
    Calls Try.prog 62 #[.agg #[.int .i64 N, .slice A xs.length ca]] w fun e w' => e = .returned (.tuple #[.int .i64 (endV N xs false), .int .i64 (endV N xs true)]) ∧ Below w.heap.size w w' := by
  have HA := Lib.hid (fun W (h : Below w.heap.size w W) => hA.below h)
  clear hA
  by_cases hL : LatP N xs
  · obtain ⟨rfl, h1, h16⟩ := hL.len
    go_enter Try.func62, Try.ntmps62
    go_wp2_with fail
    refine (as_bool (tf_yes hL).symm (specLatOk_any _ A ca xs _ (HA.out _ (below_alloc _ _)) hu hn)).mono ?_
    have HL := Lib.hid hL
    clear hL
    rintro e w1 ⟨rfl, hb1⟩
    obtain ⟨ho1, hB1⟩ := box_own hb1
    clear hb1
    go_wp2
    go_loopw [4, 5, 6] (fun l h i wr => ∃ k lo hi : Nat, 1 ≤ k ∧ k ≤ xs.length ∧ l = .int .i64 lo ∧ h = .int .i64 hi ∧ i = .int .i64 k ∧ lo < xs.length ∧ hi < xs.length ∧ Hid (EndsTo xs k lo hi) ∧ Own wr w.heap.size 26 [.int .i64 (xs.length : Int), .slice A xs.length ca] ∧ Below w.heap.size w wr) (fun _ _ i _ => xs.length - (intOf i).toNat)
    case atStart => exact ⟨1, 0, 0, Nat.le_refl _, h1, rfl, rfl, rfl, by omega, by omega, Lib.hid (endsTo_one HL.out (by omega)), ho1, hB1⟩
    case round =>
      clear ho1 hB1
      obtain ⟨k, lo, hi, hk1, hk, rfl, rfl, rfl, hlo, hhi, hE, hown, hbel⟩ := hrel
      obtain ⟨c0, c1⟩ := hown.two
      by_cases hlt : k < xs.length
      · obtain ⟨lo', hlo', elo, hBlo⟩ := HL.out.bound_ok false hlo hlt
        obtain ⟨hi', hhi', ehi, hBhi⟩ := HL.out.bound_ok true hhi hlt
        have HE := Lib.hid (endsTo_next HL.out hlt hlo hhi hlo' hhi' hBlo hBhi hE.out)
        have ELO := Lib.hid elo
        have EHI := Lib.hid ehi
        clear hBlo hBhi hE elo ehi
        go_wp2_with fail
        clear c0 c1
        refine (as_int ELO.out (l01Bound_any A ca xs lo k false _ (HA.out _ hbel) hu h16 hlo hlt)).mono ?_
        rintro e w2 ⟨rfl, hb2⟩
        have ho2 := hown.grow hb2
        have hB2 := below_trans hbel hb2
        clear hb2 hown hbel
        obtain ⟨c0, c1⟩ := ho2.two
        go_wp2_with fail
        clear c0 c1
        refine (as_int EHI.out (l01Bound_any A ca xs hi k true _ (HA.out _ hB2) hu h16 hhi hlt)).mono ?_
        rintro e w3 ⟨rfl, hb3⟩
        have ho3 := ho2.grow hb3
        have hB3 := below_trans hB2 hb3
        clear hb3 ho2 hB2
        go_wp2
        go_roundw
        case rel => exact ⟨k + 1, lo', hi', by omega, by omega, rfl, rfl, by go_num, hlo', hhi', HE, ho3, hB3⟩
        case measure => simp [intOf]; omega
      · go_wp2
        go_ret2
        have hkn : k = xs.length := by omega
        subst hkn
        refine ⟨ret_two ?_ ?_, hbel⟩
        · rw [endV_yes HL.out]; exact (HL.out.end_is hlo (isEnd_iff.2 (fun d hd => (hE.out d hd).1))).symm
        · rw [endV_yes HL.out]; exact (HL.out.end_is hhi (isEnd_iff.2 (fun d hd => (hE.out d hd).2))).symm
  · go_enter Try.func62, Try.ntmps62
    go_wp2_with fail
    refine (as_bool (tf_no hL).symm (specLatOk_any N A ca xs _ (HA.out _ (below_alloc _ _)) hu hn)).mono ?_
    have HL := Lib.hid hL
    clear hL
    rintro e w1 ⟨rfl, hb1⟩
    go_wp2
    go_ret2
    exact ⟨ret_two (endV_no HL.out).symm (endV_no HL.out).symm, (box_own hb1).2⟩
end Go.Proofs.Ytipcjofmplpffaa
