/-
  laws.same.
-/
import Derived.Test.YtkaghdkehkjdoaaIntsKit
namespace Go.Proofs.Ytkaghdkehkjdoaa
open Go.RowKit

set_option maxHeartbeats 400000 in
theorem same_any (A B : Option Addr) (ca cb : Nat) (xs ys : List Int) (w : World) (hA : Rd w A (iz xs)) (hB : Rd w B (iz ys)) (hn : xs.length < 4611686018427387904) (hm : ys.length < 4611686018427387904) :
    Calls Try.prog 21 #[.slice A xs.length ca, .slice B ys.length cb] w fun e w' => e = .returned (.bool (decide (xs = ys))) ∧ Below w.heap.size w w' := by
  by_cases hl : xs.length = ys.length
  · have hl1 : ((xs.length : Int) != (ys.length : Int)) = false := by simp [hl]
    have HL := Lib.hid hl
    clear hl
    go_enter Try.func21, Try.ntmps21
    go_wp2
    go_loopw [5] (fun i wr => ∃ k : Nat, k ≤ xs.length ∧ i = .int .i64 k ∧ Hid (xs.take k = ys.take k) ∧ Below w.heap.size w wr) (fun i _ => xs.length - (intOf i).toNat)
    case atStart => exact ⟨0, Nat.zero_le _, rfl, Lib.hid (by simp), Below.refl _ _⟩
    case round =>
      obtain ⟨k, hk, rfl, hpre, hbel⟩ := hrel
      by_cases hlt : k < xs.length
      · have hlt2 : k < ys.length := by rw [← HL.out]; exact hlt
        obtain ⟨ad, rfl, hb1, hc1⟩ := hA k _ (iz_at hlt)
        obtain ⟨bd, rfl, hb2, hc2⟩ := hB k _ (iz_at hlt2)
        have h1 : ∀ u : Bel wr, u.w.cell? (ad.add k) = some (.int .i64 (xs.getD k 0)) := fun u => ((below_trans hbel u.ok).cell (by rw [add_block]; exact hb1)).trans hc1
        have h2 : ∀ u : Bel wr, u.w.cell? (bd.add k) = some (.int .i64 (ys.getD k 0)) := fun u => ((below_trans hbel u.ok).cell (by rw [add_block]; exact hb2)).trans hc2
        clear hc1 hc2
        go_wp2
        refine wp_region_bel (by kernel_rfl) (by kernel_rfl) ?_
        repeat (go_big_quiet_step (fail))
        refine wpQuiet_nil ?_
        rintro _ ⟨u, rfl⟩
        by_cases heq : xs[k] = ys[k]
        · have hne : (xs[k] != ys[k]) = false := by simp [heq]
          have HE := Lib.hid heq
          clear heq
          go_wp2
          go_roundw
          case rel => exact ⟨k + 1, by omega, by go_num, Lib.hid (take_next hlt hlt2 hpre.out HE.out), below_trans hbel u.ok⟩
          case measure => simp [intOf]; omega
        · have hne : (xs[k] != ys[k]) = true := by rw [bne_iff_ne]; omega
          go_wp2
          go_ret
          exact ⟨ret_bool (by rw [eq_comm, decide_eq_false_iff_not]; rintro rfl; exact heq rfl), below_trans hbel u.ok⟩
      · go_wp2
        go_ret
        refine ⟨ret_bool ?_, hbel⟩
        have hp := hpre.out
        have hll := HL.out
        rw [List.take_of_length_le (by omega), List.take_of_length_le (by omega)] at hp
        simp [hp]
  · have hl1 : ((xs.length : Int) != (ys.length : Int)) = true := by rw [bne_iff_ne]; omega
    go_enter Try.func21, Try.ntmps21
    go_wp2
    go_ret
    exact ⟨ret_bool (by rw [eq_comm, decide_eq_false_iff_not]; rintro rfl; exact hl rfl), Below.refl _ _⟩

end Go.Proofs.Ytkaghdkehkjdoaa
