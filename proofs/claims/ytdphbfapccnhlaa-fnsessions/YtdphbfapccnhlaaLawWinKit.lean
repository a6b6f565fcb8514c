/-
  For the named laws of windows: laws.big, sameWins; what a session that holds a window answers.
-/
import Derived.Test.YtdphbfapccnhlaaSAddS
import Derived.Test.YtdphbfapccnhlaaSessAt
import Derived.Test.YtdphbfapccnhlaaLawSessAdd
namespace Go.Proofs.Ytdphbfapccnhlaa
open Go.RowKit

set_option maxHeartbeats 400000 in
theorem bigW_any (A : Option Addr) (n c : Nat) (b : Bool) (w : World) (hb : decide (1048576 < n) = b) (hn : n ≤ 9223372036854775807) :
    Calls Try.prog 13 #[.slice A n c] w fun e w' => e = .returned (.bool b) ∧ w = w' := by
  go_enter Try.func13, Try.ntmps13
  go_wp2
  go_ret
  exact ⟨ret_bool (by rw [← hb]; simp; omega), rfl⟩

set_option maxRecDepth 100000 in
set_option maxHeartbeats 1000000 in
theorem sameWins_same (A B : Option Addr) (n ca cb : Nat) (ws : List Wn) (w : World) (hA : Rd w A (ez ws)) (hB : Rd w B (ez ws)) (hz : ws.length = n) (hn : n ≤ 2097152) :
    Calls Try.prog 16 #[.slice A n ca, .slice B n cb] w fun e w' => e = .returned (.bool true) ∧ Below w.heap.size w w' := by
  have HA := Lib.hid hA
  have HB := Lib.hid hB
  have HZ := Lib.hid hz
  clear hA hB hz
  have hne : ((n : Int) != (n : Int)) = false := by simp
  go_enter Try.func16, Try.ntmps16
  go_wp2
  go_loopw [5] (fun i wr => ∃ k : Nat, k ≤ n ∧ i = .int .i64 k ∧ Below w.heap.size w wr) (fun i _ => n - (intOf i).toNat)
  case atStart => exact ⟨0, Nat.zero_le _, rfl, Below.refl _ _⟩
  case round =>
    obtain ⟨k, hk, rfl, hbel⟩ := hrel
    by_cases hlt : k < n
    · have hlm : k < ws.length := by rw [HZ.out]; exact hlt
      obtain ⟨ab, ao, rfl, a0, a1⟩ := win_cells HA.out hbel hlm
      obtain ⟨bb, bo, rfl, b0, b1⟩ := win_cells HB.out hbel hlm
      generalize wat ws k = q at *
      obtain ⟨y0, y1⟩ := q
      simp only at a0 a1 b0 b1
      go_wp2
      refine wp_region_bel (by kernel_rfl) (by kernel_rfl) ?_
      repeat (go_big_quiet_step (fail))
      refine wpQuiet_nil ?_
      rintro _ ⟨u, rfl⟩
      go_wp2
      go_roundw
      case rel => exact ⟨k + 1, by omega, by go_num, below_trans hbel u.ok⟩
      case measure => simp [intOf]; omega
    · go_wp2
      go_ret
      exact ⟨rfl, hbel⟩
/-- the session that holds a window: where SessAt finds it -/
theorem sessAt_within {rs : List Wn} {y : Wn} (hs : sessOk rs) (hy : y.1 < y.2) (h : Within y rs) : ∃ j : Nat, sessAt rs y.1 = (j : Int) ∧ j < rs.length ∧ (wat rs j).1 ≤ y.1 ∧ y.2 ≤ (wat rs j).2 := by
  obtain ⟨z, hz, h1, h2⟩ := h
  obtain ⟨j, hj, rfl⟩ := List.getElem_of_mem hz
  have e : wat rs j = rs[j] := by simp [wat, hj]
  refine ⟨j, ?_, hj, by rw [e]; exact h1, by rw [e]; exact h2⟩
  rw [sessAt_ok hs]
  refine firstOf_at ⟨hj, by rw [e]; exact ⟨h1, by omega⟩, fun i hi hin => ?_⟩
  have hp := List.pairwise_iff_getElem.1 (srt_of_sessTo hs.2).2 i j (by omega) hj hi
  have ei : wat rs i = rs[i]'(by omega) := by simp [wat, show i < rs.length by omega]
  rw [ei] at hin
  have := hin.2
  omega
theorem sessAt_time {rs : List Wn} {s t : Int} (hs : sessOk rs) (hp : 1 ≤ s) (h : Within (t, t + s) rs) : 0 ≤ sessAt rs t := by
  obtain ⟨j, e, _⟩ := sessAt_within hs (y := (t, t + s)) (by simp only; omega) h
  have e' : sessAt rs t = (j : Int) := e
  omega
end Go.Proofs.Ytdphbfapccnhlaa
