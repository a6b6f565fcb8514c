/-
  SessOk, the model's and the program's: what they return.
-/
import Derived.Test.YtdphbfapccnhlaaWinS
namespace Go.Proofs.Ytdphbfapccnhlaa
open Go.RowKit

theorem l06Win_is {a b : Int} {B : Bool} (h : tf (winOk (a, b)) = B) (w : World) :
    Calls Try.prog 60 #[.agg #[.int .i64 a, .int .i64 b]] w fun e w' => e = .returned (.bool B) ∧ Below w.heap.size w w' := as_bool h (l06Win_any a b w)
theorem isWin_is {a b : Int} {B : Bool} (h : tf (winOk (a, b)) = B) (w : World) :
    Calls Try.prog 57 #[.agg #[.int .i64 a, .int .i64 b]] w fun e w' => e = .returned (.bool B) ∧ Below w.heap.size w w' := as_bool h (isWin_any a b w)
/-- the cells of window k, in every world grown from wr -/
theorem win_cells {w wr : World} {A : Option Addr} {ws : List Wn} (h : Rd w A (ez ws)) (hbel : Below w.heap.size w wr) {k : Nat} (hk : k < ws.length) :
    ∃ b off, A = some ⟨b, off, none⟩ ∧ (∀ u : Bel wr, u.w.cell? ⟨b, off + k * 2, none⟩ = some (.int .i64 (wat ws k).1)) ∧ (∀ u : Bel wr, u.w.cell? ⟨b, off + k * 2 + 1, none⟩ = some (.int .i64 (wat ws k).2)) := by
  obtain ⟨b, off, rfl, hc⟩ := h.edge hk
  exact ⟨b, off, rfl, fun u => (hc _ (below_trans hbel u.ok)).1, fun u => (hc _ (below_trans hbel u.ok)).2⟩
theorem box_win {wr : World} {a b : Int} {t : TypeId} (u : Bel (wr.alloc (.cells #[.int .i64 a, .int .i64 b] t))) : u.w.cell? ⟨wr.heap.size, 0, none⟩ = some (.int .i64 a) ∧ u.w.cell? ⟨wr.heap.size, 1, none⟩ = some (.int .i64 b) :=
  ((Own.new wr t [.int .i64 a, .int .i64 b]).grow u.ok).two

set_option maxRecDepth 100000 in
set_option maxHeartbeats 2000000 in
theorem specSessOk_any (A : Option Addr) (n ca : Nat) (ws : List Wn) (w : World) (hA : Rd w A (ez ws)) (hz : ws.length = n) (hn : n ≤ 2097152) :
    Calls Try.prog 28 #[.slice A n ca] w fun e w' => e = .returned (.bool (tf (sessOk ws))) ∧ Below w.heap.size w w' := by
  have HA := Lib.hid hA
  have HZ := Lib.hid hz
  clear hA hz
  by_cases h3 : n ≤ 300
  · go_enter Try.func28, Try.ntmps28
    go_wp2
    go_loopw [3] (fun i wr => ∃ k : Nat, k ≤ n ∧ i = .int .i64 k ∧ Hid (sessTo ws k) ∧ Below w.heap.size w wr) (fun i _ => n - (intOf i).toNat)
    case atStart => exact ⟨0, Nat.zero_le _, rfl, Lib.hid fun i hi => by omega, Below.refl _ _⟩
    case round =>
      obtain ⟨k, hk, rfl, HT, hbel⟩ := hrel
      by_cases hlt : k < n
      · have hlm : k < ws.length := by rw [HZ.out]; exact hlt
        obtain ⟨b, off, rfl, c0, c1⟩ := win_cells HA.out hbel hlm
        by_cases h1 : winOk (wat ws k)
        · by_cases hk0 : 0 < k
          · obtain ⟨j, rfl⟩ : ∃ j, k = j + 1 := ⟨k - 1, by omega⟩
            by_cases h2 : (wat ws (j + 1)).1 < (wat ws j).2
            · have HS := Lib.hid (sess_no3 hlm hk0 (by simpa using h2))
              have H1 := Lib.hid (tf_yes h1).symm
              clear h1 HT
              generalize hq : wat ws (j + 1) = q at *
              obtain ⟨q0, q1⟩ := q
              clear hq
              obtain ⟨b', off', e', d0, d1⟩ := win_cells HA.out hbel (k := j) (by omega)
              obtain ⟨rfl, rfl⟩ : b = b' ∧ off = off' := by injection e' with e'; injection e' with e1 e2; exact ⟨e1, e2⟩
              clear e' d0
              generalize wat ws j = p at *
              obtain ⟨r0, r1⟩ := p
              simp only at h2
              go_wp2
              refine wp_region_bel (by kernel_rfl) (by kernel_rfl) ?_
              repeat (go_big_quiet_step ((go_at_call 60; exact bel_of _ (l06Win_is H1.out _))))
              refine wpQuiet_nil ?_
              rintro _ ⟨u, rfl⟩
              go_wp2
              go_ret
              exact ⟨ret_bool (tf_no HS.out), below_trans hbel u.ok⟩
            · have HS := Lib.hid (sessTo_succ HT.out h1 (fun _ => by simpa using h2))
              have H1 := Lib.hid (tf_yes h1).symm
              clear h1 HT
              generalize hq : wat ws (j + 1) = q at *
              obtain ⟨q0, q1⟩ := q
              clear hq
              obtain ⟨b', off', e', d0, d1⟩ := win_cells HA.out hbel (k := j) (by omega)
              obtain ⟨rfl, rfl⟩ : b = b' ∧ off = off' := by injection e' with e'; injection e' with e1 e2; exact ⟨e1, e2⟩
              clear e' d0
              generalize wat ws j = p at *
              obtain ⟨r0, r1⟩ := p
              simp only at h2
              go_wp2
              refine wp_region_bel (by kernel_rfl) (by kernel_rfl) ?_
              repeat (go_big_quiet_step ((go_at_call 60; exact bel_of _ (l06Win_is H1.out _))))
              refine wpQuiet_nil ?_
              rintro _ ⟨u, rfl⟩
              go_wp2
              go_roundw
              case rel => exact ⟨j + 1 + 1, by omega, by go_num, HS, below_trans hbel u.ok⟩
              case measure => simp [intOf]; omega
          · obtain rfl : k = 0 := by omega
            simp only [Nat.zero_mul, Nat.add_zero] at c0 c1
            have HS := Lib.hid (sessTo_succ HT.out h1 (fun h => by omega))
            have H1 := Lib.hid (tf_yes h1).symm
            clear h1 HT
            generalize wat ws 0 = q at *
            obtain ⟨q0, q1⟩ := q
            go_wp2
            refine wp_region_bel (by kernel_rfl) (by kernel_rfl) ?_
            repeat (go_big_quiet_step ((go_at_call 60; exact bel_of _ (l06Win_is H1.out _))))
            refine wpQuiet_nil ?_
            rintro _ ⟨u, rfl⟩
            go_wp2
            go_roundw
            case rel => exact ⟨0 + 1, by omega, by go_num, HS, below_trans hbel u.ok⟩
            case measure => simp [intOf]; omega
        · have HS := Lib.hid (sess_no2 hlm h1)
          have H1 := Lib.hid (tf_no h1).symm
          clear h1 HT
          generalize wat ws k = q at *
          obtain ⟨q0, q1⟩ := q
          go_wp2
          refine wp_region_bel (by kernel_rfl) (by kernel_rfl) ?_
          repeat (go_big_quiet_step ((go_at_call 60; exact bel_of _ (l06Win_is H1.out _))))
          refine wpQuiet_nil ?_
          rintro _ ⟨u, rfl⟩
          go_wp2
          go_ret
          exact ⟨ret_bool (tf_no HS.out), below_trans hbel u.ok⟩
      · have HS := Lib.hid (show sessOk ws from ⟨by rw [HZ.out]; exact h3, by have h := HT.out; rw [show k = ws.length by rw [HZ.out]; omega] at h; exact h⟩)
        go_wp2
        go_ret
        exact ⟨ret_bool (tf_yes HS.out), hbel⟩
  · go_enter Try.func28, Try.ntmps28
    go_wp2
    go_ret
    exact ⟨ret_bool (tf_no (sess_no1 (by rw [HZ.out]; exact h3))), Below.refl _ _⟩
set_option maxRecDepth 100000 in
set_option maxHeartbeats 2000000 in
theorem implSessOk_any (A : Option Addr) (n ca : Nat) (ws : List Wn) (w : World) (hA : Rd w A (ez ws)) (hz : ws.length = n) (hn : n ≤ 2097152) :
    Calls Try.prog 24 #[.slice A n ca] w fun e w' => e = .returned (.bool (tf (sessOk ws))) ∧ Below w.heap.size w w' := by
  have HA := Lib.hid hA
  have HZ := Lib.hid hz
  clear hA hz
  by_cases h3 : n ≤ 300
  · go_enter Try.func24, Try.ntmps24
    go_wp2
    go_loopw [10] (fun i wr => ∃ k : Nat, k ≤ n ∧ i = .int .i64 k ∧ Hid (sessTo ws k) ∧ Below w.heap.size w wr) (fun i _ => n - (intOf i).toNat)
    case atStart => exact ⟨0, Nat.zero_le _, rfl, Lib.hid fun i hi => by omega, Below.refl _ _⟩
    case round =>
      obtain ⟨k, hk, rfl, HT, hbel⟩ := hrel
      by_cases hlt : k < n
      · have hlm : k < ws.length := by rw [HZ.out]; exact hlt
        obtain ⟨b, off, rfl, c0, c1⟩ := win_cells HA.out hbel hlm
        replace c0 := c0 ⟨wr, Below.refl _ _⟩
        replace c1 := c1 ⟨wr, Below.refl _ _⟩
        simp only at c0 c1
        by_cases h1 : winOk (wat ws k)
        · by_cases hk0 : 0 < k
          · obtain ⟨j, rfl⟩ : ∃ j, k = j + 1 := ⟨k - 1, by omega⟩
            by_cases h2 : (wat ws (j + 1)).1 < (wat ws j).2
            · have HS := Lib.hid (sess_no3 hlm hk0 (by simpa using h2))
              have H1 := Lib.hid (tf_yes h1).symm
              clear h1 HT
              generalize hq : wat ws (j + 1) = q at *
              obtain ⟨q0, q1⟩ := q
              clear hq
              obtain ⟨b', off', e', d0, d1⟩ := win_cells HA.out (below_trans hbel (below_alloc wr (.cells #[.int .i64 q0, .int .i64 q1] 32))) (k := j) (by omega)
              obtain ⟨rfl, rfl⟩ : b = b' ∧ off = off' := by injection e' with e'; injection e' with e1 e2; exact ⟨e1, e2⟩
              clear e' d0
              generalize wat ws j = p at *
              obtain ⟨r0, r1⟩ := p
              simp only at h2
              have p0 := fun u : Bel (wr.alloc (.cells #[.int .i64 q0, .int .i64 q1] 32)) => (box_win u).1
              have p1 := fun u : Bel (wr.alloc (.cells #[.int .i64 q0, .int .i64 q1] 32)) => (box_win u).2
              go_wp2
              refine wp_region_bel (by kernel_rfl) (by kernel_rfl) ?_
              repeat (go_big_quiet_step ((go_at_call 57; exact bel_of _ (isWin_is H1.out _))))
              refine wpQuiet_nil ?_
              rintro _ ⟨u, rfl⟩
              go_wp2
              go_ret
              exact ⟨ret_bool (tf_no HS.out), below_trans (below_trans hbel (below_alloc _ _)) u.ok⟩
            · have HS := Lib.hid (sessTo_succ HT.out h1 (fun _ => by simpa using h2))
              have H1 := Lib.hid (tf_yes h1).symm
              clear h1 HT
              generalize hq : wat ws (j + 1) = q at *
              obtain ⟨q0, q1⟩ := q
              clear hq
              obtain ⟨b', off', e', d0, d1⟩ := win_cells HA.out (below_trans hbel (below_alloc wr (.cells #[.int .i64 q0, .int .i64 q1] 32))) (k := j) (by omega)
              obtain ⟨rfl, rfl⟩ : b = b' ∧ off = off' := by injection e' with e'; injection e' with e1 e2; exact ⟨e1, e2⟩
              clear e' d0
              generalize wat ws j = p at *
              obtain ⟨r0, r1⟩ := p
              simp only at h2
              have p0 := fun u : Bel (wr.alloc (.cells #[.int .i64 q0, .int .i64 q1] 32)) => (box_win u).1
              have p1 := fun u : Bel (wr.alloc (.cells #[.int .i64 q0, .int .i64 q1] 32)) => (box_win u).2
              go_wp2
              refine wp_region_bel (by kernel_rfl) (by kernel_rfl) ?_
              repeat (go_big_quiet_step ((go_at_call 57; exact bel_of _ (isWin_is H1.out _))))
              refine wpQuiet_nil ?_
              rintro _ ⟨u, rfl⟩
              go_wp2
              go_roundw
              case rel => exact ⟨j + 1 + 1, by omega, by go_num, HS, below_trans (below_trans hbel (below_alloc _ _)) u.ok⟩
              case measure => simp [intOf]; omega
          · obtain rfl : k = 0 := by omega
            simp only [Nat.zero_mul, Nat.add_zero] at c0 c1
            have HS := Lib.hid (sessTo_succ HT.out h1 (fun h => by omega))
            have H1 := Lib.hid (tf_yes h1).symm
            clear h1 HT
            generalize wat ws 0 = q at *
            obtain ⟨q0, q1⟩ := q
            have p0 := fun u : Bel (wr.alloc (.cells #[.int .i64 q0, .int .i64 q1] 32)) => (box_win u).1
            have p1 := fun u : Bel (wr.alloc (.cells #[.int .i64 q0, .int .i64 q1] 32)) => (box_win u).2
            go_wp2
            refine wp_region_bel (by kernel_rfl) (by kernel_rfl) ?_
            repeat (go_big_quiet_step ((go_at_call 57; exact bel_of _ (isWin_is H1.out _))))
            refine wpQuiet_nil ?_
            rintro _ ⟨u, rfl⟩
            go_wp2
            go_roundw
            case rel => exact ⟨0 + 1, by omega, by go_num, HS, below_trans (below_trans hbel (below_alloc _ _)) u.ok⟩
            case measure => simp [intOf]; omega
        · have HS := Lib.hid (sess_no2 hlm h1)
          have H1 := Lib.hid (tf_no h1).symm
          clear h1 HT
          generalize wat ws k = q at *
          obtain ⟨q0, q1⟩ := q
          have p0 := fun u : Bel (wr.alloc (.cells #[.int .i64 q0, .int .i64 q1] 32)) => (box_win u).1
          have p1 := fun u : Bel (wr.alloc (.cells #[.int .i64 q0, .int .i64 q1] 32)) => (box_win u).2
          go_wp2
          refine wp_region_bel (by kernel_rfl) (by kernel_rfl) ?_
          repeat (go_big_quiet_step ((go_at_call 57; exact bel_of _ (isWin_is H1.out _))))
          refine wpQuiet_nil ?_
          rintro _ ⟨u, rfl⟩
          go_wp2
          go_ret
          exact ⟨ret_bool (tf_no HS.out), below_trans (below_trans hbel (below_alloc _ _)) u.ok⟩
      · have HS := Lib.hid (show sessOk ws from ⟨by rw [HZ.out]; exact h3, by have h := HT.out; rw [show k = ws.length by rw [HZ.out]; omega] at h; exact h⟩)
        go_wp2
        go_ret
        exact ⟨ret_bool (tf_yes HS.out), hbel⟩
  · go_enter Try.func24, Try.ntmps24
    go_wp2
    go_ret
    exact ⟨ret_bool (tf_no (sess_no1 (by rw [HZ.out]; exact h3))), Below.refl _ _⟩
end Go.Proofs.Ytdphbfapccnhlaa
