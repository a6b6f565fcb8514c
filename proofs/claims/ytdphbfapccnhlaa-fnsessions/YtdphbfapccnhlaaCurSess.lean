/-
  The cursor's sessions: what it returns.
-/
import Derived.Test.YtdphbfapccnhlaaCurOneW
import Derived.Test.YtdphbfapccnhlaaSAddS
namespace Go.Proofs.Ytdphbfapccnhlaa
open Go.RowKit

theorem grown_below {a b c : World} {r : Option Nat} (h : a.grownBy b r) (k : Below a.heap.size b c) : a.grownBy c r :=
  ⟨k.os.trans h.os, k.tape.trans h.tape, k.output.trans h.output, Nat.le_trans h.size k.size, fun i hi hr => (k.block i hi).trans (h.block i hi hr)⟩
theorem cur_below {b w' : World} {g n c M B : Nat} {A : Option Addr} (h : Cur b g A n c M) (k : Below B b w') (hg : g < B) : Cur w' g A n c M := by
  obtain ⟨i, s, ho, hi, hs⟩ := h.ex
  exact ⟨⟨i, s, ho.below k hg, hi, hs⟩, h.byt.below (k.mono (Nat.le_of_lt hg))⟩
/-- the windows of the long list -/
def seqW (k : Nat) : List Wn := (List.range k).map fun i : Nat => ((2 * (i : Int)), (2 * (i : Int) + 1))
theorem seqW_succ (k : Nat) : seqW (k + 1) = seqW k ++ [((2 * (k : Int)), (2 * (k : Int) + 1))] := by simp [seqW, List.range_succ]
theorem seqW_length (k : Nat) : (seqW k).length = k := by simp [seqW]

set_option maxRecDepth 100000 in
set_option maxHeartbeats 8000000 in
theorem sessions_any (g : Nat) (A : Option Addr) (n c m : Nat) (w : World) (h : Cur w g A n c m) (hn : n ≤ 1048576) (hm : m ≤ 100000) :
    Calls Try.prog 58 #[.pointer (some ⟨g, 0, none⟩)] w fun e w' => ∃ (ws : List Wn) (A' : Option Addr) (c' : Nat), e = .returned (.slice A' ws.length c') ∧ ws.length ≤ 301 ∧ w'.ownsRow w.heap.size 32 2 (.slice A' ws.length c') ws.length (ez ws) ∧ Cur w' g A n c (m + 2000) ∧ w.grownBy w' (some g) := by
  have hgl := h.lt
  have H0 := Lib.hid (h.grow (below_alloc w (.cells #[] 32)))
  clear h
  go_enter Try.func58, Try.ntmps58
  go_wp2_with fail
  refine (size_any g A n c m 12 _ H0.out hn (by omega) (by omega)).mono ?_
  rintro e w1 ⟨r1, rfl, hr1, hC1, hG1⟩
  have row1 := owns_far (owns_empty (size := 2) (Own.new w 32 []) (Nat.le_refl w.heap.size)) hG1 (by simp [Value.ownBlock]; omega)
  have g1 : w.grownBy w1 (some g) := grown_trans (grownBy_of (below_alloc _ _) _) hG1
  clear H0 hG1
  go_wp2
  go_loopw [3, 4] (fun s3 s4 wr => ∃ (j : Nat) (ws : List Wn) (A3 : Option Addr) (c3 : Nat), j ≤ 12 ∧ s4 = .int .i64 (j : Int) ∧ s3 = .slice A3 ws.length c3 ∧ ws.length ≤ 300 ∧ wr.ownsRow w.heap.size 32 2 (.slice A3 ws.length c3) ws.length (ez ws) ∧
    Cur wr g A n c (m + 1 + (12 - j) * 50) ∧ w.grownBy wr (some g)) (fun _ s4 _ => (intOf s4).toNat)
  case atStart => exact ⟨r1, [], _, _, hr1, rfl, rfl, Nat.zero_le _, row1, hC1.more (by omega), g1⟩
  case round =>
    obtain ⟨j, ws, A3, c3, hj, rfl, rfl, hws, hrow, hC, hG⟩ := hrel
    clear row1 g1 hC1
    by_cases hj0 : 0 < j
    · go_wp2_with fail
      refine (oneWin_any g A n c (m + 1 + (12 - j) * 50) _ hC hn (by omega)).mono ?_
      rintro e w2 ⟨a, b, rfl, hC2, hG2⟩
      have hrow2 := owns_far hrow hG2 (owns_lt hrow hgl)
      have hG3 := grown_trans hG hG2
      have hC3 : Cur w2 g A n c (m + 1 + (12 - (j - 1)) * 50) := hC2.more (by omega)
      have HC := Lib.hid (specSessAdd_any A3 ws.length c3 ws a b w2 (RowAt.reads (RowAt.of hrow2)) rfl (by omega))
      have hjm : ((j : Int) - 1) = ((j - 1 : Nat) : Int) := by omega
      clear hC hC2 hrow hG hG2
      by_cases hx : addOk ws (a, b)
      · go_wp2_with fail
        refine HC.out.mono ?_
        rw [← tf_yes hx, sessAdd_yes hx]
        have HX := Lib.hid hx.2.2
        clear hx HC
        rintro e w3 ⟨A4, c4, rfl, hr4, hb4⟩
        have hrow4 := owns_base hr4.1 hG3.size
        have hC4 := hC3.grow hb4
        have hG4 := grown_trans hG3 (grownBy_of hb4 _)
        clear hr4 hb4 hC3 hG3
        go_wp2
        go_roundw
        case rel => exact ⟨j - 1, addAll ws (a, b), A4, c4, by omega, by go_num, rfl, HX.out, hrow4, hC4, hG4⟩
        case measure => simp [intOf]; omega
      · go_wp2_with fail
        refine HC.out.mono ?_
        rw [← tf_no hx]
        clear hx HC
        rintro e w3 ⟨A4, c4, rfl, hr4, hb4⟩
        have hrow4 := owns_grow hrow2 hb4
        have hC4 := hC3.grow hb4
        have hG4 := grown_trans hG3 (grownBy_of hb4 _)
        clear hr4 hb4 hC3 hG3
        go_wp2
        go_roundw
        case rel => exact ⟨j - 1, ws, A3, c3, by omega, by go_num, rfl, hws, hrow4, hC4, hG4⟩
        case measure => simp [intOf]; omega
    · obtain rfl : j = 0 := by omega
      go_wp2_with fail
      refine (pick_any g A n c (m + 1 + (12 - 0) * 50) 12 _ hC hn (by omega) (by omega) (by omega)).mono ?_
      rintro e w2 ⟨r, rfl, hr, hC2, hG2⟩
      have hrow2 := owns_far hrow hG2 (owns_lt hrow hgl)
      have hG3 := grown_trans hG hG2
      have hC3 : Cur w2 g A n c (m + 700) := hC2.more (by omega)
      clear hC hC2 hrow hG hG2
      by_cases h0 : r = 0
      · subst h0
        go_wp2_with fail
        refine (oneWin_any g A n c (m + 700) _ hC3 hn (by omega)).mono ?_
        rintro e w3 ⟨a, b, rfl, hC4, hG4⟩
        have hrow4 := owns_far hrow2 hG4 (owns_lt hrow2 hgl)
        have hG5 := grown_trans hG3 hG4
        have HL1 : Hid (ws.length + 1 ≤ 2097152) := Lib.hid (by omega)
        have hsz := hG5.size
        clear hrow2 hC3 hG3 hG4
        go_wp2_with (at_builtin; refine appWin.own rfl _ (.tmp 31) rfl w.heap.size (.slice A3 ws.length c3) ws.length (ez ws) rfl (hrow4.alloc _) w3.heap.size 1 1 [.int .i64 a, .int .i64 b] rfl (Own.new w3 _ _) rfl (ez_one [(a, b)]) HL1 (by simp; omega) ?_)
        intro A6 c6 w6 hown6 hgrow6 hb6
        have hC6 : Cur w6 g A n c (m + 2000) := (cur_below (hC4.grow (below_alloc w3 (.cells #[.int .i64 a, .int .i64 b] 32))) hb6 hgl).more (by omega)
        have hG6 := grown_below (grown_trans hG5 (grownBy_of (below_alloc w3 (.cells #[.int .i64 a, .int .i64 b] 32)) _)) hb6
        have hrow6 := owns_as hown6 (ez_snoc ws a b)
        clear hC4 hrow4 hG5 hown6 hgrow6 hb6
        go_wp2
        go_ret
        exact ⟨ws ++ [(a, b)], A6, c6, by simp, by simp; omega, by simpa using hrow6, hC6, hG6⟩
      · have hn0 : ((r : Int) == 0) = false := by simp; omega
        by_cases h1 : r = 1
        · subst h1
          have rowE := owns_empty (size := 2) (base := w.heap.size) (Own.new w2 32 []) hG3.size
          have hC4 := hC3.grow (below_alloc w2 (.cells #[] 32))
          have hG4 := grown_trans hG3 (grownBy_of (below_alloc w2 (.cells #[] 32)) _)
          clear hrow2 hC3 hG3
          go_wp2
          go_loopw [3, 7] (fun s3 s7 wr => ∃ (k : Nat) (A3 : Option Addr) (c3 : Nat), k ≤ 301 ∧ s7 = .int .i64 (k : Int) ∧ s3 = .slice A3 k c3 ∧ wr.ownsRow w.heap.size 32 2 (.slice A3 k c3) k (ez (seqW k)) ∧
            Cur wr g A n c (m + 700 + k) ∧ w.grownBy wr (some g)) (fun _ s7 _ => 302 - (intOf s7).toNat)
          case atStart => exact ⟨0, _, _, Nat.zero_le _, rfl, rfl, rowE, hC4, hG4⟩
          case round =>
            obtain ⟨k, A4, c4, hk, rfl, rfl, hrow, hC, hG⟩ := hrel
            clear rowE hC4 hG4
            go_wp2_with fail
            refine (pick_any g A n c (m + 700 + k) 2 _ hC hn (by omega) (by omega) (by omega)).mono ?_
            rintro e w5 ⟨r5, rfl, hr5, hC5, hG5⟩
            have hrow5 := owns_far hrow hG5 (owns_lt hrow hgl)
            have hG6 := grown_trans hG hG5
            clear hrow hC hG hG5
            by_cases hlt : (k : Int) < 300 + (r5 : Int)
            · have HL1 : Hid (k + 1 ≤ 2097152) := Lib.hid (by omega)
              have hsz := hG6.size
              go_wp2_with (at_builtin; refine appWin.own rfl _ (.tmp 50) rfl w.heap.size (.slice A4 k c4) k (ez (seqW k)) rfl (hrow5.alloc _) w5.heap.size 1 1 [.int .i64 (2 * (k : Int)), .int .i64 (2 * (k : Int) + 1)] rfl (Own.new w5 _ _) rfl (ez_one [(2 * (k : Int), 2 * (k : Int) + 1)]) HL1 (by simp; omega) ?_)
              intro A6 c6 w6 hown6 hgrow6 hb6
              have hC7 : Cur w6 g A n c (m + 700 + (k + 1)) := cur_below (hC5.grow (below_alloc w5 (.cells #[.int .i64 (2 * (k : Int)), .int .i64 (2 * (k : Int) + 1)] 32))) hb6 hgl
              have hG7 := grown_below (grown_trans hG6 (grownBy_of (below_alloc w5 (.cells #[.int .i64 (2 * (k : Int)), .int .i64 (2 * (k : Int) + 1)] 32)) _)) hb6
              have hrow7 : w6.ownsRow w.heap.size 32 2 (.slice A6 (k + 1) c6) (k + 1) (ez (seqW (k + 1))) := owns_as hown6 (by rw [seqW_succ]; exact ez_snoc _ _ _)
              clear hC5 hrow5 hG6 hown6 hgrow6 hb6
              go_wp2
              go_roundw
              case rel => exact ⟨k + 1, A6, c6, by omega, by go_num, rfl, hrow7, hC7, hG7⟩
              case measure => simp [intOf]; omega
            · go_wp2
              go_ret
              exact ⟨seqW k, A4, c4, by rw [seqW_length]; rfl, by rw [seqW_length]; omega, by rw [seqW_length]; exact hrow5, hC5.more (by omega), hG6⟩
        · have hn1 : ((r : Int) == 1) = false := by simp; omega
          go_wp2
          go_ret
          exact ⟨ws, A3, c3, rfl, by omega, hrow2, hC3.more (by omega), hG3⟩
end Go.Proofs.Ytdphbfapccnhlaa
