/-
  WinsOf, the model's: what it returns.
-/
import Derived.Test.YtdphbfapccnhlaaSWins
import Derived.Test.YtdphbfapccnhlaaWinT
import Derived.Test.YtdphbfapccnhlaaSessOk
import Derived.Deep.DeepCutAuto
import Derived.Deep.CutBlock
namespace Go.Proofs.Ytdphbfapccnhlaa
open Go.RowKit

theorem Own.three {w : World} {g : Nat} {t : TypeId} {c0 c1 c2 : Value} (h : Own w g t [c0, c1, c2]) : w.cell? ⟨g, 0, none⟩ = some c0 ∧ w.cell? ⟨g, 1, none⟩ = some c1 ∧ w.cell? ⟨g, 2, none⟩ = some c2 := ⟨h.cell 0, h.cell 1, h.cell 2⟩
theorem ws_nil {ws : List Wn} {w w' : World} (h : ws = []) (hb : Below w.heap.size w w') : WsRes ws w (.returned (.slice none 0 0)) w' := by
  subst h; exact ⟨none, 0, rfl, rowAt_nil _ _ _, hb⟩
theorem ws_one {ws : List Wn} {w w' : World} {g : Nat} {a b : Int} (h : ws = [(a, b)]) (hg : w.heap.size ≤ g) (ho : Own w' g 32 [.int .i64 a, .int .i64 b]) (hb : Below w.heap.size w w') : WsRes ws w (.returned (.slice (some ⟨g, 0, none⟩) 1 1)) w' := by
  subst h; exact ⟨some ⟨g, 0, none⟩, 1, rfl, RowAt.of (ho.ownsS hg rfl (by simp)), hb⟩
theorem ws_row {ws : List Wn} {w w' : World} {A : Option Addr} {n c : Nat} (h : ws.length = n) (hr : w'.ownsRow w.heap.size 32 2 (.slice A n c) n (ez ws)) (hb : Below w.heap.size w w') : WsRes ws w (.returned (.slice A n c)) w' := by
  subst h; exact ⟨A, c, rfl, RowAt.of hr, hb⟩

set_option maxRecDepth 100000 in
set_option maxHeartbeats 4000000 in
theorem specWinsOf_any (k s t tm : Int) (w : World) :
    Calls Try.prog 17 #[.agg #[.int .i64 k, .int .i64 s, .int .i64 t], .int .i64 tm] w (WsRes (winsOf k s t tm) w) := by
  go_enter Try.func17, Try.ntmps17
  have ho := Own.new w 25 [.int .i64 k, .int .i64 s, .int .i64 t]
  obtain ⟨k0, k1, k2⟩ := ho.three
  by_cases hd : defOk k s t
  · go_wp2_with fail
    refine (as_bool (tf_yes hd).symm (specWinOk_any k s t _)).mono ?_
    rintro e w1 ⟨rfl, hb1⟩
    have HD := Lib.hid hd
    obtain ⟨ho, hb⟩ := box_own hb1
    clear hb1 k0 k1 k2 hd
    by_cases ht : isT tm
    · go_wp2_with fail
      refine (as_bool (tf_yes ht).symm (l05Time_any tm _)).mono ?_
      have HT := Lib.hid ht
      clear ht
      rintro e _ ⟨rfl, rfl⟩
      obtain ⟨k0, k1, k2⟩ := ho.three
      by_cases e1 : k = 1
      · subst e1
        have hs := HD.out.2.2.1
        have hs1 := HD.out.2.2.2.1
        have ht0 := HT.out.1
        have ht1 := HT.out.2
        have HN := Lib.hid (winsOf_tumble HD.out HT.out)
        obtain ⟨S, rfl⟩ : ∃ S : Nat, s = (S : Int) := ⟨s.toNat, by omega⟩
        obtain ⟨T, rfl⟩ : ∃ T : Nat, tm = (T : Int) := ⟨tm.toNat, by omega⟩
        simp only [Int.toNat_natCast] at HN
        obtain ⟨Q, hQ⟩ : ∃ Q : Nat, T / S = Q := ⟨_, rfl⟩
        have hF := Nat.div_mul_le_self T S
        rw [hQ] at HN hF
        obtain ⟨F, hF2⟩ : ∃ F : Nat, Q * S = F := ⟨_, rfl⟩
        rw [hF2] at HN hF
        have hq : (T : Int) / (S : Int) = (Q : Int) := by rw [← hQ]; exact (Int.natCast_ediv T S).symm
        have hm : (Q : Int) * (S : Int) = (F : Int) := by rw [← hF2]; exact (Int.natCast_mul Q S).symm
        have hS0 : ¬ (S : Int) = 0 := by omega
        have hQ1 : (Q : Int) ≤ 1000 := by
          have := Nat.div_le_self T S
          omega
        clear hQ hF2
        have k1 : ∀ u : Bel w1, u.w.cell? ⟨w.heap.size, 1, none⟩ = some (.int .i64 (S : Int)) := fun u => (ho.grow u.ok).three.2.1
        go_wp2
        refine wp_region_bel (by kernel_rfl) (by kernel_rfl) ?_
        repeat (go_big_quiet_step (fail))
        refine wpQuiet_nil ?_
        rintro _ ⟨u, rfl⟩
        go_wp2
        go_ret
        exact ws_one (by rw [HN.out, Int.natCast_add]) (below_trans hb u.ok).size (Own.new _ _ [_, _]) (below_trans (below_trans hb u.ok) (below_alloc _ _))
      · by_cases e3 : k = 3
        · subst e3
          have h1 := HT.out.2
          have h0 := HT.out.1
          have h2 : 1 ≤ s ∧ s ≤ 100 := ⟨HD.out.2.2.1, HD.out.2.2.2.1⟩
          obtain ⟨h2, h3⟩ := h2
          go_wp2
          go_ret
          exact ws_one (winsOf_sess HD.out HT.out) hb.size (Own.new _ _ [_, _]) (below_trans hb (below_alloc _ _))
        · have hk2 : k = 2 := by have h1 := HD.out.1; have h2 := HD.out.2.1; omega
          have hst := HD.out.2.2.2.2.2 hk2
          have HN := Lib.hid (winsOf_slide HD.out HT.out e1 e3)
          have hs := HD.out.2.2.1
          have hs1 := HD.out.2.2.2.1
          have ht0 := HT.out.1
          have ht1 := HT.out.2
          obtain ⟨S, rfl⟩ : ∃ S : Nat, s = (S : Int) := ⟨s.toNat, by omega⟩
          obtain ⟨T, rfl⟩ : ∃ T : Nat, tm = (T : Int) := ⟨tm.toNat, by omega⟩
          obtain ⟨D, rfl⟩ : ∃ D : Nat, t = (D : Int) := ⟨t.toNat, by omega⟩
          simp only [Int.toNat_natCast] at HN
          have hD : 1 ≤ D := by omega
          have hDS : D ≤ S := by omega
          have hS : S ≤ 100 := by omega
          have hT : T ≤ 1000 := by omega
          clear hst hs hs1 ht0 ht1
          have k1b := ho.lt
          have b1 : (k == 1) = false := by simpa using e1
          have b3 : (k == 3) = false := by simpa using e3
          clear k0 k1 k2 HT HD hk2 e1 e3
          obtain ⟨k0, k1, k2⟩ := ho.three
          go_wp2
          clear k0 k1 k2
          go_loopw [6, 7] (fun s6 s7 wr => ∃ j F n A6 c6, s7 = .int .i64 ((F : Nat) : Int) ∧ s6 = .slice A6 n c6 ∧ F ≤ T + D ∧ n ≤ 1101 ∧ Hid (F = j * D ∧ (∀ i, i < j → i * D ≤ T) ∧ (slideTo S D T j).length = n ∧ n ≤ j ∧ j ≤ F) ∧
            wr.ownsRow (w.heap.size + 1) 32 2 (.slice A6 n c6) n (ez (slideTo S D T j)) ∧ Own wr w.heap.size 25 [.int .i64 k, .int .i64 (S : Int), .int .i64 (D : Int)] ∧ Below w.heap.size w wr) (fun _ s7 _ => 1101 - (intOf s7).toNat)
          case atStart =>
            refine ⟨0, 0, 0, some ⟨w1.heap.size, 0, none⟩, 0, rfl, rfl, Nat.zero_le _, Nat.zero_le _, Lib.hid ⟨by simp, fun i hi => by omega, by simp [slideTo_zero], Nat.le_refl _, Nat.le_refl _⟩, ?_, ho.alloc _, below_trans hb (below_alloc _ _)⟩
            rw [slideTo_zero]
            exact owns_empty (Own.new w1 32 []) k1b
          case round =>
            obtain ⟨j, F, n, A6, c6, rfl, rfl, hF, hn, HF, hrow, hbx, hbel⟩ := hrel
            obtain ⟨k0, k1, k2⟩ := hbx.three
            have hwl := hbx.lt
            by_cases hlt : F ≤ T
            · have HJ := Lib.hid (show F + D = (j + 1) * D ∧ (∀ i, i < j + 1 → i * D ≤ T) ∧ j + 1 ≤ F + D from ⟨by rw [HF.out.1, Nat.add_mul, Nat.one_mul], fun i hi => by
                by_cases hij : i = j
                · rw [hij, ← HF.out.1]; exact hlt
                · exact HF.out.2.1 i (by omega), by have := HF.out.2.2.2.2; omega⟩)
              by_cases hin : T < F + S
              · have HS := Lib.hid (slideTo_yes (s := S) (t := D) (tm := T) (k := j) (by rw [← HF.out.1]; exact hin))
                have HL1 : Hid (n + 1 ≤ 2097152) := Lib.hid (by omega)
                go_wp2_with (at_builtin; refine appWin.own rfl _ (.tmp 64) rfl (w.heap.size + 1) (.slice A6 n c6) n (ez (slideTo S D T j)) rfl (hrow.alloc _) wr.heap.size 1 1 [.int .i64 (F : Int), .int .i64 ((F : Int) + (S : Int))] rfl (Own.new wr _ _) rfl (ez_one [((F : Int), ((F : Int) + (S : Int)))]) HL1 (by simp; omega) ?_)
                intro A2 c2 w4 hown4 hgrow4 hb4
                have hbx4 := (hbx.alloc (.cells #[.int .i64 (F : Int), .int .i64 ((F : Int) + (S : Int))] 32)).below hb4 (Nat.lt_succ_self _)
                have hbel4 := below_trans' (below_trans hbel (below_alloc wr (.cells #[.int .i64 (F : Int), .int .i64 ((F : Int) + (S : Int))] 32))) hb4
                clear k0 k1 k2
                obtain ⟨k0, k1, k2⟩ := hbx4.three
                go_wp2
                go_roundw
                case rel =>
                  have HG : Hid (F + D = (j + 1) * D ∧ (∀ i, i < j + 1 → i * D ≤ T) ∧ (slideTo S D T (j + 1)).length = n + 1 ∧ n + 1 ≤ j + 1 ∧ j + 1 ≤ F + D) :=
                    Lib.hid ⟨HJ.out.1, HJ.out.2.1, by rw [HS.out, List.length_append, HF.out.2.2.1]; rfl, by have := HF.out.2.2.2.1; omega, HJ.out.2.2⟩
                  have hn1 : n + 1 ≤ 1101 := by have := HF.out.2.2.2.1; have := HF.out.2.2.2.2; omega
                  have hrow4 : w4.ownsRow (w.heap.size + 1) 32 2 (.slice A2 (n + 1) c2) (n + 1) (ez (slideTo S D T (j + 1))) := by
                    refine owns_as hown4 ?_
                    rw [HS.out, ez_append]
                    simp [winAt, ez, ← HF.out.1]
                  exact ⟨j + 1, F + D, n + 1, A2, c2, by go_num, rfl, by omega, hn1, HG, hrow4, hbx4, hbel4⟩
                case measure => simp [intOf]; omega
              · have HS := Lib.hid (slideTo_no (s := S) (t := D) (tm := T) (k := j) (by rw [← HF.out.1]; exact hin))
                go_wp2
                go_roundw
                case rel => exact ⟨j + 1, F + D, n, A6, c6, by go_num, rfl, by omega, hn, Lib.hid ⟨HJ.out.1, HJ.out.2.1, by rw [HS.out]; exact HF.out.2.2.1, by have := HF.out; omega, HJ.out.2.2⟩, by rw [HS.out]; exact hrow, hbx, hbel⟩
                case measure => simp [intOf]; omega
            · have HE := Lib.hid (rounds_at (t := D) (tm := T) (k := j) hD HF.out.2.1 (by rw [← HF.out.1]; omega))
              have HW := Lib.hid (show winsOf k (S : Int) (D : Int) (T : Int) = slideTo S D T j by rw [HN.out, HE.out]; rfl)
              go_wp2
              go_ret
              rw [HW.out]
              exact ws_row HF.out.2.2.1 (owns_base hrow (Nat.le_succ _)) hbel
    · go_wp2_with fail
      refine (as_bool (tf_no ht).symm (l05Time_any tm _)).mono ?_
      have HN := Lib.hid (winsOf_no (k := k) (s := s) (t := t) (fun h => ht h.2))
      clear ht
      rintro e _ ⟨rfl, rfl⟩
      go_wp2
      go_ret
      exact ws_nil HN.out hb
  · go_wp2_with fail
    refine (as_bool (tf_no hd).symm (specWinOk_any k s t _)).mono ?_
    rintro e w1 ⟨rfl, hb1⟩
    have HN := Lib.hid (winsOf_no (tm := tm) (fun h => hd h.1))
    clear hd
    go_wp2
    go_ret
    exact ws_nil HN.out (box_own (cs := [.int .i64 k, .int .i64 s, .int .i64 t]) hb1).2
end Go.Proofs.Ytdphbfapccnhlaa
