/-
  SessOf, the program's: what it returns.
-/
import Derived.Test.YtdphbfapccnhlaaSOfS
namespace Go.Proofs.Ytdphbfapccnhlaa
open Go.RowKit

set_option maxRecDepth 100000 in
set_option maxHeartbeats 4000000 in
theorem implSessOf_any (k s t : Int) (A : Option Addr) (n ca : Nat) (ts : List Int) (w : World) (hA : Rd w A (iz ts)) (hz : ts.length = n) (hn : n ≤ 1048576) :
    Calls Try.prog 20 #[.agg #[.int .i64 k, .int .i64 s, .int .i64 t], .slice A n ca] w (WbRes (sessOf k s t ts) (tf (ofOk k s t ts)) w) := by
  have HR := Lib.hid hA
  have HZ := Lib.hid hz
  clear hA hz
  obtain ⟨k0, k1, k2⟩ := (Own.new w 25 [.int .i64 k, .int .i64 s, .int .i64 t]).three
  by_cases hd : defOk k s t
  · have HD := Lib.hid hd
    by_cases hk3 : k = 3
    · subst hk3
      by_cases hl : n ≤ 300
      · have hs1 := hd.2.2.1
        have hs2 := hd.2.2.2.1
        clear hd
        go_enter Try.func20, Try.ntmps20
        go_wp2_with fail
        refine (as_bool (tf_yes HD.out).symm (implWinOk_any 3 s t _)).mono ?_
        rintro e w1 ⟨rfl, hb1⟩
        obtain ⟨ho, hb⟩ := box_own (cs := [.int .i64 3, .int .i64 s, .int .i64 t]) hb1
        clear hb1 k0 k1 k2
        obtain ⟨k0, k1, k2⟩ := ho.three
        have hlw := ho.lt
        go_wp2
        clear k0 k1 k2
        go_loopw [6, 27] (fun s6 s7 wr => ∃ (i m : Nat) (A6 : Option Addr) (c6 : Nat), i ≤ n ∧ m ≤ 300 ∧ s7 = .int .i64 (i : Int) ∧ s6 = .slice A6 m c6 ∧ Hid ((sessOfTo s ts i).length = m ∧ ∀ j, j < i → isT (iat ts j)) ∧
          wr.ownsRow w.heap.size 32 2 (.slice A6 m c6) m (ez (sessOfTo s ts i)) ∧ Own wr w.heap.size 25 [.int .i64 3, .int .i64 s, .int .i64 t] ∧ Below w.heap.size w wr) (fun _ s7 _ => n - (intOf s7).toNat)
        case atStart =>
          refine ⟨0, 0, some ⟨w1.heap.size, 0, none⟩, 0, Nat.zero_le _, Nat.zero_le _, rfl, rfl, Lib.hid ⟨rfl, fun j hj => by omega⟩, owns_empty (Own.new w1 32 []) hb.size, ho.alloc _, below_trans hb (below_alloc _ _)⟩
        case round =>
          obtain ⟨i, m, A6, c6, hi, hm, rfl, rfl, HT, hrow, hbx, hbel⟩ := hrel
          by_cases hlt : i < n
          · have hlm : i < ts.length := by rw [HZ.out]; exact hlt
            have HS := Lib.hid (sessOfTo_succ (s := s) hlm)
            have HNo := Lib.hid (show ¬ isT (iat ts i) → ¬ ofOk 3 s t ts from fun h q => h (q.2.2.2 i hlm))
            have HYes := Lib.hid (show isT (iat ts i) → addOk (sessOfTo s ts i) (iat ts i, iat ts i + s) ∧ ∀ j, j < i + 1 → isT (iat ts j) from fun h => by
              have hj : ∀ j, j < i + 1 → isT (iat ts j) := fun j hj => by
                by_cases e : j = i
                · rw [e]; exact h
                · exact HT.out.2 j (by omega)
              exact ⟨of_addOk hs1 hs2 (by rw [HZ.out]; exact hl) hlm hj, hj⟩)
            have HLN := Lib.hid (show (sessOfTo s ts (i + 1)).length ≤ 300 from by have := sessOfTo_len s ts (i + 1); omega)
            obtain ⟨bb, off, rfl, c0⟩ := int_cells HR.out hbel hlm
            have c0' := c0 ⟨wr, Below.refl _ _⟩
            simp only at c0'
            have q0 : ∀ u : Bel wr, u.w.cell? ⟨w.heap.size, 0, none⟩ = some (.int .i64 3) := fun u => (hbx.grow u.ok).three.1
            have q1 : ∀ u : Bel wr, u.w.cell? ⟨w.heap.size, 1, none⟩ = some (.int .i64 s) := fun u => (hbx.grow u.ok).three.2.1
            have q2 : ∀ u : Bel wr, u.w.cell? ⟨w.heap.size, 2, none⟩ = some (.int .i64 t) := fun u => (hbx.grow u.ok).three.2.2
            generalize hx : iat ts i = x at *
            have HX := Lib.hid hx
            clear hx
            by_cases hT : isT x
            · have HT1 := Lib.hid (HYes.out hT)
              have HW := Lib.hid (fun W => (show Calls Try.prog 15 #[.agg #[.int .i64 3, .int .i64 s, .int .i64 t], .int .i64 x] W (WsRes [(x, x + s)] W) from by have := implWinsOf_any 3 s t x W; rw [winsOf_at HD.out rfl hT] at this; exact this))
              have HTT := Lib.hid (tf_yes hT).symm
              clear hT HYes HNo
              go_wp2_with fail
              refine (as_bool HTT.out (isTime_any x _)).mono ?_
              rintro e _ ⟨rfl, rfl⟩
              have q0' := q0 ⟨wr, Below.refl _ _⟩
              have q1' := q1 ⟨wr, Below.refl _ _⟩
              have q2' := q2 ⟨wr, Below.refl _ _⟩
              simp only at q0' q1' q2'
              clear c0 q0 q1 q2
              have HSrt := Lib.hid (sessOfTo_srt (s := s) (ts := ts) (k := i) hs1 hs2 (Nat.le_of_lt hlm) HT.out.2)
              have hxo : Hid (winOk (x, x + s)) := Lib.hid (by have h := HT1.out.1.2.1; exact h)
              go_wp2_with fail
              refine ((HW.out _).mono fun _ _ h => wins_one h).mono ?_
              rintro e w3 ⟨g, cg, rfl, hg, d0, d1, hb3⟩
              have hrow3 := owns_grow hrow hb3
              have hbx3 := hbx.grow hb3
              have hbel3 := below_trans hbel hb3
              clear q0' q1' q2' hrow hbx hbel hb3
              generalize wr = wo at *
              go_wp2
              go_loopw [6, 38] (fun s6 s7 wi => ∃ (j m' : Nat) (A' : Option Addr) (c' : Nat), j ≤ 1 ∧ m' ≤ 300 ∧ s7 = .int .i64 (j : Int) ∧ s6 = .slice A' m' c' ∧ Hid ((sessOfTo s ts (i + j)).length = m') ∧
                wi.ownsRow w.heap.size 32 2 (.slice A' m' c') m' (ez (sessOfTo s ts (i + j))) ∧ Below w3.heap.size w3 wi) (fun _ s7 _ => 1 - (intOf s7).toNat)
              case atStart => exact ⟨0, m, A6, c6, Nat.zero_le _, hm, rfl, rfl, Lib.hid HT.out.1, hrow3, Below.refl _ _⟩
              case round =>
                obtain ⟨j, m', A', c', hj, hm', rfl, rfl, HM, hrow', hbi⟩ := hrel
                by_cases hj1 : j < 1
                · obtain rfl : j = 0 := by omega
                  have e0 := (hbi.cell (p := ⟨g, 0, none⟩) hg).trans d0
                  have e1 := (hbi.cell (p := ⟨g, 1, none⟩) hg).trans d1
                  obtain ⟨n0, n1⟩ := (Own.new wr 32 [.int .i64 x, .int .i64 (x + s)]).two
                  have hb4 := below_alloc wr (.cells #[.int .i64 x, .int .i64 (x + s)] 32)
                  have hrow4 := owns_grow hrow' hb4
                  obtain ⟨m4, hm4⟩ : ∃ m4, Hid ((sessOfTo s ts (i + 1)).length = m4) := ⟨_, Lib.hid rfl⟩
                  have hm5 : m4 ≤ 300 := by rw [← hm4.out]; exact HLN.out
                  have HC := Lib.hid (show Calls Try.prog 53 #[.slice A' m' c', .agg #[.int .i64 x, .int .i64 (x + s)]] (wr.alloc (.cells #[.int .i64 x, .int .i64 (x + s)] 32)) (WsRes (sessOfTo s ts (i + 1)) (wr.alloc (.cells #[.int .i64 x, .int .i64 (x + s)] 32))) from by
                    have := mergeSession_any A' m' c' (sessOfTo s ts i) x (x + s) _ (RowAt.reads (RowAt.of hrow4)) HM.out (by omega) (owns_fit hrow4) HSrt.out hxo.out
                    rw [← HS.out] at this
                    exact this)
                  clear hrow4
                  go_wp2_with fail
                  refine HC.out.mono ?_
                  rintro e w5 ⟨A5, c5, rfl, hr5, hb5⟩
                  have hbi5 := below_trans (below_trans hbi hb4) hb5
                  have hrow5 := owns_base hr5.1 (below_trans (below_trans hbel3 hbi) hb4).size
                  rw [hm4.out] at hrow5 ⊢
                  clear hr5 e0 e1 n0 n1 HC
                  go_wp2
                  go_roundw
                  case rel => exact ⟨0 + 1, m4, A5, c5, by omega, hm5, by go_num, rfl, hm4, hrow5, hbi5⟩
                  case measure => simp [intOf]
                · obtain rfl : j = 1 := by omega
                  have hbx5 := hbx3.grow hbi
                  have hbel5 := below_trans hbel3 hbi
                  go_wp2
                  go_roundw
                  case rel => exact ⟨i + 1, m', A', c', by omega, hm', by go_num, rfl, Lib.hid ⟨HM.out, HT1.out.2⟩, hrow', hbx5, hbel5⟩
                  case measure => simp [intOf]; omega
            · have HN := Lib.hid (HNo.out hT)
              have HTT := Lib.hid (tf_no hT).symm
              clear hT HYes HNo
              go_wp2_with fail
              refine (as_bool HTT.out (isTime_any x _)).mono ?_
              rintro e _ ⟨rfl, rfl⟩
              go_wp2
              go_ret2
              exact wb_no (sessOf_no HN.out) HN.out hbel
          · have HE := Lib.hid (show ofOk 3 s t ts from ⟨HD.out, rfl, by rw [HZ.out]; exact hl, fun j hj => HT.out.2 j (by rw [HZ.out] at hj; omega)⟩)
            have hin : i = ts.length := by rw [HZ.out]; omega
            have HE2 := Lib.hid (show sessOf 3 s t ts = sessOfTo s ts i from by rw [sessOf_yes HE.out, hin])
            clear hin
            go_wp2
            go_ret2
            exact wb_yes HE2.out HE.out HT.out.1 ⟨hrow, fun k hk => (hrow.lt k hk).2⟩ hbel
      · have HN := Lib.hid (show ¬ ofOk 3 s t ts from fun h => hl (by rw [← HZ.out]; exact h.2.2.1))
        clear hd
        go_enter Try.func20, Try.ntmps20
        go_wp2_with fail
        refine (as_bool (tf_yes HD.out).symm (implWinOk_any 3 s t _)).mono ?_
        rintro e w1 ⟨rfl, hb1⟩
        obtain ⟨ho, hb⟩ := box_own (cs := [.int .i64 3, .int .i64 s, .int .i64 t]) hb1
        clear hb1 k0 k1 k2
        obtain ⟨k0, k1, k2⟩ := ho.three
        go_wp2
        go_ret2
        exact wb_no (sessOf_no HN.out) HN.out hb
    · have HN := Lib.hid (show ¬ ofOk k s t ts from fun h => hk3 h.2.1)
      have b3 : (k == 3) = false := by simpa using hk3
      clear hd
      go_enter Try.func20, Try.ntmps20
      go_wp2_with fail
      refine (as_bool (tf_yes HD.out).symm (implWinOk_any k s t _)).mono ?_
      rintro e w1 ⟨rfl, hb1⟩
      obtain ⟨ho, hb⟩ := box_own (cs := [.int .i64 k, .int .i64 s, .int .i64 t]) hb1
      clear hb1 k0 k1 k2
      obtain ⟨k0, k1, k2⟩ := ho.three
      go_wp2
      go_ret2
      exact wb_no (sessOf_no HN.out) HN.out hb
  · have HN := Lib.hid (show ¬ ofOk k s t ts from fun h => hd h.1)
    have HD := Lib.hid hd
    clear hd
    go_enter Try.func20, Try.ntmps20
    go_wp2_with fail
    refine (as_bool (tf_no HD.out).symm (implWinOk_any k s t _)).mono ?_
    rintro e w1 ⟨rfl, hb1⟩
    go_wp2
    go_ret2
    exact wb_no (sessOf_no HN.out) HN.out (box_own (cs := [.int .i64 k, .int .i64 s, .int .i64 t]) hb1).2
end Go.Proofs.Ytdphbfapccnhlaa
