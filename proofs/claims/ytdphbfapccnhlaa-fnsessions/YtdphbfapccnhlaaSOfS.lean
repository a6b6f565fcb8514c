/-
  SessOf, the model's and the program's: what they return.
-/
import Derived.Test.YtdphbfapccnhlaaSWinsI
import Derived.Test.YtdphbfapccnhlaaSJoin
import Derived.Test.YtdphbfapccnhlaaLawSessAdd
import Derived.Deep.RegionWith
namespace Go.Proofs.Ytdphbfapccnhlaa
open Go.RowKit

theorem wins_one {a b : Int} {w w' : World} {e : Ending} (h : WsRes [(a, b)] w e w') :
    ∃ g c, e = .returned (.slice (some ⟨g, 0, none⟩) 1 c) ∧ g < w'.heap.size ∧ w'.cell? ⟨g, 0, none⟩ = some (.int .i64 a) ∧ w'.cell? ⟨g, 1, none⟩ = some (.int .i64 b) ∧ Below w.heap.size w w' := by
  obtain ⟨A, c, rfl, hr, hb⟩ := h
  rcases hr.1.2 with ⟨_, h0⟩ | ⟨g, cap, cur, e, hbg, hg, _⟩
  · simp at h0
  · cases e
    have hR := hr.reads
    obtain ⟨ad, e0, hlt, h0⟩ := hR 0 _ rfl
    obtain ⟨ad', e1, _, h1⟩ := hR 1 _ rfl
    cases e0
    cases e1
    rw [plain_add'] at h0 h1
    exact ⟨g, _, rfl, hlt, h0, h1, hb⟩
/-- the windows of the first k times -/
def timesW (s : Int) (ts : List Int) (k : Nat) : List Wn := (ts.take k).map fun t => (t, t + s)
def sessOfTo (s : Int) (ts : List Int) (k : Nat) : List Wn := addMany [] (timesW s ts k)
def ofOk (k s t : Int) (ts : List Int) : Prop := defOk k s t ∧ k = 3 ∧ ts.length ≤ 300 ∧ ∀ i, i < ts.length → isT (iat ts i)
open Classical in
noncomputable def sessOf (k s t : Int) (ts : List Int) : List Wn := if ofOk k s t ts then sessOfTo s ts ts.length else []
theorem sessOf_yes {k s t : Int} {ts : List Int} (h : ofOk k s t ts) : sessOf k s t ts = sessOfTo s ts ts.length := by unfold sessOf; rw [if_pos h]
theorem sessOf_no {k s t : Int} {ts : List Int} (h : ¬ ofOk k s t ts) : sessOf k s t ts = [] := by unfold sessOf; rw [if_neg h]
theorem sessOfTo_zero (s : Int) (ts : List Int) : sessOfTo s ts 0 = [] := rfl
theorem sessOfTo_succ {s : Int} {ts : List Int} {k : Nat} (h : k < ts.length) : sessOfTo s ts (k + 1) = addAll (sessOfTo s ts k) (iat ts k, iat ts k + s) := by
  unfold sessOfTo timesW
  rw [List.take_succ_eq_append_getElem h, List.map_append, List.map_singleton, many_snoc]
  simp [iat, h]
theorem timesW_ok {s : Int} {ts : List Int} (h1 : 1 ≤ s) (h2 : s ≤ 100) : ∀ {k : Nat}, k ≤ ts.length → (∀ i, i < k → isT (iat ts i)) → ∀ x ∈ timesW s ts k, winOk x := by
  intro k hk h x hx
  unfold timesW at hx
  obtain ⟨t, ht, rfl⟩ := List.mem_map.1 hx
  obtain ⟨i, hi, rfl⟩ := List.getElem_of_mem ht
  rw [List.length_take] at hi
  have := h i (by omega)
  rw [List.getElem_take]
  have e : iat ts i = ts[i]'(by omega) := by simp [iat, show i < ts.length by omega]
  rw [e] at this
  unfold isT at this
  unfold winOk
  simp only
  omega
theorem sessOfTo_srt {s : Int} {ts : List Int} (h1 : 1 ≤ s) (h2 : s ≤ 100) {k : Nat} (hk : k ≤ ts.length) (h : ∀ i, i < k → isT (iat ts i)) : Srt (sessOfTo s ts k) := many_srt srt_nil (timesW_ok h1 h2 hk h)
theorem sessOfTo_len (s : Int) (ts : List Int) (k : Nat) : (sessOfTo s ts k).length ≤ k := by
  have := many_length (timesW s ts k) []
  unfold sessOfTo
  have h2 : (timesW s ts k).length ≤ k := by simp [timesW]; omega
  simp only [List.length_nil] at this
  omega
theorem sessOf_len (k s t : Int) (ts : List Int) : (sessOf k s t ts).length ≤ 300 := by
  by_cases h : ofOk k s t ts
  · rw [sessOf_yes h]; exact Nat.le_trans (sessOfTo_len _ _ _) h.2.2.1
  · rw [sessOf_no h]; simp
theorem of_addOk {s : Int} {ts : List Int} (h1 : 1 ≤ s) (h2 : s ≤ 100) (h3 : ts.length ≤ 300) {k : Nat} (hk : k < ts.length) (h : ∀ i, i < k + 1 → isT (iat ts i)) : addOk (sessOfTo s ts k) (iat ts k, iat ts k + s) := by
  refine ⟨(sessOk_iff _).2 ⟨by have := sessOfTo_len s ts k; omega, sessOfTo_srt h1 h2 (by omega) (fun i hi => h i (by omega))⟩, ?_, ?_⟩
  · have := h k (by omega)
    unfold isT at this
    unfold winOk
    simp only
    omega
  · rw [← sessOfTo_succ hk]
    have := sessOfTo_len s ts (k + 1)
    omega
theorem winsOf_at {k s t tm : Int} (hd : defOk k s t) (hk : k = 3) (ht : isT tm) : winsOf k s t tm = [(tm, tm + s)] := by subst hk; exact winsOf_sess hd ht
theorem int_cells {w wr : World} {A : Option Addr} {ts : List Int} (h : Rd w A (iz ts)) (hbel : Below w.heap.size w wr) {k : Nat} (hk : k < ts.length) :
    ∃ b off, A = some ⟨b, off, none⟩ ∧ ∀ u : Bel wr, u.w.cell? ⟨b, off + k, none⟩ = some (.int .i64 (iat ts k)) := by
  obtain ⟨b, off, rfl, hlt, hc⟩ := Rd.cells (zs := ts) (n := ts.length) (M := 1) h (by omega) hk
  have h0 := hc 0 (by omega)
  simp only [Nat.mul_one, Nat.add_zero] at h0
  exact ⟨b, off, rfl, fun u => ((below_trans hbel u.ok).cell (p := ⟨b, off + k, none⟩) hlt).trans h0⟩

set_option maxRecDepth 100000 in
set_option maxHeartbeats 4000000 in
theorem specSessOf_any (k s t : Int) (A : Option Addr) (n ca : Nat) (ts : List Int) (w : World) (hA : Rd w A (iz ts)) (hz : ts.length = n) (hn : n ≤ 1048576) :
    Calls Try.prog 19 #[.agg #[.int .i64 k, .int .i64 s, .int .i64 t], .slice A n ca] w (WbRes (sessOf k s t ts) (tf (ofOk k s t ts)) w) := by
  have HR := Lib.hid hA
  have HZ := Lib.hid hz
  clear hA hz
  obtain ⟨k0, k1, k2⟩ := (Own.new w 25 [.int .i64 k, .int .i64 s, .int .i64 t]).three
  by_cases hd : defOk k s t
  · have HD := Lib.hid hd
    by_cases hk3 : k = 3
    · subst hk3
      by_cases hl : n ≤ 300
      · have hs1 := hd.2.2.1
        have hs2 := hd.2.2.2.1
        clear hd
        go_enter Try.func19, Try.ntmps19
        go_wp2_with fail
        refine (as_bool (tf_yes HD.out).symm (specWinOk_any 3 s t _)).mono ?_
        rintro e w1 ⟨rfl, hb1⟩
        obtain ⟨ho, hb⟩ := box_own (cs := [.int .i64 3, .int .i64 s, .int .i64 t]) hb1
        clear hb1 k0 k1 k2
        obtain ⟨k0, k1, k2⟩ := ho.three
        have hlw := ho.lt
        go_wp2
        clear k0 k1 k2
        go_loopw [6, 7] (fun s6 s7 wr => ∃ (i m : Nat) (A6 : Option Addr) (c6 : Nat), i ≤ n ∧ m ≤ 300 ∧ s7 = .int .i64 (i : Int) ∧ s6 = .slice A6 m c6 ∧ Hid ((sessOfTo s ts i).length = m ∧ ∀ j, j < i → isT (iat ts j)) ∧
          wr.ownsRow w.heap.size 32 2 (.slice A6 m c6) m (ez (sessOfTo s ts i)) ∧ Own wr w.heap.size 25 [.int .i64 3, .int .i64 s, .int .i64 t] ∧ Below w.heap.size w wr) (fun _ s7 _ => n - (intOf s7).toNat)
        case atStart =>
          refine ⟨0, 0, some ⟨w1.heap.size, 0, none⟩, 0, Nat.zero_le _, Nat.zero_le _, rfl, rfl, Lib.hid ⟨rfl, fun j hj => by omega⟩, owns_empty (Own.new w1 32 []) hb.size, ho.alloc _, below_trans hb (below_alloc _ _)⟩
        case round =>
          obtain ⟨i, m, A6, c6, hi, hm, rfl, rfl, HT, hrow, hbx, hbel⟩ := hrel
          by_cases hlt : i < n
          · have hlm : i < ts.length := by rw [HZ.out]; exact hlt
            have HS := Lib.hid (sessOfTo_succ (s := s) hlm)
            have HNo := Lib.hid (show ¬ isT (iat ts i) → ¬ ofOk 3 s t ts from fun h q => h (q.2.2.2 i hlm))
            have HYes := Lib.hid (show isT (iat ts i) → addOk (sessOfTo s ts i) (iat ts i, iat ts i + s) ∧ ∀ j, j < i + 1 → isT (iat ts j) from fun h => by
              have hj : ∀ j, j < i + 1 → isT (iat ts j) := fun j hj => by
                by_cases e : j = i
                · rw [e]; exact h
                · exact HT.out.2 j (by omega)
              exact ⟨of_addOk hs1 hs2 (by rw [HZ.out]; exact hl) hlm hj, hj⟩)
            have HLN := Lib.hid (show (sessOfTo s ts (i + 1)).length ≤ 300 from by have := sessOfTo_len s ts (i + 1); omega)
            obtain ⟨bb, off, rfl, c0⟩ := int_cells HR.out hbel hlm
            have c0' := c0 ⟨wr, Below.refl _ _⟩
            simp only at c0'
            have q0 : ∀ u : Bel wr, u.w.cell? ⟨w.heap.size, 0, none⟩ = some (.int .i64 3) := fun u => (hbx.grow u.ok).three.1
            have q1 : ∀ u : Bel wr, u.w.cell? ⟨w.heap.size, 1, none⟩ = some (.int .i64 s) := fun u => (hbx.grow u.ok).three.2.1
            have q2 : ∀ u : Bel wr, u.w.cell? ⟨w.heap.size, 2, none⟩ = some (.int .i64 t) := fun u => (hbx.grow u.ok).three.2.2
            generalize hx : iat ts i = x at *
            have HX := Lib.hid hx
            clear hx
            by_cases hT : isT x
            · have HT1 := Lib.hid (HYes.out hT)
              have HW := Lib.hid (fun W => (show Calls Try.prog 17 #[.agg #[.int .i64 3, .int .i64 s, .int .i64 t], .int .i64 x] W (WsRes [(x, x + s)] W) from by have := specWinsOf_any 3 s t x W; rw [winsOf_at HD.out rfl hT] at this; exact this))
              have HTT := Lib.hid (tf_yes hT).symm
              clear hT HYes HNo
              go_wp2_with fail
              refine (as_bool HTT.out (l05Time_any x _)).mono ?_
              rintro e _ ⟨rfl, rfl⟩
              obtain ⟨m4, hm4⟩ : ∃ m4, Hid ((sessOfTo s ts (i + 1)).length = m4) := ⟨_, Lib.hid rfl⟩
              have HT4 : Hid ((sessOfTo s ts (i + 1)).length = m4 ∧ ∀ j, j < i + 1 → isT (iat ts j)) := Lib.hid ⟨hm4.out, HT1.out.2⟩
              have hm5 : m4 ≤ 300 := by rw [← hm4.out]; exact HLN.out
              have HC := Lib.hid (fun W (h : Below wr.heap.size wr W) => (show Calls Try.prog 26 #[.slice A6 m c6, .agg #[.int .i64 x, .int .i64 (x + s)]] W (WbAt m4 (sessOfTo s ts (i + 1)) true W) from by
                have := specSessAdd_any A6 m c6 (sessOfTo s ts i) x (x + s) W (RowAt.reads (RowAt.of (owns_grow hrow h))) HT.out.1 (by omega)
                rw [← tf_yes HT1.out.1, sessAdd_yes HT1.out.1, ← HS.out] at this
                exact this.mono fun _ _ h => wb_at h hm4.out))
              have q0' := q0 ⟨wr, Below.refl _ _⟩
              have q1' := q1 ⟨wr, Below.refl _ _⟩
              have q2' := q2 ⟨wr, Below.refl _ _⟩
              simp only at q0' q1' q2'
              clear c0 q0 q1 q2
              go_wp2
              go_region_with (first
                | (go_at_call 17; refine ((HW.out _).mono fun _ _ h => wins_one h).mono ?_; rintro e w3 ⟨g, cg, rfl, hg, d0, d1, hb3⟩; have hb3' : Below wr.heap.size wr w3 := below_trans (Below.refl _ _).drew hb3)
                | (go_at_call 26; refine (HC.out _ hb3').mono ?_; rintro e w4 ⟨A4, c4, rfl, hr4, hb4⟩))
              all_goals
                have hbel3 := below_trans hbel hb3'
                have hrow4 := owns_base hr4.1 hbel3.size
                have hbx4 := hbx.grow (below_trans hb3' hb4)
                have hbel4 := below_trans hbel3 hb4
                clear hr4 d0 d1
                go_wp2
                go_roundw
                case rel => exact ⟨i + 1, m4, A4, c4, by omega, hm5, by go_num, rfl, HT4, hrow4, hbx4, hbel4⟩
                case measure => simp [intOf]; omega
            · have HN := Lib.hid (HNo.out hT)
              have HTT := Lib.hid (tf_no hT).symm
              clear hT HYes HNo
              go_wp2_with fail
              refine (as_bool HTT.out (l05Time_any x _)).mono ?_
              rintro e _ ⟨rfl, rfl⟩
              go_wp2
              go_ret2
              exact wb_no (sessOf_no HN.out) HN.out hbel
          · have HE := Lib.hid (show ofOk 3 s t ts from ⟨HD.out, rfl, by rw [HZ.out]; exact hl, fun j hj => HT.out.2 j (by rw [HZ.out] at hj; omega)⟩)
            have hin : i = ts.length := by rw [HZ.out]; omega
            have HE2 := Lib.hid (show sessOf 3 s t ts = sessOfTo s ts i from by rw [sessOf_yes HE.out, hin])
            clear hin
            go_wp2
            go_ret2
            exact wb_yes HE2.out HE.out HT.out.1 ⟨hrow, fun k hk => (hrow.lt k hk).2⟩ hbel
      · have HN := Lib.hid (show ¬ ofOk 3 s t ts from fun h => hl (by rw [← HZ.out]; exact h.2.2.1))
        clear hd
        go_enter Try.func19, Try.ntmps19
        go_wp2_with fail
        refine (as_bool (tf_yes HD.out).symm (specWinOk_any 3 s t _)).mono ?_
        rintro e w1 ⟨rfl, hb1⟩
        obtain ⟨ho, hb⟩ := box_own (cs := [.int .i64 3, .int .i64 s, .int .i64 t]) hb1
        clear hb1 k0 k1 k2
        obtain ⟨k0, k1, k2⟩ := ho.three
        go_wp2
        go_ret2
        exact wb_no (sessOf_no HN.out) HN.out hb
    · have HN := Lib.hid (show ¬ ofOk k s t ts from fun h => hk3 h.2.1)
      have b3 : (k == 3) = false := by simpa using hk3
      clear hd
      go_enter Try.func19, Try.ntmps19
      go_wp2_with fail
      refine (as_bool (tf_yes HD.out).symm (specWinOk_any k s t _)).mono ?_
      rintro e w1 ⟨rfl, hb1⟩
      obtain ⟨ho, hb⟩ := box_own (cs := [.int .i64 k, .int .i64 s, .int .i64 t]) hb1
      clear hb1 k0 k1 k2
      obtain ⟨k0, k1, k2⟩ := ho.three
      go_wp2
      go_ret2
      exact wb_no (sessOf_no HN.out) HN.out hb
  · have HN := Lib.hid (show ¬ ofOk k s t ts from fun h => hd h.1)
    have HD := Lib.hid hd
    clear hd
    go_enter Try.func19, Try.ntmps19
    go_wp2_with fail
    refine (as_bool (tf_no HD.out).symm (specWinOk_any k s t _)).mono ?_
    rintro e w1 ⟨rfl, hb1⟩
    go_wp2
    go_ret2
    exact wb_no (sessOf_no HN.out) HN.out (box_own (cs := [.int .i64 k, .int .i64 s, .int .i64 t]) hb1).2
end Go.Proofs.Ytdphbfapccnhlaa
