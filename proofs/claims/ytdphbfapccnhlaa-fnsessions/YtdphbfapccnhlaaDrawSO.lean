/-
  What is drawn for the law of sessions. By gendrawso.py.
-/
import Derived.Test.YtdphbfapccnhlaaDrawWin
namespace Go.Proofs.Ytdphbfapccnhlaa
open Go.RowKit

theorem appInt : AppT Try.prog 33 3 (.int .i64 0) 1 8 := by
  obtain ⟨i0, hi, hz0, hz1, hz2⟩ := info_parts info_intK
  exact ⟨Try.underlying33, ⟨i0, hi, hz0, hz1, hz2⟩, rfl, by decide, by decide⟩
/-- the memory of the draw: its result, its definition (block B), the cursor between them -/
structure DS (w W : World) (g : Nat) (A : Option Addr) (n c M B : Nat) (ds : List Value) : Prop where
  r : Own W w.heap.size 25 [.int .i64 0, .int .i64 0, .int .i64 0]
  b : Own W B 25 ds
  cur : Cur W g A n c M
  bel : Below w.heap.size w W
  hg : w.heap.size < g
  hB : g < B
section
variable {w W W' : World} {g : Nat} {A : Option Addr} {n c M M' B : Nat} {ds : List Value}
theorem DS.far (p : DS w W g A n c M B ds) (hG : W.grownBy W' (some g)) (hC : Cur W' g A n c M') : DS w W' g A n c M' B ds :=
  ⟨own_far p.r hG (by have := p.hg; omega), own_far p.b hG (by have := p.hB; omega), hC, below_cur p.bel hG (Nat.le_of_lt p.hg), p.hg, p.hB⟩
theorem DS.grow (p : DS w W g A n c M B ds) (hb : Below W.heap.size W W') : DS w W' g A n c M B ds := p.far (grownBy_of hb _) (p.cur.grow hb)
theorem DS.more (p : DS w W g A n c M B ds) (hM : M ≤ M') : DS w W g A n c M' B ds := ⟨p.r, p.b, p.cur.more hM, p.bel, p.hg, p.hB⟩
theorem DS.below (p : DS w W g A n c M B ds) (hb : Below (B + 1) W W') : DS w W' g A n c M B ds := by
  have h1 := p.hg
  have h2 := p.hB
  exact ⟨p.r.below hb (by omega), p.b.below hb (by omega), cur_below p.cur hb (by omega), p.bel.trans (hb.mono (by omega)), h1, h2⟩
theorem DS.set (p : DS w W g A n c M B ds) (j : Nat) (u : Value) : DS w (W.setCell ⟨B, j, none⟩ u) g A n c M B (ds.set j u) := by
  have h1 := p.hg
  have h2 := p.hB
  exact ⟨p.r.far (p := ⟨B, j, none⟩) (by simp only; omega) u, p.b.set j u, cur_store p.cur h2 u, p.bel.setCell (p := ⟨B, j, none⟩) (by simp only; omega) u, h1, h2⟩
end
theorem so_ret {w w' : World} {k s t : Int} {ts : List Int} {A' : Option Addr} {n' c' : Nat} {e : Ending} (he : e = .returned (.tuple #[.agg #[.int .i64 k, .int .i64 s, .int .i64 t], .slice A' n' c'])) (hl : ts.length = n') (hn : n' ≤ 301)
    (hr : w'.ownsRow w.heap.size 3 1 (.slice A' n' c') n' (iz ts)) (hb : Below w.heap.size w w') :
    ∃ (k s t : Int) (ts : List Int) (A' : Option Addr) (c' : Nat), e = .returned (.tuple #[.agg #[.int .i64 k, .int .i64 s, .int .i64 t], .slice A' ts.length c']) ∧ ts.length ≤ 301 ∧
      w'.ownsRow w.heap.size 3 1 (.slice A' ts.length c') ts.length (iz ts) ∧ Below w.heap.size w w' := by
  subst hl; exact ⟨k, s, t, ts, A', c', he, hn, hr, hb⟩

set_option maxRecDepth 100000 in
set_option maxHeartbeats 8000000 in
theorem drawSessOf_any (A : Option Addr) (n c : Nat) (w : World) (hA : Byt w A n w.heap.size) (hn : n ≤ 1048576) :
    Calls Try.prog 18 #[.slice A n c] w fun e w' => ∃ (k s t : Int) (ts : List Int) (A' : Option Addr) (c' : Nat), e = .returned (.tuple #[.agg #[.int .i64 k, .int .i64 s, .int .i64 t], .slice A' ts.length c']) ∧ ts.length ≤ 301 ∧
      w'.ownsRow w.heap.size 3 1 (.slice A' ts.length c') ts.length (iz ts) ∧ Below w.heap.size w w' := by
  go_enter Try.func18, Try.ntmps18
  go_wp2_with fail
  refine (l01Open_any A n c _ (byt_grown hA (below_alloc _ _)) hn).mono ?_
  rintro e w1 ⟨g, hg, rfl, hC, hB1⟩
  obtain ⟨hO, hB⟩ := box_own (cs := [.int .i64 0, .int .i64 0, .int .i64 0]) hB1
  simp only [World.size_alloc] at hg
  clear hB1 hA
  go_wp2_with fail
  refine (pick_any g A n c 0 9 _ hC hn (by omega) (by omega) (by omega)).mono ?_
  rintro e w2 ⟨r2, rfl, hr2, hC2, hG2⟩
  have P := Lib.hid (show DS w (w2.alloc (.cells #[.int .i64 3, .int .i64 (1 + (r2 : Int)), .int .i64 0] 25)) g A n c 1 w2.heap.size [.int .i64 3, .int .i64 (1 + (r2 : Int)), .int .i64 0] from
    ⟨(own_far hO hG2 (by omega)).alloc _, Own.new w2 _ [_, _, _], (hC2.grow (below_alloc _ _)).more (by omega), below_trans (below_cur hB hG2 (by omega)) (below_alloc _ _), by omega, hC2.lt⟩)
  clear hO hB hC hC2 hG2
  go_wp2_with fail
  refine (once_any g A n c 1 6 _ P.out.cur hn (by omega) (by omega) (by omega)).mono ?_
  rintro e w3 ⟨b3, rfl, hC3, hG3⟩
  have P3 := Lib.hid (P.out.far hG3 hC3)
  clear P hC3 hG3
  generalize w2.heap.size = B at *
  go_upto_if 15 with (fail)
  go_cut [5] (fun s5 wx => ∃ k s t : Int, s5 = .pointer (some ⟨B, 0, none⟩) ∧ Hid (DS w wx g A n c 150 B [.int .i64 k, .int .i64 s, .int .i64 t]))
  case first =>
    cases b3 with
    | true =>
      go_wp2_with fail
      refine (badWin_any g A n c 2 _ P3.out.cur hn (by omega)).mono ?_
      rintro e w4 ⟨k, s, t, rfl, hC4, hG4⟩
      have P4 := Lib.hid (P3.out.far hG4 hC4)
      have f0 := P4.out.b.free 0
      have f1 := (P4.out.set 0 (.int .i64 k)).b.free 1
      have f2 := ((P4.out.set 0 (.int .i64 k)).set 1 (.int .i64 s)).b.free 2
      obtain ⟨c0, c1, c2⟩ := P4.out.b.three
      have P5 := Lib.hid ((((P4.out.set 0 (.int .i64 k)).set 1 (.int .i64 s)).set 2 (.int .i64 t)).more (M' := 150) (by omega))
      clear P3 P4 hC4 hG4
      go_wp2_with fail
      go_meet
      case rel => exact ⟨k, s, t, rfl, P5⟩
    | false =>
      go_wp2_with fail
      go_meet
      case rel => exact ⟨_, _, _, rfl, Lib.hid (P3.out.more (by omega))⟩
  case rest =>
    obtain ⟨k, s, t, rfl, P4⟩ := hcut
    clear P3
    generalize wc = w4 at *
    have rowE := owns_empty (size := 1) (base := B + 1) (Own.new w4 3 []) P4.out.b.lt
    have P5 := Lib.hid (P4.out.grow (below_alloc w4 (.cells #[] 3)))
    clear P4
    go_wp2_with fail
    refine (size_any g A n c 150 20 _ P5.out.cur hn (by omega) (by omega)).mono ?_
    rintro e w5 ⟨r5, rfl, hr5, hC5, hG5⟩
    have P6 := Lib.hid (P5.out.far hG5 hC5)
    have row6 := owns_far rowE hG5 (owns_lt rowE (by have := P5.out.hB; omega))
    clear rowE P5 hC5 hG5
    go_wp2
    go_loopw [6, 7] (fun s6 s7 wr => ∃ (j : Nat) (ts : List Int) (A6 : Option Addr) (c6 : Nat), j ≤ 20 ∧ s7 = .int .i64 (j : Int) ∧ s6 = .slice A6 ts.length c6 ∧ ts.length + j ≤ 20 ∧ wr.ownsRow (B + 1) 3 1 (.slice A6 ts.length c6) ts.length (iz ts) ∧
      Hid (DS w wr g A n c (151 + (20 - j)) B [.int .i64 k, .int .i64 s, .int .i64 t])) (fun _ s7 _ => (intOf s7).toNat)
    case atStart => exact ⟨r5, [], _, _, hr5, rfl, rfl, by simp; omega, row6, Lib.hid (P6.out.more (by omega))⟩
    case round =>
      obtain ⟨j, ts, A6, c6, hj, rfl, rfl, hts, hrow, PR⟩ := hrel
      clear row6 P6
      have hgB : g < B + 1 := by have := PR.out.hB; omega
      have hBw : B + 1 ≤ wr.heap.size := PR.out.b.lt
      by_cases hj0 : 0 < j
      · go_wp2_with fail
        refine (pick_any g A n c (151 + (20 - j)) 60 _ PR.out.cur hn (by omega) (by omega) (by omega)).mono ?_
        rintro e w6 ⟨r6, rfl, hr6, hC6, hG6⟩
        have P7 := Lib.hid (PR.out.far hG6 hC6)
        have hrow7 := owns_far hrow hG6 (owns_lt hrow hgB)
        have HL1 : Hid (ts.length + 1 ≤ 2097152) := Lib.hid (by omega)
        have hsz := hG6.size
        have hjm : ((j : Int) - 1) = ((j - 1 : Nat) : Int) := by omega
        clear PR hC6 hG6 hrow
        go_wp2_with (at_builtin; refine appInt.own rfl _ (.tmp 28) rfl (B + 1) (.slice A6 ts.length c6) ts.length (iz ts) rfl (hrow7.alloc _) w6.heap.size 1 1 [.int .i64 (r6 : Int)] rfl (Own.new w6 _ _) rfl (iz_one [(r6 : Int)]) HL1 (by simp; omega) ?_)
        intro A8 c8 w8 hown8 hgrow8 hb8
        have P8 := Lib.hid (((P7.out.grow (below_alloc w6 (.cells #[.int .i64 (r6 : Int)] 3))).below hb8).more (M' := 151 + (20 - (j - 1))) (by omega))
        have hrow8 : w8.ownsRow (B + 1) 3 1 (.slice A8 (ts.length + 1) c8) (ts.length + 1) (iz (ts ++ [(r6 : Int)])) := owns_as hown8 (iz_append ts [(r6 : Int)]).symm
        clear P7 hrow7 hown8 hgrow8 hb8
        go_wp2
        go_roundw
        case rel => exact ⟨j - 1, ts ++ [(r6 : Int)], A8, c8, by omega, by go_num, by simp, by simp; omega, by simpa using hrow8, P8⟩
        case measure => simp [intOf]; omega
      · obtain rfl : j = 0 := by omega
        go_wp2_with fail
        refine (pick_any g A n c (151 + (20 - 0)) 12 _ PR.out.cur hn (by omega) (by omega) (by omega)).mono ?_
        rintro e w6 ⟨r6, rfl, hr6, hC6, hG6⟩
        have P7 := Lib.hid (PR.out.far hG6 hC6)
        have hrow7 := owns_far hrow hG6 (owns_lt hrow hgB)
        have hsz := hG6.size
        clear PR hC6 hG6 hrow
        by_cases h0 : r6 = 0
        · subst h0
          go_wp2_with fail
          refine (time_any g A n c _ _ P7.out.cur hn (by omega)).mono ?_
          rintro e w7 ⟨tm, rfl, hC7, hG7⟩
          have P8 := Lib.hid (P7.out.far hG7 hC7)
          have hrow8 := owns_far hrow7 hG7 (owns_lt hrow7 hgB)
          have HL1 : Hid (ts.length + 1 ≤ 2097152) := Lib.hid (by omega)
          have hsz2 := hG7.size
          clear P7 hC7 hG7 hrow7
          go_wp2_with (at_builtin; refine appInt.own rfl _ (.tmp 37) rfl (B + 1) (.slice A6 ts.length c6) ts.length (iz ts) rfl (hrow8.alloc _) w7.heap.size 1 1 [.int .i64 tm] rfl (Own.new w7 _ _) rfl (iz_one [tm]) HL1 (by simp; omega) ?_)
          intro A8 c8 w8 hown8 hgrow8 hb8
          have P9 := Lib.hid ((P8.out.grow (below_alloc w7 (.cells #[.int .i64 tm] 3))).below hb8)
          have hrow9 : w8.ownsRow (B + 1) 3 1 (.slice A8 (ts.length + 1) c8) (ts.length + 1) (iz (ts ++ [tm])) := owns_as hown8 (iz_append ts [tm]).symm
          clear P8 hrow8 hown8 hgrow8 hb8
          have f0 := P9.out.r.free 0
          have f1 := (P9.out.r.set 0 (.int .i64 k)).free 1
          have f2 := ((P9.out.r.set 0 (.int .i64 k)).set 1 (.int .i64 s)).free 2
          obtain ⟨c0, c1, c2⟩ := P9.out.r.three
          obtain ⟨b0, b1, b2⟩ := P9.out.b.three
          obtain ⟨e0, e1, e2⟩ := (((P9.out.r.set 0 (.int .i64 k)).set 1 (.int .i64 s)).set 2 (.int .i64 t)).three
          have HB := Lib.hid (((P9.out.bel.setCell (p := ⟨w.heap.size, 0, none⟩) (Nat.le_refl _) (.int .i64 k)).setCell (p := ⟨w.heap.size, 1, none⟩) (Nat.le_refl _) (.int .i64 s)).setCell (p := ⟨w.heap.size, 2, none⟩) (Nat.le_refl _) (.int .i64 t))
          have hwB : w.heap.size < B + 1 := by have := P9.out.hg; have := P9.out.hB; omega
          have HR := Lib.hid (owns_base (base' := w.heap.size) (owns_far (owns_far (owns_far hrow9 (only_set (g := w.heap.size) (j := 0) (u := .int .i64 k) (World.grownBy.refl _ _)) (owns_lt hrow9 hwB)) (only_set (g := w.heap.size) (j := 1) (u := .int .i64 s) (World.grownBy.refl _ _)) (owns_lt hrow9 hwB)) (only_set (g := w.heap.size) (j := 2) (u := .int .i64 t) (World.grownBy.refl _ _)) (owns_lt hrow9 hwB)) (Nat.le_of_lt hwB))
          clear hrow9 P9
          go_wp2
          refine bodyPost_ret (v := .tuple #[.agg #[.int .i64 k, .int .i64 s, .int .i64 t], .slice A8 (ts.length + 1) c8]) (by simp [results, Try.results18, go_sem, e0, e1, e2]) rfl ?_
          exact so_ret rfl (ts := ts ++ [tm]) (by simp) (by omega) HR.out HB.out
        · have hn0 : ((r6 : Int) == 0) = false := by simp; omega
          by_cases h1 : r6 = 1
          · subst h1
            go_wp2_with fail
            refine (pick_any g A n c _ 2 _ P7.out.cur hn (by omega) (by omega) (by omega)).mono ?_
            rintro e w7 ⟨r7, rfl, hr7, hC7, hG7⟩
            have P8 := Lib.hid (P7.out.far hG7 hC7)
            have hsz2 := hG7.size
            have hmk := make_int (300 + r7) (by omega) w7
            rw [show ((300 + r7 : Nat) : Int) = 300 + (r7 : Int) by omega] at hmk
            have P9 := Lib.hid (P8.out.grow (below_alloc w7 (.cells (iz (List.replicate (300 + r7) 0)).toArray 3)))
            have hrow9 : (w7.alloc (.cells (iz (List.replicate (300 + r7) 0)).toArray 3)).ownsRow (B + 1) 3 1 (.slice (some ⟨w7.heap.size, 0, none⟩) (300 + r7) (300 + r7)) (300 + r7) (iz (List.replicate (300 + r7) 0)) :=
              (Own.new w7 3 (iz (List.replicate (300 + r7) 0))).owns (by omega) (by simp [iz]) (by omega)
            clear P7 P8 hC7 hG7 hrow7
            go_upto_region 15 with (fail)
            clear hmk
            have f0 := P9.out.r.free 0
            have f1 := (P9.out.r.set 0 (.int .i64 k)).free 1
            have f2 := ((P9.out.r.set 0 (.int .i64 k)).set 1 (.int .i64 s)).free 2
            obtain ⟨c0, c1, c2⟩ := P9.out.r.three
            obtain ⟨b0, b1, b2⟩ := P9.out.b.three
            obtain ⟨e0, e1, e2⟩ := (((P9.out.r.set 0 (.int .i64 k)).set 1 (.int .i64 s)).set 2 (.int .i64 t)).three
            have HB := Lib.hid (((P9.out.bel.setCell (p := ⟨w.heap.size, 0, none⟩) (Nat.le_refl _) (.int .i64 k)).setCell (p := ⟨w.heap.size, 1, none⟩) (Nat.le_refl _) (.int .i64 s)).setCell (p := ⟨w.heap.size, 2, none⟩) (Nat.le_refl _) (.int .i64 t))
            have hwB : w.heap.size < B + 1 := by have := P9.out.hg; have := P9.out.hB; omega
            have HR := Lib.hid (owns_base (base' := w.heap.size) (owns_far (owns_far (owns_far hrow9 (only_set (g := w.heap.size) (j := 0) (u := .int .i64 k) (World.grownBy.refl _ _)) (owns_lt hrow9 hwB)) (only_set (g := w.heap.size) (j := 1) (u := .int .i64 s) (World.grownBy.refl _ _)) (owns_lt hrow9 hwB)) (only_set (g := w.heap.size) (j := 2) (u := .int .i64 t) (World.grownBy.refl _ _)) (owns_lt hrow9 hwB)) (Nat.le_of_lt hwB))
            clear hrow9 P9
            go_wp2
            refine bodyPost_ret (v := .tuple #[.agg #[.int .i64 k, .int .i64 s, .int .i64 t], .slice (some ⟨w7.heap.size, 0, none⟩) (300 + r7) (300 + r7)]) (by simp [results, Try.results18, go_sem, e0, e1, e2]) rfl ?_
            exact so_ret rfl (ts := List.replicate (300 + r7) 0) (by simp) (by omega) HR.out HB.out
          · have hn1 : ((r6 : Int) == 1) = false := by simp; omega
            go_upto_region 15 with (fail)
            have f0 := P7.out.r.free 0
            have f1 := (P7.out.r.set 0 (.int .i64 k)).free 1
            have f2 := ((P7.out.r.set 0 (.int .i64 k)).set 1 (.int .i64 s)).free 2
            obtain ⟨c0, c1, c2⟩ := P7.out.r.three
            obtain ⟨b0, b1, b2⟩ := P7.out.b.three
            obtain ⟨e0, e1, e2⟩ := (((P7.out.r.set 0 (.int .i64 k)).set 1 (.int .i64 s)).set 2 (.int .i64 t)).three
            have HB := Lib.hid (((P7.out.bel.setCell (p := ⟨w.heap.size, 0, none⟩) (Nat.le_refl _) (.int .i64 k)).setCell (p := ⟨w.heap.size, 1, none⟩) (Nat.le_refl _) (.int .i64 s)).setCell (p := ⟨w.heap.size, 2, none⟩) (Nat.le_refl _) (.int .i64 t))
            have hwB : w.heap.size < B + 1 := by have := P7.out.hg; have := P7.out.hB; omega
            have HR := Lib.hid (owns_base (base' := w.heap.size) (owns_far (owns_far (owns_far hrow7 (only_set (g := w.heap.size) (j := 0) (u := .int .i64 k) (World.grownBy.refl _ _)) (owns_lt hrow7 hwB)) (only_set (g := w.heap.size) (j := 1) (u := .int .i64 s) (World.grownBy.refl _ _)) (owns_lt hrow7 hwB)) (only_set (g := w.heap.size) (j := 2) (u := .int .i64 t) (World.grownBy.refl _ _)) (owns_lt hrow7 hwB)) (Nat.le_of_lt hwB))
            clear hrow7 P7
            go_wp2
            refine bodyPost_ret (v := .tuple #[.agg #[.int .i64 k, .int .i64 s, .int .i64 t], .slice A6 ts.length c6]) (by simp [results, Try.results18, go_sem, e0, e1, e2]) rfl ?_
            exact so_ret rfl rfl (by omega) HR.out HB.out
end Go.Proofs.Ytdphbfapccnhlaa
