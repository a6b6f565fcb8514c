/-
  The program's WideText.
-/
import Derived.Test.YtkhboanlccfajaaDoorTextA
import Derived.Test.YtkhboanlccfajaaDoorWideA
namespace Go.Proofs.YtkhboanlccfajaaDoor
open Go.RowKit

theorem trimZ_le (l : List UInt8) : (trimZ l).length ≤ l.length := by
  induction l with
  | nil => simp [trimZ]
  | cons x l ih => simp only [trimZ]; split <;> simp <;> omega
theorem dec_len {g : Nat} (h : g < 10 ^ 39) (h0 : g ≠ 0) : (dec g).length ≤ 39 := by
  rw [← (trim_pad 39 g h).2 h0]
  have := trimZ_le (pad 39 g)
  rwa [pad_length] at this
def decS (x : Int) : List UInt8 := if x < 0 then 45 :: dec x.natAbs else dec x.natAbs

theorem trimZ_drop (l : List UInt8) : Lib.trimLeftB l 48 = trimZ l := by
  unfold Lib.trimLeftB
  induction l with
  | nil => rfl
  | cons x l ih =>
    simp only [List.dropWhile_cons, trimZ]
    by_cases h : x = 48
    · simp [h, ih]
    · simp [h]

set_option maxRecDepth 100000 in
set_option maxHeartbeats 1000000 in
theorem trimLeft_s (s r : ByteArray) (hs : s.toList.isEmpty = false) (w : World) (hT : ∀ W, Calls Tryd.prog 31 #[.string s, .int .u8 48] W fun e w' => e = .returned (.string r) ∧ W = w') :
    Calls Tryd.prog 23 #[.string s, .string ⟨#[48]⟩] w fun e w' => e = .returned (.string r) ∧ w = w' := by
  have HT := Lib.hid hT
  clear hT
  go_enter Tryd.func23, Tryd.ntmps23
  go_wp2_with (go_at_call 31; refine (HT.out _).mono ?_; rintro e w' ⟨rfl, rfl⟩)
  go_ret
  exact ⟨rfl, rfl⟩

set_option maxHeartbeats 1000000 in
theorem magnitude_any (ah al x : Int) (w : World) (hx : Wr x) (e1 : ah = hi x) (e2 : al = lo x) :
    Calls Tryd.prog 25 #[.agg #[.int .i64 ah, .int .u64 al]] w (TwoRes w (x.natAbs / 18446744073709551616) (x.natAbs % 18446744073709551616)) := by
  by_cases h0 : x < 0
  · have hn0 : ah < 0 := by rw [e1, hi_neg hx]; exact h0
    have r1 : IntKind.u64.wrap (hi (-x)) = ((x.natAbs / 18446744073709551616 : Nat) : Int) := by rw [wrapU]; unfold Wr at hx; unfold hi; omega
    have r2 : lo (-x) = ((x.natAbs % 18446744073709551616 : Nat) : Int) := by unfold lo; omega
    have HE := Lib.hid (And.intro e1 e2)
    clear e1 e2 hx h0
    have HN := Lib.hid (fun W => implWideNeg_any ah al x W HE.out.1 HE.out.2)
    revert r1 HN
    rw [r2]
    generalize x.natAbs / 18446744073709551616 = q1
    generalize x.natAbs % 18446744073709551616 = q2
    generalize hi (-x) = hx'
    intro r1 HN
    clear r2 HE
    go_enter Tryd.func25, Tryd.ntmps25
    go_wp2_with fail
    refine (HN.out _).mono ?_
    rintro e w1 ⟨rfl, hb1⟩
    have o1 := (Own.new w 26 [.int .i64 ah, .int .u64 al]).grow hb1
    replace hb1 := below_trans (below1 _ _) hb1
    obtain ⟨c0, c1⟩ := o1.two
    have f0 := o1.free 0
    have f1 := o1.free 1
    have hS := own_set2 o1 (.int .i64 hx') (.int .u64 (q2 : Int))
    have hT := below_set2 hb1 (Nat.le_refl _) (.int .i64 hx') (.int .u64 (q2 : Int))
    go_wp2
    clear c0 c1 f0 f1 o1
    revert hS hT
    generalize (w1.setCell ⟨w.heap.size, 0, none⟩ (.int .i64 hx')).setCell ⟨w.heap.size, 1, none⟩ (.int .u64 (q2 : Int)) = w2
    intro hS hT
    have g0 : ∀ u : Bel w2, u.w.cell? ⟨w.heap.size, 0, none⟩ = some (.int .i64 hx') := fun u => (hS.grow u.ok).two.1
    have g1 : ∀ u : Bel w2, u.w.cell? ⟨w.heap.size, 1, none⟩ = some (.int .u64 (q2 : Int)) := fun u => (hS.grow u.ok).two.2
    refine wp_region_bel (by kernel_rfl) (by kernel_rfl) ?_
    repeat (go_big_quiet_step (fail))
    refine wpQuiet_nil ?_
    rintro _ ⟨u, rfl⟩
    have hb3 := below_trans hT u.ok
    clear g0 g1
    go_wp2
    go_ret2
    exact ⟨rfl, hb3⟩
  · have hn0 : ¬ ah < 0 := by rw [e1, hi_neg hx]; exact h0
    have r1 : IntKind.u64.wrap ah = ((x.natAbs / 18446744073709551616 : Nat) : Int) := by rw [wrapU, e1]; unfold Wr at hx; unfold hi; omega
    have r2 : al = ((x.natAbs % 18446744073709551616 : Nat) : Int) := by rw [e2]; unfold lo; omega
    clear e1 e2 hx h0
    revert r1 r2
    generalize x.natAbs / 18446744073709551616 = q1
    generalize x.natAbs % 18446744073709551616 = q2
    intro r1 r2
    subst r2
    have hS := Own.new w 26 [.int .i64 ah, .int .u64 (q2 : Int)]
    have g0 : ∀ u : Bel (w.alloc (.cells #[.int .i64 ah, .int .u64 (q2 : Int)] 26)), u.w.cell? ⟨w.heap.size, 0, none⟩ = some (.int .i64 ah) := fun u => (hS.grow u.ok).two.1
    have g1 : ∀ u : Bel (w.alloc (.cells #[.int .i64 ah, .int .u64 (q2 : Int)] 26)), u.w.cell? ⟨w.heap.size, 1, none⟩ = some (.int .u64 (q2 : Int)) := fun u => (hS.grow u.ok).two.2
    go_enter Tryd.func25, Tryd.ntmps25
    go_wp2
    refine wp_region_bel (by kernel_rfl) (by kernel_rfl) ?_
    repeat (go_big_quiet_step (fail))
    refine wpQuiet_nil ?_
    rintro _ ⟨u, rfl⟩
    have hb3 := below_trans (below1 _ _) u.ok
    clear g0 g1 hS
    go_wp2
    go_ret2
    exact ⟨rfl, hb3⟩

theorem minus_text (D : List UInt8) : (⟨#[45]⟩ : ByteArray) ++ ⟨D.toArray⟩ = ⟨(45 :: D).toArray⟩ := by
  apply ByteArray.ext
  simp
theorem toList_data (s : ByteArray) : s.toList = s.data.toList := by
  exact ByteArray.toList_eq s
theorem trimLeft_any (l : List UInt8) (hl : l ≠ []) (w : World) :
    Calls Tryd.prog 23 #[.string ⟨l.toArray⟩, .string ⟨#[48]⟩] w fun e w' => e = .returned (.string ⟨(trimZ l).toArray⟩) ∧ w = w' :=
  trimLeft_s ⟨l.toArray⟩ ⟨(trimZ l).toArray⟩ (by rw [toList_data]; simpa using hl) w (fun W => trimZ_drop l ▸ trimByte l W)

set_option maxHeartbeats 1000000 in
theorem implWideText_any (ah al x : Int) (w : World) (hx : Wr x) (e1 : ah = hi x) (e2 : al = lo x) :
    Calls Tryd.prog 15 #[.agg #[.int .i64 ah, .int .u64 al]] w fun e w' => e = .returned (.string ⟨(decS x).toArray⟩) ∧ Below w.heap.size w w' := by
  by_cases hz : x = 0
  · subst hz
    obtain rfl : ah = 0 := by rw [e1]; decide
    obtain rfl : al = 0 := by rw [e2]; decide
    have hd : decS 0 = [48] := by unfold decS; rw [if_neg (by decide), show (0 : Int).natAbs = 0 from rfl, dec_small (by decide)]; rfl
    rw [hd]
    clear e1 e2 hx hd
    go_enter Tryd.func15, Tryd.ntmps15
    go_wp2
    go_ret
    exact ⟨rfl, below1 _ _⟩
  · have hne : ¬ (ah = 0 ∧ al = 0) := fun h => hz (by
      have := wr_eq hx
      rw [← e1, ← e2, h.1, h.2] at this
      omega)
    have hZ : x.natAbs < 10 ^ 39 := by unfold Wr at hx; omega
    have hZ0 : x.natAbs ≠ 0 := by omega
    have HM := Lib.hid (fun W => magnitude_any ah al x W hx e1 e2)
    have HW := Lib.hid (fun W => wideDigits_any (x.natAbs / 18446744073709551616) (x.natAbs % 18446744073709551616) x.natAbs W (by unfold Wr at hx; omega) (by omega) (by omega) hZ)
    have HT := Lib.hid (fun W => (trim_pad 39 x.natAbs hZ).2 hZ0 ▸ trimLeft_any (pad 39 x.natAbs) (by intro e; have := congrArg List.length e; simp [pad_length] at this) W)
    have hDl := dec_len hZ hZ0
    have hsg : ah < 0 ↔ x < 0 := by rw [e1]; exact hi_neg hx
    revert HM HW HT
    generalize x.natAbs / 18446744073709551616 = q1
    generalize x.natAbs % 18446744073709551616 = q2
    intro HM HW HT
    unfold decS
    by_cases h0 : x < 0
    · have hn0 : ah < 0 := hsg.2 h0
      rw [if_pos h0]
      clear hz hZ hZ0 e1 e2 hx hsg h0
      generalize dec x.natAbs = D at *
      have hf : (ah == 0) = false := by simp; omega
      have hDl' : ¬ 9223372036854775807 < 1 + D.length := by omega
      clear hDl hne
      go_enter Tryd.func15, Tryd.ntmps15
      go_wp2_with fail
      refine (HM.out _).mono ?_
      rintro e w1 ⟨rfl, hb1⟩
      have o1 := (Own.new w 26 [.int .i64 ah, .int .u64 al]).grow hb1
      replace hb1 := below_trans (below1 _ _) hb1
      go_wp2_with fail
      refine (HW.out _).mono ?_
      rintro e w2 ⟨rfl, hb2⟩
      replace o1 := o1.grow hb2
      replace hb2 := below_trans hb1 hb2
      go_wp2_with fail
      refine (HT.out _).mono ?_
      rintro e w3 ⟨rfl, rfl⟩
      obtain ⟨c0, c1⟩ := o1.two
      go_wp2
      go_ret
      exact ⟨by rw [← minus_text]; rfl, hb2⟩
    · have hn0 : ¬ ah < 0 := fun h => h0 (hsg.1 h)
      rw [if_neg h0]
      clear hz hZ hZ0 e1 e2 hx hsg h0
      generalize dec x.natAbs = D at *
      clear hDl
      by_cases ha : ah = 0
      · subst ha
        have hf : (al == 0) = false := by simp; exact fun h => hne ⟨rfl, h⟩
        clear hne hn0
        go_enter Tryd.func15, Tryd.ntmps15
        go_wp2_with fail
        refine (HM.out _).mono ?_
        rintro e w1 ⟨rfl, hb1⟩
        have o1 := (Own.new w 26 [.int .i64 0, .int .u64 al]).grow hb1
        replace hb1 := below_trans (below1 _ _) hb1
        go_wp2_with fail
        refine (HW.out _).mono ?_
        rintro e w2 ⟨rfl, hb2⟩
        replace o1 := o1.grow hb2
        replace hb2 := below_trans hb1 hb2
        go_wp2_with fail
        refine (HT.out _).mono ?_
        rintro e w3 ⟨rfl, rfl⟩
        obtain ⟨c0, c1⟩ := o1.two
        go_wp2
        go_ret
        exact ⟨rfl, hb2⟩
      · have hf : (ah == 0) = false := by simp; exact ha
        clear hne
        go_enter Tryd.func15, Tryd.ntmps15
        go_wp2_with fail
        refine (HM.out _).mono ?_
        rintro e w1 ⟨rfl, hb1⟩
        have o1 := (Own.new w 26 [.int .i64 ah, .int .u64 al]).grow hb1
        replace hb1 := below_trans (below1 _ _) hb1
        go_wp2_with fail
        refine (HW.out _).mono ?_
        rintro e w2 ⟨rfl, hb2⟩
        replace o1 := o1.grow hb2
        replace hb2 := below_trans hb1 hb2
        go_wp2_with fail
        refine (HT.out _).mono ?_
        rintro e w3 ⟨rfl, rfl⟩
        obtain ⟨c0, c1⟩ := o1.two
        go_wp2
        go_ret
        exact ⟨rfl, hb2⟩
end Go.Proofs.YtkhboanlccfajaaDoor
