/-
  What the laws' own helpers on Mark and Marks return.
-/
import Derived.Test.YtmipieoglcefkaaMarkMath
import Derived.Test.YtmipieoglcefkaaFlat
namespace Go.Proofs.Ytmipieoglcefkaa
open Go.RowKit

/-- a mark as a value -/
abbrev mv (x : Int) (b : Bool) : Value := .agg #[.int .i64 x, .bool b]
/-- marks as a value -/
abbrev msv (G : Int) (v : Value) : Value := .agg #[.int .i64 G, v]

set_option maxHeartbeats 400000 in
theorem eqMark_same (x : Int) (b : Bool) (w : World) :
    Calls Try.prog 52 #[mv x b, mv x b] w fun e w' => e = .returned (.bool true) ∧ Below w.heap.size w w' := by
  have t0 : (x != x) = false := by simp
  have t1 : (b != b) = false := by simp
  go_enter Try.func52, Try.ntmps52
  go_wp2
  go_ret
  exact ⟨rfl, below_trans (below_alloc _ _) (below_alloc _ _)⟩
set_option maxHeartbeats 400000 in
/-- rows that hold the same -/
theorem eqMarkS_same (A B : Option Addr) (n ca cb : Nat) (ms : List Mk) (w : World) (hA : Rd w A (mz ms)) (hB : Rd w B (mz ms)) (hz : ms.length = n) (hn : n ≤ 1048576) :
    Calls Try.prog 45 #[.slice A n ca, .slice B n cb] w fun e w' => e = .returned (.bool true) ∧ Below w.heap.size w w' := by
  have HZ := Lib.hid hz
  clear hz
  have hne : ((n : Int) != (n : Int)) = false := by simp
  go_enter Try.func45, Try.ntmps45
  go_wp2
  go_loopw [5] (fun i wr => ∃ k : Nat, k ≤ n ∧ i = .int .i64 k ∧ Below w.heap.size w wr) (fun i _ => n - (intOf i).toNat)
  case atStart => exact ⟨0, Nat.zero_le _, rfl, Below.refl _ _⟩
  case round =>
    obtain ⟨k, hk, rfl, hbel⟩ := hrel
    by_cases hlt : k < n
    · obtain ⟨ab, ao, rfl, hab, h1⟩ := hA.mark (by rw [HZ.out]; exact hlt)
      obtain ⟨bb, bo, rfl, hbb, h2⟩ := hB.mark (by rw [HZ.out]; exact hlt)
      have a0 : ∀ u : Bel wr, u.w.cell? ⟨ab, ao + k * 2, none⟩ = some (.int .i64 (mat ms k).1) := fun u => (h1 _ (below_trans hbel u.ok)).1
      have a1 : ∀ u : Bel wr, u.w.cell? ⟨ab, ao + k * 2 + 1, none⟩ = some (.bool (mat ms k).2) := fun u => (h1 _ (below_trans hbel u.ok)).2
      have b0 : ∀ u : Bel wr, u.w.cell? ⟨bb, bo + k * 2, none⟩ = some (.int .i64 (mat ms k).1) := fun u => (h2 _ (below_trans hbel u.ok)).1
      have b1 : ∀ u : Bel wr, u.w.cell? ⟨bb, bo + k * 2 + 1, none⟩ = some (.bool (mat ms k).2) := fun u => (h2 _ (below_trans hbel u.ok)).2
      clear h1 h2 hab hbb
      generalize (mat ms k).1 = y0 at *
      generalize (mat ms k).2 = y1 at *
      go_wp2
      refine wp_region_bel (by kernel_rfl) (by kernel_rfl) ?_
      repeat (go_big_quiet_step ((go_at_call 52; exact bel_of _ (eqMark_same y0 y1 _))))
      refine wpQuiet_nil ?_
      rintro _ ⟨u, rfl⟩
      go_wp2
      go_roundw
      case rel => exact ⟨k + 1, by omega, by go_num, below_trans hbel u.ok⟩
      case measure => simp [intOf]; omega
    · go_wp2
      go_ret
      exact ⟨rfl, hbel⟩
set_option maxHeartbeats 400000 in
theorem eqMarks_same (G : Int) (A B : Option Addr) (n ca cb : Nat) (ms : List Mk) (w : World) (hA : Rd w A (mz ms)) (hB : Rd w B (mz ms)) (hz : ms.length = n) (hn : n ≤ 1048576) :
    Calls Try.prog 23 #[msv G (.slice A n ca), msv G (.slice B n cb)] w fun e w' => e = .returned (.bool true) ∧ Below w.heap.size w w' := by
  have hne : (G != G) = false := by simp
  have HA := Lib.hid (hA.below (below_trans (below_alloc w (.cells #[.int .i64 G, .slice A n ca] 26)) (below_alloc _ (.cells #[.int .i64 G, .slice B n cb] 26))))
  have HB := Lib.hid (hB.below (below_trans (below_alloc w (.cells #[.int .i64 G, .slice A n ca] 26)) (below_alloc _ (.cells #[.int .i64 G, .slice B n cb] 26))))
  go_enter Try.func23, Try.ntmps23
  go_wp2_with fail
  refine (eqMarkS_same A B n ca cb ms _ HA.out HB.out hz hn).mono ?_
  rintro e w1 ⟨rfl, hb⟩
  have hb2 := below_trans (below_trans (below_alloc w _) (below_alloc _ _)) hb
  clear hb
  go_wp2
  go_ret
  exact ⟨rfl, hb2⟩
set_option maxHeartbeats 400000 in
theorem toMark_any (x : Int) (b : Bool) (w : World) :
    Calls Try.prog 53 #[mv x b] w fun e w' => e = .returned (mv x b) ∧ Below w.heap.size w w' := by
  go_enter Try.func53, Try.ntmps53
  go_wp2
  refine bodyPost_ret (v := mv x b) (by simp [results, Try.results53, go_sem]) rfl ⟨rfl, ?_⟩
  exact below_trans (below_trans (below_alloc _ _) (below_alloc _ _)) (below_alloc _ _)
theorem info_Mark : (Try.prog.info? 36).map (fun i => (i.zero, i.size, i.bytes)) = some (some (.agg #[.int .i64 0, .bool false]), 2, 16) := by kernel_rfl
theorem made_zeros_Mark (n : Nat) : madeCells (Value.agg #[.int .i64 0, .bool false]).cells (n * 2) = (mz (List.replicate n (0, false))).toArray := by
  apply Array.ext
  · simp [madeCells, mz_length]
  · intro i h1 h2
    have h0 : i < n * 2 := by simpa [madeCells] using h1
    have e : ∀ j, j < n → mat (List.replicate n ((0 : Int), false)) j = (0, false) := fun j hj => by simp [mat, hj]
    have h : i = i / 2 * 2 ∨ i = i / 2 * 2 + 1 := by omega
    apply Option.some.inj
    rw [← Array.getElem?_eq_getElem, ← Array.getElem?_eq_getElem]
    rcases h with h | h
    · have q : ((mz (List.replicate n ((0 : Int), false))).toArray)[i / 2 * 2]? = some (.int .i64 0) := by
        rw [List.getElem?_toArray, mz_lo (by simp; omega), e _ (by omega)]
      rw [h, q, Array.getElem?_eq_getElem (by rw [← h]; exact h1)]
      simp [madeCells, Value.cells]
    · have q : ((mz (List.replicate n ((0 : Int), false))).toArray)[i / 2 * 2 + 1]? = some (.bool false) := by
        rw [List.getElem?_toArray, mz_hi (by simp; omega), e _ (by omega)]
      rw [h, q, Array.getElem?_eq_getElem (by rw [← h]; exact h1)]
      simp [madeCells, Value.cells, show (i / 2 * 2 + 1) % 2 = 1 by omega]
theorem make_Mark (n : Nat) (hn : n ≤ 1048576) (W : World) : (Instr.makeSlice 24 (.int .i64 (n : Int)) (.int .i64 (n : Int))).run Try.prog W = .ok (.slice (some ⟨W.heap.size, 0, none⟩) n n) (W.alloc (.cells (mz (List.replicate n (0, false))).toArray 36)) := by
  obtain ⟨i0, hi, hz0, hz1, hz2⟩ := info_parts info_Mark
  have h := run_make (P := Try.prog) W 24 36 i0 (.agg #[.int .i64 0, .bool false]) Try.underlying24 hi hz0 .i64 .i64 n n (by omega) (by omega) (by rw [hz2]; omega) (by omega)
  rw [hz1, Int.toNat_natCast, made_zeros_Mark] at h
  exact h

/-- the first k of them have been copied -/
def copyToM (ms : List Mk) (k : Nat) : List Mk := ms.take k ++ List.replicate (ms.length - k) (0, false)
theorem copyToM_zero (ms : List Mk) : copyToM ms 0 = List.replicate ms.length (0, false) := by simp [copyToM]
theorem copyToM_all (ms : List Mk) : copyToM ms ms.length = ms := by simp [copyToM]
theorem copyToM_length {ms : List Mk} {k : Nat} (h : k ≤ ms.length) : (copyToM ms k).length = ms.length := by simp [copyToM]; omega
theorem copyToM_set {ms : List Mk} {k : Nat} (h : k < ms.length) : (copyToM ms k).set k ((mat ms k).1, (mat ms k).2) = copyToM ms (k + 1) := by
  have e : ms.length - k = (ms.length - (k + 1)) + 1 := by omega
  unfold copyToM
  rw [e, List.replicate_succ, List.set_append, if_neg (by rw [List.length_take]; omega)]
  rw [show k - (ms.take k).length = 0 by rw [List.length_take]; omega, List.set_cons_zero]
  rw [List.take_succ_eq_append_getElem h, show ((mat ms k).1, (mat ms k).2) = ms[k] by simp [mat, h]]
  rw [List.append_assoc]
  rfl
set_option maxHeartbeats 1000000 in
theorem toMarkS_any (A : Option Addr) (n ca : Nat) (ms : List Mk) (w : World) (hA : Rd w A (mz ms)) (hz : ms.length = n) (hn : n ≤ 1048576) :
    Calls Try.prog 49 #[.slice A n ca] w fun e w' => ∃ g, e = .returned (.slice (some ⟨g, 0, none⟩) n n) ∧ w.heap.size ≤ g ∧ Own w' g 36 (mz ms) ∧ Below w.heap.size w w' := by
  have hmk := make_Mark n hn
  have HZ := Lib.hid hz
  clear hz
  go_enter Try.func49, Try.ntmps49
  go_wp2
  clear hmk
  go_loopw [4] (fun i wr => ∃ k : Nat, k ≤ n ∧ i = .int .i64 k ∧ Own wr w.heap.size 36 (mz (copyToM ms k)) ∧ w.heap.size < wr.heap.size ∧ Below w.heap.size w wr) (fun i _ => n - (intOf i).toNat)
  case atStart => exact ⟨0, Nat.zero_le _, rfl, by rw [copyToM_zero, HZ.out]; exact Own.new _ _ _, by simp, below_alloc _ _⟩
  case round =>
    obtain ⟨k, hk, rfl, hown, hsz, hbel⟩ := hrel
    by_cases hlt : k < n
    · have hlm : k < ms.length := by rw [HZ.out]; exact hlt
      obtain ⟨b, off, rfl, hb, hc⟩ := hA.mark hlm
      have d0 := (hc _ hbel).1
      have d1 := (hc _ hbel).2
      clear hc
      go_wp2_with fail
      refine (toMark_any (mat ms k).1 (mat ms k).2 _).mono ?_
      rintro e w1 ⟨rfl, hb1⟩
      have ho1 := hown.grow hb1
      have hbel1 := below_trans hbel hb1
      have hsz1 : w.heap.size < w1.heap.size := by have := hb1.size; omega
      clear hown hbel hb1 hsz d0 d1
      have f0 := ho1.free (k * 2)
      have f1 := ho1.free (k * 2 + 1)
      have hcl : k < (copyToM ms k).length := by rw [copyToM_length (by omega)]; exact hlm
      have e0 : w1.cell? ⟨w.heap.size, k * 2, none⟩ = some (.int .i64 (mat (copyToM ms k) k).1) := by
        rw [ho1.cell, mz_lo hcl]
      have e1 : w1.cell? ⟨w.heap.size, k * 2 + 1, none⟩ = some (.bool (mat (copyToM ms k) k).2) := by
        rw [ho1.cell, mz_hi hcl]
      have s2 := (ho1.set (k * 2) (.int .i64 (mat ms k).1)).set (k * 2 + 1) (.bool (mat ms k).2)
      rw [mz_set hcl, copyToM_set hlm] at s2
      have HS := Lib.hid s2
      clear s2
      go_wp2
      go_roundw
      case rel => exact ⟨k + 1, by omega, by go_num, HS.out, by simpa using hsz1, (hbel1.setCell (Nat.le_refl _) _).setCell (Nat.le_refl _) _⟩
      case measure => simp [intOf]; omega
    · go_wp2
      go_ret
      refine ⟨w.heap.size, rfl, Nat.le_refl _, ?_, hbel⟩
      have hkn : k = ms.length := by rw [HZ.out]; omega
      rw [hkn, copyToM_all] at hown
      exact hown
set_option maxHeartbeats 1000000 in
theorem toMarks_any (G : Int) (A : Option Addr) (n ca : Nat) (ms : List Mk) (w : World) (hA : Rd w A (mz ms)) (hz : ms.length = n) (hn : n ≤ 1048576) :
    Calls Try.prog 27 #[msv G (.slice A n ca)] w fun e w' => ∃ g, e = .returned (msv G (.slice (some ⟨g, 0, none⟩) n n)) ∧ w.heap.size ≤ g ∧ Own w' g 36 (mz ms) ∧ Below w.heap.size w w' := by
  go_enter Try.func27, Try.ntmps27
  go_wp2_with fail
  have o1 : Own (((w.alloc (.cells #[.int .i64 G, .slice A n ca] 44)).alloc (.cells #[.int .i64 0, .slice none 0 0] 26)).alloc (.cells #[.int .i64 G, .slice none 0 0] 26)) (w.heap.size + 1) 26 [.int .i64 0, .slice none 0 0] := by
    have := (Own.new (w.alloc (.cells #[.int .i64 G, .slice A n ca] 44)) 26 [.int .i64 0, .slice none 0 0]).alloc (.cells #[.int .i64 G, .slice none 0 0] 26)
    simpa using this
  have o2 : Own (((w.alloc (.cells #[.int .i64 G, .slice A n ca] 44)).alloc (.cells #[.int .i64 0, .slice none 0 0] 26)).alloc (.cells #[.int .i64 G, .slice none 0 0] 26)) (w.heap.size + 1 + 1) 26 [.int .i64 G, .slice none 0 0] := by
    have := Own.new ((w.alloc (.cells #[.int .i64 G, .slice A n ca] 44)).alloc (.cells #[.int .i64 0, .slice none 0 0] 26)) 26 [.int .i64 G, .slice none 0 0]
    simpa using this
  have b3 := below_trans (below_trans (below_alloc w (.cells #[.int .i64 G, .slice A n ca] 44)) (below_alloc _ (.cells #[.int .i64 0, .slice none 0 0] 26))) (below_alloc _ (.cells #[.int .i64 G, .slice none 0 0] 26))
  refine (toMarkS_any A n ca ms _ (hA.below b3) hz hn).mono ?_
  rintro e w1 ⟨g, rfl, hg, hown, hb⟩
  have hg2 : w.heap.size + 1 + 1 < g := by simp at hg; omega
  have p1 := o1.grow hb
  have p2 := o2.grow hb
  have hb2 := below_trans b3 hb
  clear o1 o2 b3 hb hg hA
  obtain ⟨d0, d1⟩ := p1.two
  obtain ⟨e0, e1⟩ := p2.two
  have f10 := p1.free 0
  have f11 := p1.free 1
  have f21 := p2.free 1
  go_wp2
  refine bodyPost_ret (v := msv G (.slice (some ⟨g, 0, none⟩) n n)) (by simp [results, Try.results27, go_sem, d0, d1]) rfl ⟨g, rfl, by omega, ?_, ?_⟩
  · exact ((hown.far (by simp; omega) _).far (by simp; omega) _).far (by simp; omega) _
  · exact ((hb2.setCell (by simp; omega) _).setCell (by simp) _).setCell (by simp) _
set_option maxHeartbeats 400000 in
theorem szMarkS_any (A : Option Addr) (n ca : Nat) (left : Int) (w : World) (h0 : 0 ≤ left) (h1 : left ≤ 1048576) (hn : n ≤ 9223372036854775807) :
    Calls Try.prog 48 #[.slice A n ca, .int .i64 left] w fun e w' => e = .returned (.int .i64 (lessF left n)) ∧ w = w' := by
  by_cases h : left - (n : Int) < 0
  · go_enter Try.func48, Try.ntmps48
    go_wp2
    go_ret
    exact ⟨ret_int (by simp [lessF, h]), rfl⟩
  · go_enter Try.func48, Try.ntmps48
    go_wp2
    go_ret
    exact ⟨ret_int (by simp [lessF]; omega), rfl⟩
set_option maxHeartbeats 400000 in
theorem szMarks_any (G : Int) (A : Option Addr) (n ca : Nat) (left : Int) (w : World) (h0 : 0 ≤ left) (h1 : left ≤ 1048576) (hn : n ≤ 9223372036854775807) :
    Calls Try.prog 26 #[msv G (.slice A n ca), .int .i64 left] w fun e w' => e = .returned (.int .i64 (lessF left n)) ∧ Below w.heap.size w w' := by
  by_cases h : left - (n : Int) < 0
  · have e1 : lessF left n = -1 := by simp [lessF, h]
    go_enter Try.func26, Try.ntmps26
    go_wp2_with (go_at_call 48; refine (as_int e1 (szMarkS_any A n ca left _ h0 h1 hn)).mono ?_; rintro e w' ⟨rfl, rfl⟩)
    go_ret
    exact ⟨ret_int e1.symm, below_alloc _ _⟩
  · have e1 : lessF left n = left - n := by simp [lessF]; omega
    have hp : 0 ≤ left - (n : Int) := by omega
    have E1 := Lib.hid e1
    clear e1
    go_enter Try.func26, Try.ntmps26
    go_wp2_with (go_at_call 48; refine (as_int E1.out (szMarkS_any A n ca left _ h0 h1 hn)).mono ?_; rintro e w' ⟨rfl, rfl⟩)
    go_ret
    exact ⟨ret_int E1.out.symm, below_alloc _ _⟩
end Go.Proofs.Ytmipieoglcefkaa
