/-
  The row of the four greatest numbers, behind a pointer: what put and list do; TopOf of the program.
-/
import Derived.Test.YtlmlckgnmkjkdaaAggMath
import Derived.Test.YtlmlckgnmkjkdaaIntsKit
import Derived.Test.YtlmlckgnmkjkdaaAppT
import Derived.Test.YtlmlckgnmkjkdaaOnly
import Derived.Laws.CopyOwn
import Derived.Deep.DeepCutAuto
import Derived.Deep.CutBlock
namespace Go.Proofs.Ytlmlckgnmkjkdaa
open Go.RowKit

/-- 'copy' onto a block that is known whole: that block alone is written. -/
theorem copy_run {P : Program} {w : World} {dT sT ty elem : TypeId} (hu : P.underlying dT = some (.slice elem)) (hsz : (P.info? elem).map (·.size) = some 1)
    {dLen dCap sLen sCap g off : Nat} {cur : List Value} {t : TypeId} (hg : Own w g t cur) {ad : Addr} {cs : List Value} (hn : cs.length = Nat.min sLen dLen)
    (hsrc : ∀ j v, cs[j]? = some v → w.cell? (ad.add j) = some v) (hfit : off + cs.length ≤ cur.length) (h1 : ∀ v ∈ cs, v.oneCell' = true) :
    ∃ w2, (Builtin.copy_ #[dT, sT] ty #[.slice (some ⟨g, off, none⟩) dLen dCap, .slice (some ad) sLen sCap]).run P w = .ok (.int .i64 (cs.length : Int)) w2 ∧ Hid (Own w2 g t (splice cur off cs)) ∧ Hid (w.grownBy w2 (some g)) := by
  refine ⟨_, run_copy_row (P := P) w dT sT ty elem g off dLen dCap ad sLen sCap cur.toArray t cs hu hsz hg hn hsrc (by simpa using hfit) h1, ?_, ?_⟩
  · exact Lib.hid (show _ = _ by simpa [splice] using setRow_heap w g _ _ t _ hg)
  · exact Lib.hid ⟨rfl, rfl, rfl, by simp [World.setRow], fun k hk hne => setRow_other w g k _ (fun e => hne (by rw [e]))⟩
theorem own_drew {w : World} {g : Nat} {t : TypeId} {cs : List Value} (h : Own w g t cs) : Own w.drew g t cs := h

theorem copy_run0 {P : Program} {w : World} {dT sT ty elem : TypeId} (hu : P.underlying dT = some (.slice elem)) (hsz : (P.info? elem).map (·.size) = some 1)
    {dLen dCap sLen sCap g : Nat} {dp sp : Option Addr} {cur : List Value} {t : TypeId} (hg : Own w g t cur) (hn : Nat.min sLen dLen = 0) :
    ∃ w2, (Builtin.copy_ #[dT, sT] ty #[.slice dp dLen dCap, .slice sp sLen sCap]).run P w = .ok (.int .i64 0) w2 ∧ Hid (Own w2 g t cur) ∧ Hid (w.grownBy w2 (some g)) :=
  ⟨w, run_copy_none (P := P) w dT sT ty elem dp sp dLen dCap sLen sCap hu hsz hn, Lib.hid hg, Lib.hid (World.grownBy.refl _ _)⟩
theorem src_of {w : World} {g : Nat} {t : TypeId} {cur cs rest : List Value} (k : Nat) (hg : Own w g t cur) (h : cur.drop k = cs ++ rest) : ∀ j v, cs[j]? = some v → w.cell? ((⟨g, k, none⟩ : Addr).add j) = some v := fun j v hv => by
  have hj : j < cs.length := (List.getElem?_eq_some_iff.1 hv).1
  rw [plain_add, hg.cell, ← List.getElem?_drop, h, List.getElem?_append_left hj, hv]
theorem rd_far {w w' : World} {A : Option Addr} {g : Nat} {cs : List Value} (h : Rd w A cs) (hg : w.grownBy w' (some g)) (hA : 0 < cs.length → ∀ ad, A = some ad → ad.block ≠ g) : Rd w' A cs := fun k u hu => by
  obtain ⟨ad, e, hlt, hc⟩ := h k u hu
  refine ⟨ad, e, Nat.lt_of_lt_of_le hlt hg.size, ?_⟩
  have hb := hg.block ad.block hlt (fun e' => by cases e'; exact hA (by have := (List.getElem?_eq_some_iff.1 hu).1; omega) ad e rfl)
  rw [← hc]
  simp only [World.cell?, add_block, hb]

/-- the cells of a row of numbers, and what lies behind it in its block -/
def rowCells (l : List Int) (rs : List Value) : List Value := iz (pad4 l) ++ .int .i64 (l.length : Int) :: rs
theorem rowCells_at {l : List Int} {rs : List Value} (hl : l.length ≤ 4) {k : Nat} (hk : k < 4) : (rowCells l rs)[k]? = some (.int .i64 (iat (pad4 l) k)) := by
  unfold rowCells
  rw [List.getElem?_append_left (by rw [iz_length, pad4_length hl]; exact hk), iz_iat (by rw [pad4_length hl]; exact hk)]
theorem rowCells_size {l : List Int} {rs : List Value} (hl : l.length ≤ 4) : (rowCells l rs)[4]? = some (.int .i64 (l.length : Int)) := by
  unfold rowCells
  rw [List.getElem?_append_right (by rw [iz_length, pad4_length hl]; omega), iz_length, pad4_length hl]; rfl

theorem rowCells_four {l : List Int} {a b c d : Int} {rs : List Value} (h : pad4 l = [a, b, c, d]) : rowCells l rs = .int .i64 a :: .int .i64 b :: .int .i64 c :: .int .i64 d :: .int .i64 (l.length : Int) :: rs := by
  unfold rowCells; rw [h]; rfl

def foldTo (vs l : List Int) (k : Nat) : List Int := (vs.take k).foldl put4 l
theorem foldTo_zero (vs l : List Int) : foldTo vs l 0 = l := rfl
theorem foldTo_all (vs l : List Int) : foldTo vs l vs.length = vs.foldl put4 l := by simp [foldTo]
theorem foldTo_succ {vs l : List Int} {k : Nat} (h : k < vs.length) : foldTo vs l (k + 1) = put4 (foldTo vs l k) (iat vs k) := by
  unfold foldTo; rw [take_snoc h]; simp

theorem four_of {l : List Int} (h : l.length = 4) : ∃ a b c d, l = [a, b, c, d] := by
  match l, h with
  | [a, b, c, d], _ => exact ⟨a, b, c, d, rfl⟩
set_option maxRecDepth 100000 in
set_option maxHeartbeats 2000000 in
theorem put_any (g : Nat) (t : TypeId) (l : List Int) (rs : List Value) (A : Option Addr) (n c : Nat) (vs : List Int) (w : World) (ho : Own w g t (rowCells l rs)) (hl : l.length ≤ 4) (hd : Desc l)
    (hR : Rd w A (iz vs)) (hz : vs.length = n) (hn : n ≤ 1048576) (hA : 0 < vs.length → ∀ ad, A = some ad → ad.block ≠ g) :
    Calls Try.prog 145 #[.pointer (some ⟨g, 0, none⟩), .slice A n c] w fun e w' => e = .returned (.tuple #[]) ∧ Own w' g t (rowCells (vs.foldl put4 l) rs) ∧ w.grownBy w' (some g) := by
  have HR := Lib.hid (fun W (h : w.grownBy W (some g)) => rd_far hR h (by rw [iz_length]; exact hA))
  have HZ := Lib.hid hz
  have HL := Lib.hid (fun k => (show (foldTo vs l k).length ≤ 4 from fold_le hl _))
  have HD := Lib.hid (fun k => (show Desc (foldTo vs l k) from fold_desc hd _))
  have HSI := Lib.hid (show (Try.prog.info? 3).map (·.size) = some 1 by kernel_rfl)
  clear hR hA hz hl hd
  go_enter Try.func145, Try.ntmps145
  go_wp2
  go_loopw [9] (fun s9 wr => ∃ k : Nat, k ≤ n ∧ s9 = .int .i64 k ∧ Own wr g t (rowCells (foldTo vs l k) rs) ∧ w.grownBy wr (some g)) (fun s9 _ => n - (intOf s9).toNat)
  case atStart => exact ⟨0, Nat.zero_le _, rfl, ho, World.grownBy.refl _ _⟩
  case round =>
    obtain ⟨k, hk, rfl, hown, hgr⟩ := hrel
    clear ho
    by_cases hlt : k < n
    · have hlv : k < vs.length := by rw [HZ.out]; exact hlt
      obtain ⟨ad, rfl, hc0⟩ := rd_int (HR.out _ hgr) (by omega)
      have hc := hc0 wr (Below.refl _ _) k hlv
      clear hc0
      have HS := Lib.hid (foldTo_succ (l := l) hlv)
      have HL0 := Lib.hid (HL.out k)
      have HD0 := Lib.hid (HD.out k)
      generalize foldTo vs l k = cur at *
      generalize iat vs k = v at *
      obtain ⟨s, HSZ⟩ : ∃ s, Hid (cur.length = s) := ⟨_, Lib.hid rfl⟩
      have c4 : wr.cell? ⟨g, 4, none⟩ = some (.int .i64 (s : Int)) := by rw [hown.cell, rowCells_size HL0.out, HSZ.out]
      have hs4 : s ≤ 4 := by have := HL0.out; have := HSZ.out; omega
      have HCI := Lib.hid (fun i (h : i < 4) => (hown.cell i).trans (rowCells_at (rs := rs) HL0.out h))
      go_upto_block 2 with (fail)
      go_cut [6] from 17 to 31 (fun s6 wx => wx = wr ∧ ∃ j : Nat, j ≤ s ∧ s6 = .int .i64 j ∧ Hid ((0 < j → ¬ iat cur (j - 1) < v) ∧ ∀ i, j ≤ i → i < s → iat cur i < v))
      case first =>
        go_wp2_with fail
        go_loop [6] (fun s6 => ∃ j : Nat, j ≤ s ∧ s6 = .int .i64 j ∧ Hid (∀ i, j ≤ i → i < s → iat cur i < v)) (fun s6 => (intOf s6).toNat)
        case atStart => exact ⟨s, Nat.le_refl _, rfl, Lib.hid (fun i h1 h2 => by omega)⟩
        case round =>
          obtain ⟨j, hj, rfl, HJ⟩ := hrel
          cases j with
          | zero =>
            go_wp2_with fail
            go_meet
            case rel => exact ⟨rfl, 0, hj, rfl, Lib.hid ⟨fun h => by omega, HJ.out⟩⟩
          | succ j =>
            have cj := HCI.out j (by omega)
            have HE := Lib.hid (pad4_at (l := cur) (k := j) (by have := HSZ.out; omega))
            rw [HE.out] at cj
            by_cases hv : iat cur j < v
            · have HV := Lib.hid hv
              go_wp2_with fail
              go_round
              case rel =>
                refine ⟨j, by omega, rfl, Lib.hid (fun i h1 h2 => ?_)⟩
                by_cases hij : i = j
                · subst hij; exact HV.out
                · exact HJ.out i (by omega) h2
              case measure => simp [intOf]
            · have HV := Lib.hid hv
              go_wp2_with fail
              go_meet
              case rel => exact ⟨rfl, j + 1, hj, rfl, Lib.hid ⟨fun _ => HV.out, HJ.out⟩⟩
      case rest =>
        obtain ⟨rfl, j, hj, rfl, HP⟩ := hcut
        by_cases hj4 : j = 4
        · subst hj4
          have HF := Lib.hid (put4_full HD0.out (by have := HSZ.out; omega) (HP.out.1 (by omega)))
          go_wp2_with fail
          go_roundw
          case rel => exact ⟨k + 1, by omega, by go_num, by rw [HS.out, HF.out]; exact hown, hgr⟩
          case measure => simp [intOf]; omega
        · have HPP := Lib.hid (pad4_put (v := v) HD0.out HL0.out (by rw [HSZ.out]; exact hj) HP.out.1 (by rw [HSZ.out]; exact HP.out.2))
          obtain ⟨z, hz⟩ : ∃ z : Int, (j : Int) = z := ⟨_, rfl⟩
          rw [hz]
          obtain ⟨a, b, c', d, hX⟩ := four_of (pad4_length HL0.out)
          have HX := Lib.hid hX
          have HSZ2 := Lib.hid (put4_size (v := v) HL0.out)
          clear hX
          have hj5 : j = 0 ∧ z = 0 ∨ j = 1 ∧ z = 1 ∨ j = 2 ∧ z = 2 ∨ j = 3 ∧ z = 3 := by omega
          clear hj4 HP hz
          have HO := Lib.hid (show Own wc.drew g t (.int .i64 a :: .int .i64 b :: .int .i64 c' :: .int .i64 d :: .int .i64 (s : Int) :: rs) by have := own_drew hown; rw [rowCells_four HX.out, HSZ.out] at this; exact this)
          rw [HSZ.out] at HSZ2
          obtain ⟨s', HS'⟩ : ∃ s' : Int, Hid (((put4 cur v).length : Int) = s') := ⟨_, Lib.hid rfl⟩
          rw [HS'.out] at HSZ2
          clear hown
          have q1 : IntKind.i64.wrap 1 = 1 := by decide
          have q2 : IntKind.i64.wrap 2 = 2 := by decide
          have q3 : IntKind.i64.wrap 3 = 3 := by decide
          have q4 : IntKind.i64.wrap 4 = 4 := by decide
          rcases hj5 with ⟨rfl, rfl⟩ | ⟨rfl, rfl⟩ | ⟨rfl, rfl⟩ | ⟨rfl, rfl⟩
          case _ =>
            obtain ⟨w2, hrun, ho2, hg2⟩ := copy_run (off := 1) (dLen := 3) (dCap := 3) (sLen := 4) (sCap := 4) (dT := 29) (sT := 29) (ty := 3) Try.underlying29 HSI.out HO.out (ad := ⟨g, 0, none⟩) (cs := [.int .i64 a, .int .i64 b, .int .i64 c']) rfl (src_of 0 HO.out rfl) (by simp) (by simp [Value.oneCell'])
            replace ho2 := Lib.hid (show Own w2 g t (.int .i64 a :: .int .i64 a :: .int .i64 b :: .int .i64 c' :: .int .i64 (s : Int) :: rs) from ho2.out)
            have hcj : w2.cell? ⟨g, 0, none⟩ = some (.int .i64 a) := ho2.out.cell 0
            have hfj := ho2.out.free 0
            have hc4 : w2.cell? ⟨g, 4, none⟩ = some (.int .i64 (s : Int)) := ho2.out.cell 4
            have hf4 := ho2.out.free 4
            have HN := Lib.hid (show Own ((w2.setCell ⟨g, 0, none⟩ (.int .i64 v)).setCell ⟨g, 4, none⟩ (.int .i64 s')) g t (rowCells (put4 cur v) rs) by
              have h1 := (ho2.out.set 0 (.int .i64 v)).set 4 (.int .i64 s')
              rw [rowCells_four (l := put4 cur v) (a := v) (b := a) (c := b) (d := c') (by rw [HPP.out, HX.out]; rfl), HS'.out]
              exact h1)
            have HG := Lib.hid (only_set (j := 4) (u := .int .i64 s') (only_set (j := 0) (u := .int .i64 v) (grownBy_trans hgr (grownBy_trans (grownBy_of (Below.refl _ _).drew _) hg2.out))))
            clear hgr
            go_upto_region 7 with (fail)
            go_region
            clear hrun
            go_wp2
            go_roundw
            case rel => rw [HSZ2.out]; exact ⟨k + 1, by omega, by go_num, by rw [HS.out]; exact HN.out, HG.out⟩
            case measure => simp [intOf]; omega
          case _ =>
            obtain ⟨w2, hrun, ho2, hg2⟩ := copy_run (off := 2) (dLen := 2) (dCap := 2) (sLen := 3) (sCap := 3) (dT := 29) (sT := 29) (ty := 3) Try.underlying29 HSI.out HO.out (ad := ⟨g, 1, none⟩) (cs := [.int .i64 b, .int .i64 c']) rfl (src_of 1 HO.out rfl) (by simp) (by simp [Value.oneCell'])
            replace ho2 := Lib.hid (show Own w2 g t (.int .i64 a :: .int .i64 b :: .int .i64 b :: .int .i64 c' :: .int .i64 (s : Int) :: rs) from ho2.out)
            have hcj : w2.cell? ⟨g, 1, none⟩ = some (.int .i64 b) := ho2.out.cell 1
            have hfj := ho2.out.free 1
            have hc4 : w2.cell? ⟨g, 4, none⟩ = some (.int .i64 (s : Int)) := ho2.out.cell 4
            have hf4 := ho2.out.free 4
            have HN := Lib.hid (show Own ((w2.setCell ⟨g, 1, none⟩ (.int .i64 v)).setCell ⟨g, 4, none⟩ (.int .i64 s')) g t (rowCells (put4 cur v) rs) by
              have h1 := (ho2.out.set 1 (.int .i64 v)).set 4 (.int .i64 s')
              rw [rowCells_four (l := put4 cur v) (a := a) (b := v) (c := b) (d := c') (by rw [HPP.out, HX.out]; rfl), HS'.out]
              exact h1)
            have HG := Lib.hid (only_set (j := 4) (u := .int .i64 s') (only_set (j := 1) (u := .int .i64 v) (grownBy_trans hgr (grownBy_trans (grownBy_of (Below.refl _ _).drew _) hg2.out))))
            clear hgr
            go_upto_region 7 with (fail)
            go_region
            clear hrun
            go_wp2
            go_roundw
            case rel => rw [HSZ2.out]; exact ⟨k + 1, by omega, by go_num, by rw [HS.out]; exact HN.out, HG.out⟩
            case measure => simp [intOf]; omega
          case _ =>
            obtain ⟨w2, hrun, ho2, hg2⟩ := copy_run (off := 3) (dLen := 1) (dCap := 1) (sLen := 2) (sCap := 2) (dT := 29) (sT := 29) (ty := 3) Try.underlying29 HSI.out HO.out (ad := ⟨g, 2, none⟩) (cs := [.int .i64 c']) rfl (src_of 2 HO.out rfl) (by simp) (by simp [Value.oneCell'])
            replace ho2 := Lib.hid (show Own w2 g t (.int .i64 a :: .int .i64 b :: .int .i64 c' :: .int .i64 c' :: .int .i64 (s : Int) :: rs) from ho2.out)
            have hcj : w2.cell? ⟨g, 2, none⟩ = some (.int .i64 c') := ho2.out.cell 2
            have hfj := ho2.out.free 2
            have hc4 : w2.cell? ⟨g, 4, none⟩ = some (.int .i64 (s : Int)) := ho2.out.cell 4
            have hf4 := ho2.out.free 4
            have HN := Lib.hid (show Own ((w2.setCell ⟨g, 2, none⟩ (.int .i64 v)).setCell ⟨g, 4, none⟩ (.int .i64 s')) g t (rowCells (put4 cur v) rs) by
              have h1 := (ho2.out.set 2 (.int .i64 v)).set 4 (.int .i64 s')
              rw [rowCells_four (l := put4 cur v) (a := a) (b := b) (c := v) (d := c') (by rw [HPP.out, HX.out]; rfl), HS'.out]
              exact h1)
            have HG := Lib.hid (only_set (j := 4) (u := .int .i64 s') (only_set (j := 2) (u := .int .i64 v) (grownBy_trans hgr (grownBy_trans (grownBy_of (Below.refl _ _).drew _) hg2.out))))
            clear hgr
            go_upto_region 7 with (fail)
            go_region
            clear hrun
            go_wp2
            go_roundw
            case rel => rw [HSZ2.out]; exact ⟨k + 1, by omega, by go_num, by rw [HS.out]; exact HN.out, HG.out⟩
            case measure => simp [intOf]; omega
          case _ =>
            obtain ⟨w2, hrun, ho2, hg2⟩ := copy_run0 (dT := 29) (sT := 29) (ty := 3) Try.underlying29 HSI.out HO.out (dp := some ⟨g, 0, none⟩) (sp := some ⟨g, 3, none⟩) (dLen := 0) (dCap := 0) (sLen := 1) (sCap := 1) rfl
            replace ho2 := Lib.hid (show Own w2 g t (.int .i64 a :: .int .i64 b :: .int .i64 c' :: .int .i64 d :: .int .i64 (s : Int) :: rs) from ho2.out)
            have hcj : w2.cell? ⟨g, 3, none⟩ = some (.int .i64 d) := ho2.out.cell 3
            have hfj := ho2.out.free 3
            have hc4 : w2.cell? ⟨g, 4, none⟩ = some (.int .i64 (s : Int)) := ho2.out.cell 4
            have hf4 := ho2.out.free 4
            have HN := Lib.hid (show Own ((w2.setCell ⟨g, 3, none⟩ (.int .i64 v)).setCell ⟨g, 4, none⟩ (.int .i64 s')) g t (rowCells (put4 cur v) rs) by
              have h1 := (ho2.out.set 3 (.int .i64 v)).set 4 (.int .i64 s')
              rw [rowCells_four (l := put4 cur v) (a := a) (b := b) (c := c') (d := v) (by rw [HPP.out, HX.out]; rfl), HS'.out]
              exact h1)
            have HG := Lib.hid (only_set (j := 4) (u := .int .i64 s') (only_set (j := 3) (u := .int .i64 v) (grownBy_trans hgr (grownBy_trans (grownBy_of (Below.refl _ _).drew _) hg2.out))))
            clear hgr
            go_upto_region 7 with (fail)
            go_region
            clear hrun
            go_wp2
            go_roundw
            case rel => rw [HSZ2.out]; exact ⟨k + 1, by omega, by go_num, by rw [HS.out]; exact HN.out, HG.out⟩
            case measure => simp [intOf]; omega
    · go_wp2
      go_end0
      have hkn : k = vs.length := by rw [HZ.out]; omega
      rw [hkn, foldTo_all] at hown
      exact ⟨rfl, hown, hgr⟩

theorem appInt : AppT Try.prog 29 3 (.int .i64 0) 1 8 := by
  obtain ⟨i0, hi, hz0, hz1, hz2⟩ := info_parts info_intK
  exact ⟨Try.underlying29, ⟨i0, hi, hz0, hz1, hz2⟩, rfl, by decide, by decide⟩

set_option maxHeartbeats 2000000 in
theorem list_any (g : Nat) (t : TypeId) (l : List Int) (rs : List Value) (w : World) (ho : Own w g t (rowCells l rs)) (hl : l.length ≤ 4) :
    Calls Try.prog 146 #[.pointer (some ⟨g, 0, none⟩)] w fun e w' => ∃ A c, e = .returned (.slice A l.length c) ∧ w'.ownsRow w.heap.size 3 1 (.slice A l.length c) l.length (iz l) ∧ Below w.heap.size w w' := by
  have c4 : w.cell? ⟨g, 4, none⟩ = some (.int .i64 (l.length : Int)) := by rw [ho.cell, rowCells_size hl]
  have HR := Lib.hid (show Rd w (some ⟨g, 0, none⟩) (iz l) by
    have h0 := ho.rd
    intro k u hu
    have hk : k < l.length := by have := (List.getElem?_eq_some_iff.1 hu).1; rwa [iz_length] at this
    refine h0 k u ?_
    rw [rowCells_at hl (by omega), pad4_at hk, ← iz_iat hk]
    exact hu)
  have HLZ := Lib.hid (show (iz l).length = l.length * 1 by rw [iz_length]; omega)
  have HL1 : Hid (0 + l.length ≤ 2097152) := Lib.hid (by omega)
  obtain ⟨s, HS⟩ : ∃ s, Hid (l.length = s) := ⟨_, Lib.hid rfl⟩
  have E := HS.out
  rw [E] at c4 hl HLZ HL1 ⊢
  clear E
  have hl' := hl
  have h1 : ((s : Int) ≤ 4) := by omega
  clear ho
  go_enter Try.func146, Try.ntmps146
  go_upto_region 1 with (fail)
  go_region_law (refine appInt.step rfl (.const (.slice none 0 0)) (.tmp 10) rfl w.heap.size (.slice none 0 0) 0 [] rfl ⟨rfl, .inl ⟨rfl, rfl⟩⟩ (some ⟨g, 0, none⟩) s 4 (iz l) rfl (HR.out.below (Below.refl _ _).drew) ⟨hl', fun h => by cases h⟩ HLZ.out (iz_one _) HL1.out (Nat.le_refl _) ?_; intro A' c' w1 hown hgrow hb1)
  rw [Nat.zero_add, List.nil_append] at hown
  have hb := (Below.refl w.heap.size w).drew.trans hb1
  go_wp2
  go_ret
  exact ⟨A', c', rfl, hown, hb⟩

/-- The call hands back a row of integers of its own. -/
def IntsRes (zs : List Int) (w : World) (e : Ending) (w' : World) : Prop :=
  ∃ A c, e = .returned (.slice A zs.length c) ∧ RowAt w.heap.size w'.heap.size w' 3 1 (.slice A zs.length c) zs.length (iz zs) ∧ Below w.heap.size w w'
theorem rd_apart {w : World} {A : Option Addr} {vs : List Int} {g : Nat} (hR : Rd w A (iz vs)) (hg : w.heap.size ≤ g) : 0 < vs.length → ∀ ad, A = some ad → ad.block ≠ g := fun h0 ad e => by
  obtain ⟨ad', e', hlt, _⟩ := hR 0 _ (iz_iat h0)
  rw [e] at e'
  injection e' with e'
  subst e'
  omega
theorem below_grown {w w1 w2 : World} {g B : Nat} (h : Below B w w1) (hg : w1.grownBy w2 (some g)) (hB : B ≤ g) (hs : B ≤ w1.heap.size) : Below B w w2 :=
  h.trans ⟨hg.os, hg.tape, hg.output, hg.size, fun k hk => hg.block k (by omega) (by simp; omega)⟩

end Go.Proofs.Ytlmlckgnmkjkdaa
