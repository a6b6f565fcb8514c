/-
  The program's digits of a number.
-/
import Derived.Test.YtkhboanlccfajaaDoorTextMath
import Derived.Test.YtkhboanlccfajaaDoorTextLay
import Derived.Test.YtkhboanlccfajaaDoorWideDiv
import Derived.Laws.Rows
import Derived.Laws.CopyRow
import Derived.Laws.Tables
namespace Go.Proofs.YtkhboanlccfajaaDoor
open Go.RowKit

theorem index_row {t e : TypeId} {n : Nat} {cs : Array Value} {i : Nat} {v : Value} (h : Tryd.prog.underlying t = some (.array n e)) (hs : ∀ w, (Go.sizeOf e).run Tryd.prog w = .ok 1 w) (ha : ∀ w, (isAgg e).run Tryd.prog w = .ok false w) (hi : i < n) (hc : cs[i]? = some v) (w : World) :
    (Instr.index t (.agg cs) (.int .i64 (i : Int))).run Tryd.prog w = .ok v w := by
  have h1 : 0 ≤ (i : Int) ∧ (i : Int) < (n : Int) := by omega
  simp [Instr.index, run_underlying h, asIntOf, h1, go_sem, part, hs, ha, hc]
  intro hle
  omega

/-- digits as cells -/
def dz (xs : List Nat) : List Value := xs.map fun n : Nat => Value.int .u8 (n : Int)
theorem dz_length (xs : List Nat) : (dz xs).length = xs.length := by simp [dz]
theorem dz_at {xs : List Nat} {k : Nat} (h : k < xs.length) : (dz xs)[k]? = some (.int .u8 ((xs.getD k 0 : Nat) : Int)) := by simp [dz, h]
theorem dz_set (xs : List Nat) (k n : Nat) : (dz xs).set k (.int .u8 (n : Int)) = dz (xs.set k n) := by simp [dz, List.map_set]
theorem bytes_dz (xs : List Nat) (h : ∀ k, xs.getD k 0 < 10) (k : Nat) (hk : k < xs.length) : Lib.byteCells ((xs.map dby).take (k + 1)) = Lib.byteCells ((xs.map dby).take k) ++ [.int .u8 (48 + ((xs.getD k 0 : Nat) : Int))] := by
  rw [List.take_succ_eq_append_getElem (by simpa using hk)]
  simp only [Lib.byteCells, List.map_append, List.map_cons, List.map_nil, List.getElem_map]
  rw [dby_nat (by have := h k; simpa [hk] using this)]
  simp [hk]

/-- the builder is as it was, where a block of another type was written -/
theorem builder_far {T e : TypeId} {B b d k : Nat} {p u : Value} {bs : List Value} {w : World} {t : TypeId} {ds : List Value} (h : Lib.BuilderAt T e B b p bs w) (hd : Own w d t ds) (ht : t ≠ e) (hdb : d ≠ b) : Lib.BuilderAt T e B b p bs (w.setCell ⟨d, k, none⟩ u) := by
  obtain ⟨hB, v, hbk, hown, hne⟩ := h
  refine ⟨hB, v, (Below.heap_setCell w ⟨d, k, none⟩ u b (Ne.symm hdb)).trans hbk, ?_, hne⟩
  exact hown.kept (row := some d) ⟨rfl, rfl, rfl, by simp [World.setCell], fun k' _ hk => Below.heap_setCell _ _ _ _ (fun e => hk (by simp [e]))⟩ (.inr (types_far hd ht hown))

theorem builder_row {T e : TypeId} {B b d : Nat} {p : Value} {bs : List Value} {w : World} {t : TypeId} {ds : List Value} {cs : Array Value} (h : Lib.BuilderAt T e B b p bs w) (hd : Own w d t ds) (ht : t ≠ e) (hdb : d ≠ b) : Lib.BuilderAt T e B b p bs (w.setRow d cs) := by
  obtain ⟨hB, v, hbk, hown, hne⟩ := h
  have hk : ∀ k, k ≠ d → (w.setRow d cs).heap[k]? = w.heap[k]? := fun k hk => by simp [World.setRow, Array.getElem?_modify, Ne.symm hk]
  refine ⟨hB, v, (hk b (Ne.symm hdb)).trans hbk, ?_, hne⟩
  exact hown.kept (row := some d) ⟨rfl, rfl, rfl, by simp [World.setRow], fun k' _ hk' => hk k' (fun e => hk' (by rw [e]))⟩ (.inr (types_far hd ht hown))

/-- the text of the first k groups -/
def txt (gs : List Nat) (k : Nat) : List UInt8 := ((gs.take k).map (pad 13)).flatten
theorem txt_next {gs : List Nat} {k : Nat} (h : k < gs.length) : txt gs (k + 1) = txt gs k ++ pad 13 (gs.getD k 0) := by
  unfold txt
  rw [List.take_succ_eq_append_getElem h, List.map_append, List.flatten_append]
  congr 1
  simp [h]

theorem own_row {w : World} {d : Nat} {t : TypeId} {ds : List Value} (h : Own w d t ds) (cs : List Value) : Own (w.setRow d cs.toArray) d t cs := by
  unfold Own at h ⊢
  simp [World.setRow, Array.getElem?_modify, h]
theorem below_row {w wr : World} {B d : Nat} (h : Below B w wr) (hB : B ≤ wr.heap.size) (hd : B ≤ d) (cs : Array Value) : Below B w (wr.setRow d cs) :=
  h.grown (row := some d) ⟨rfl, rfl, rfl, by simp [World.setRow], fun k _ hk => by
    have : d ≠ k := fun e => hk (by rw [e])
    simp [World.setRow, Array.getElem?_modify, this]⟩ hB (fun k e => by cases e; exact hd)
theorem txt_len (gs : List Nat) (k : Nat) : (txt gs k).length ≤ 13 * gs.length := by
  unfold txt
  rw [List.length_flatten, List.map_map]
  have : ((gs.take k).map (List.length ∘ pad 13)).sum ≤ 13 * (gs.take k).length := by
    generalize gs.take k = l
    induction l with
    | nil => simp
    | cons x l ih => simp [pad_length] at ih ⊢; omega
  have h2 : (gs.take k).length ≤ gs.length := by simp; omega
  omega

/-- thirteen zeros -/
def zeros : List Value := List.replicate 13 (.int .u8 0)
theorem fill_zero (g : Nat) : dz (fill g 0) = zeros := rfl
theorem clear_digits (d : Nat) (w : World) (ds : List Value) (hd : Own w d 70 ds) (hl : ds.length = 13) :
    (Builtin.clear_ #[22] 0 #[.slice (some ⟨d, 0, none⟩) 13 13]).run Tryd.prog w = .ok (.tuple #[]) (w.setRow d zeros.toArray) := by
  have h1 := run_storeCells_from (P := Tryd.prog) d 70 zeros 0 ds.toArray w hd (by simp [zeros, hl]) (by decide)
  simp only [List.take_zero, List.nil_append] at h1
  have hz : ∀ w, (zeroValue 5).run Tryd.prog w = .ok (.int .u8 0) w := Tryd.zeroValue5
  have hc : (Builtin.zeroCells (Value.int .u8 0).cells 13).toList = zeros := by unfold Builtin.zeroCells; rw [Array.toList_map, Array.toList_range]; rfl
  simp [Builtin.clear_, run_underlying Tryd.underlying22, hz, hc, h1, Result.andThen]
/-- the three groups of thirteen digits -/
theorem groups_of {h l X : Nat} (hX : X = h * 18446744073709551616 + l) (hX2 : X < 10 ^ 39) (hl : l < 18446744073709551616) (hh : h < 18446744073709551616) : ∃ h1 l1 h2 : Nat,
    (∀ W, Calls Tryd.prog 35 #[.int .u64 (h : Int), .int .u64 (l : Int), .int .u64 10000000000000] W (ThreeRes W h1 l1 (X % 10 ^ 13))) ∧
    (∀ W, Calls Tryd.prog 35 #[.int .u64 (h1 : Int), .int .u64 (l1 : Int), .int .u64 10000000000000] W (ThreeRes W h2 (X / 10 ^ 26) (X / 10 ^ 13 % 10 ^ 13))) := by
  have e1 := halves_sum h l 10000000000000 (by decide)
  have e2 := halves_lt (h := h) (n := 10000000000000) (by decide) hl
  have e3 := halves_mod h l 10000000000000
  have c1 := fun W => divideHalves_any h l 10000000000000 W (by decide) (by decide) hh hl
  rw [← hX] at e1 e3
  generalize (h % 10000000000000 * 18446744073709551616 + l) / 10000000000000 = l1 at *
  rw [e3] at c1
  have hh1 : h / 10000000000000 < 18446744073709551616 := by omega
  generalize h / 10000000000000 = h1 at *
  have f1 := halves_sum h1 l1 10000000000000 (by decide)
  have f2 := halves_lt (h := h1) (n := 10000000000000) (by decide) e2
  have f3 := halves_mod h1 l1 10000000000000
  have c2 := fun W => divideHalves_any h1 l1 10000000000000 W (by decide) (by decide) hh1 e2
  rw [← e1] at f1 f3
  rw [f3] at c2
  have hq : X / 10000000000000 / 10000000000000 = X / 10 ^ 26 := by rw [Nat.div_div_eq_div_mul]
  rw [hq] at f1
  have hsm : X / 10 ^ 26 < 10 ^ 13 := by rw [Nat.div_lt_iff_lt_mul (by decide)]; exact Nat.lt_of_lt_of_le hX2 (by decide)
  generalize (h1 % 10000000000000 * 18446744073709551616 + l1) / 10000000000000 = f at *
  generalize h1 / 10000000000000 = h2 at *
  obtain rfl : f = X / 10 ^ 26 := by omega
  exact ⟨h1, l1, h2, c1, c2⟩

set_option maxRecDepth 100000 in
set_option maxHeartbeats 4000000 in
theorem wideDigits_any (h l X : Nat) (w : World) (hh : h < 18446744073709551616) (hl : l < 18446744073709551616) (hX : X = h * 18446744073709551616 + l) (hX2 : X < 10 ^ 39) :
    Calls Tryd.prog 24 #[.int .u64 (h : Int), .int .u64 (l : Int)] w fun e w' => e = .returned (.string ⟨(pad 39 X).toArray⟩) ∧ Below w.heap.size w w' := by
  obtain ⟨h1, l1, h2, c1, c2⟩ := groups_of hX hX2 hl hh
  have H1 := Lib.hid c1
  have H2 := Lib.hid c2
  have HP := Lib.hid (show txt [X / 10 ^ 26, X / 10 ^ 13 % 10 ^ 13, X % 10 ^ 13] 3 = pad 39 X by
    have p1 := pad_app 26 13 X
    have p2 := pad_app 13 13 (X / 10 ^ 13)
    rw [show X / 10 ^ 13 / 10 ^ 13 = X / 10 ^ 26 by rw [Nat.div_div_eq_div_mul]] at p2
    rw [show (26 : Nat) = 13 + 13 from rfl, p2] at p1
    rw [show (39 : Nat) = 13 + 13 + 13 from rfl, p1]
    simp [txt])
  have g1 : X / 10 ^ 26 < 10 ^ 13 := by rw [Nat.div_lt_iff_lt_mul (by decide)]; exact Nat.lt_of_lt_of_le hX2 (by decide)
  have g2 : X / 10 ^ 13 % 10 ^ 13 < 10 ^ 13 := Nat.mod_lt _ (by decide)
  have g3 : X % 10 ^ 13 < 10 ^ 13 := Nat.mod_lt _ (by decide)
  clear c1 c2 hX hX2 hh hl
  generalize X / 10 ^ 26 = a1 at *
  generalize X / 10 ^ 13 % 10 ^ 13 = a2 at *
  generalize X % 10 ^ 13 = a3 at *
  have HG := Lib.hid (show ∀ k, [a1, a2, a3].getD k 0 < 10 ^ 13 from fun k => by
    match k with
    | 0 => exact g1
    | 1 => exact g2
    | 2 => exact g3
    | k + 3 => simp)
  clear g1 g2 g3
  go_enter Tryd.func24, Tryd.ntmps24
  go_wp2_with fail
  refine (H1.out _).mono ?_
  rintro e w1 ⟨rfl, hb1⟩
  go_wp2_with fail
  refine (H2.out _).mono ?_
  rintro e w2 ⟨rfl, hb2⟩
  replace hb2 := below_trans hb1 hb2
  have oB0 : Lib.BuilderAt 69 5 w.heap.size w2.heap.size (.pointer none) [] ((w2.alloc (.cells #[.pointer none, .slice none 0 0] 69)).alloc (.cells zeros.toArray 70)) :=
    ⟨hb2.size, .slice none 0 0, ((Own.new w2 69 [.pointer none, .slice none 0 0]).alloc _), World.ownsRow_nil _ _ _ _, by simp [Value.ownBlock]⟩
  have oD0 : Own ((w2.alloc (.cells #[.pointer none, .slice none 0 0] 69)).alloc (.cells zeros.toArray 70)) (w2.heap.size + 1) 70 zeros := by
    have := Own.new (w2.alloc (.cells #[.pointer none, .slice none 0 0] 69)) 70 zeros
    simpa using this
  have hb4 : Below w.heap.size w ((w2.alloc (.cells #[.pointer none, .slice none 0 0] 69)).alloc (.cells zeros.toArray 70)) := below_trans (below_trans hb2 (below_alloc _ _)) (below_alloc _ _)
  have hB : w.heap.size ≤ w2.heap.size := hb2.size
  simp only [zeros, List.replicate, List.toArray] at oB0 hb4
  have HD0 := Lib.hid oD0
  have HB0 := Lib.hid oB0
  have HL0 := Lib.hid hb4
  clear oD0 oB0 hb4 hb2 hb1
  go_wp2
  have hw0 : ∃ W0, W0 = (w2.alloc (.cells #[.pointer none, .slice none 0 0] 69)).alloc (.cells zeros.toArray 70) := ⟨_, rfl⟩
  go_loopw [34] (fun i wr => ∃ (k : Nat) (p : Value), k ≤ 3 ∧ i = .int .i64 k ∧ (p = .pointer none ∨ p = selfAt w2.heap.size) ∧ Lib.BuilderAt 69 5 w.heap.size w2.heap.size p (Lib.byteCells (txt [a1, a2, a3] k)) wr ∧ Own wr (w2.heap.size + 1) 70 zeros ∧ Below w.heap.size w wr) (fun i _ => 3 - (intOf i).toNat)
  case atStart => exact ⟨0, .pointer none, by omega, rfl, .inl rfl, HB0.out, HD0.out, HL0.out⟩
  case round =>
    clear HD0 HB0 HL0 hw0
    obtain ⟨k, p, hk, rfl, hp, hbd, hod, hbel⟩ := hrel
    generalize w2.heap.size = b at *
    have HBl := Lib.hid hB
    by_cases hlt : (k : Int) < 3
    · obtain ⟨g, hg, hgm, hgt⟩ : ∃ g : Nat, #[Value.int .u64 (a1 : Int), .int .u64 (a2 : Int), .int .u64 (a3 : Int)][k]? = some (.int .u64 (g : Int)) ∧ g < 10 ^ 13 ∧ txt [a1, a2, a3] (k + 1) = txt [a1, a2, a3] k ++ pad 13 g := by
        have hG := HG.out k
        refine ⟨[a1, a2, a3].getD k 0, ?_, hG, txt_next (by simp; omega)⟩
        rcases (show k = 0 ∨ k = 1 ∨ k = 2 by omega) with rfl | rfl | rfl <;> rfl
      have hix := index_row (cs := #[Value.int .u64 (a1 : Int), .int .u64 (a2 : Int), .int .u64 (a3 : Int)]) Tryd.underlying71 Tryd.sizeOf24 Tryd.isAgg24 (show k < 3 by omega) hg
      have g0 : 0 ≤ (g : Int) := by omega
      have g1 : (g : Int) ≤ 18446744073709551615 := by
        have h13 : (10 : Nat) ^ 13 = 10000000000000 := by decide
        omega
      have HGm := Lib.hid (And.intro hgm hgt)
      clear hg hgm hgt
      generalize hgi : (g : Int) = gi at *
      have HGi := Lib.hid hgi
      clear hgi
      go_wp2
      go_loopw [12, 13] (fun x i wr' => ∃ (m : Nat) (xi ji : Int), m ≤ 13 ∧ x = .int .u64 xi ∧ i = .int .i64 ji ∧ 0 ≤ xi ∧ xi ≤ 18446744073709551615 ∧ Hid (xi = ((g / 10 ^ m : Nat) : Int) ∧ ji = 12 - (m : Int)) ∧ Own wr' (b + 1) 70 (dz (fill g m)) ∧ Lib.BuilderAt 69 5 w.heap.size b p (Lib.byteCells (txt [a1, a2, a3] k)) wr' ∧ Below w.heap.size w wr') (fun x _ _ => (intOf x).toNat)
      case atStart => exact ⟨0, gi, 12, by omega, rfl, rfl, g0, g1, Lib.hid ⟨by rw [← HGi.out]; simp, by omega⟩, by rw [fill_zero]; exact hod, hbd, hbel⟩
      case round =>
        clear hod hbd hbel
        obtain ⟨m, xi, ji, hm, rfl, rfl, x0, x1, hxj, hod, hbd, hbel⟩ := hrel
        by_cases hx : xi = 0
        · subst hx
          have hfd : fill g m = fill g 13 := fill_done (by have := hxj.out.1; omega)
          rw [hfd] at hod
          clear hxj hfd
          have hsz : (Tryd.prog.info? 70).map (·.size) = some (dz (fill g 13)).toArray.size := by
            rw [show (dz (fill g 13)).toArray.size = 13 by simp [dz_length, fill_length]]; kernel_rfl
          have HSz := Lib.hid hsz
          clear hsz
          go_wp2_with (refine wpList_load_row rfl 70 _ rfl (b + 1) rfl 70 (dz (fill g 13)).toArray (0, 0) _ hod Tryd.underlying70 rfl HSz.out ?_)
          go_loopw [49] (fun i wr' => ∃ (j : Nat) (p : Value), j ≤ 13 ∧ i = .int .i64 j ∧ (p = .pointer none ∨ p = selfAt b) ∧ Lib.BuilderAt 69 5 w.heap.size b p (Lib.byteCells (txt [a1, a2, a3] k ++ ((fill g 13).map dby).take j)) wr' ∧ Own wr' (b + 1) 70 (dz (fill g 13)) ∧ Below w.heap.size w wr') (fun i _ => 13 - (intOf i).toNat)
          case atStart => exact ⟨0, p, by omega, rfl, hp, by simpa using hbd, hod, hbel⟩
          case round =>
            clear hod hbd hbel hp
            obtain ⟨j, p, hj, rfl, hp, hbd, hod, hbel⟩ := hrel
            by_cases hjl : (j : Int) < 13
            · have hc13 : (dz (fill g 13)).toArray[j]? = some (.int .u8 (((fill g 13).getD j 0 : Nat) : Int)) := by
                have := dz_at (xs := fill g 13) (k := j) (by rw [fill_length]; omega)
                simpa using this
              have hix2 := index_row Tryd.underlying70 Tryd.sizeOf5 Tryd.isAgg5 (show j < 13 by omega) hc13
              have hnb := Lib.hid (show Lib.byteCells (txt [a1, a2, a3] k ++ ((fill g 13).map dby).take (j + 1)) = Lib.byteCells (txt [a1, a2, a3] k ++ ((fill g 13).map dby).take j) ++ [.int .u8 (48 + (((fill g 13).getD j 0 : Nat) : Int))] by
                have := bytes_dz (fill g 13) (fill_lt g 13) j (by rw [fill_length]; omega)
                simp only [Lib.byteCells, List.map_append] at this ⊢
                rw [this, List.append_assoc])
              have x0 : 0 ≤ (((fill g 13).getD j 0 : Nat) : Int) := by omega
              have x1 : (((fill g 13).getD j 0 : Nat) : Int) ≤ 9 := by have := fill_lt g 13 j; omega
              have hlen := Lib.hid (show (Lib.byteCells (txt [a1, a2, a3] k ++ ((fill g 13).map dby).take j)).length ≤ 1000 by
                have h1 := txt_len [a1, a2, a3] k
                simp [Lib.byteCells] at h1 ⊢
                omega)
              clear hc13
              generalize (((fill g 13).getD j 0 : Nat) : Int) = x at *
              go_wp2_with (go_at_call 36; refine (writeByte_any w.heap.size b p hp _ (48 + x) _ hbd hlen.out (b + 1) 70 _ hod (by decide) (by omega) hbel.size).mono ?_; rintro e w' ⟨rfl, hbd', hbel', hod'⟩)
              go_roundw
              case rel => exact ⟨j + 1, selfAt b, by omega, by go_num, .inr rfl, by rw [hnb.out]; exact hbd', hod', hbel.trans hbel'⟩
              case measure => simp [intOf]; omega
            · obtain rfl : j = 13 := by omega
              have hcl := clear_digits (b + 1) wr _ hod (by simp [dz_length, fill_length])
              have HB2 := Lib.hid (builder_row (cs := zeros.toArray) hbd hod (by decide) (by omega))
              have HD2 := Lib.hid (own_row hod zeros)
              have HL2 := Lib.hid (below_row hbel hbel.size (show w.heap.size ≤ b + 1 by omega) zeros.toArray)
              have HT2 := Lib.hid (show txt [a1, a2, a3] k ++ ((fill g 13).map dby).take 13 = txt [a1, a2, a3] (k + 1) by
                rw [List.take_of_length_le (by simp [fill_length]), fill_pad, HGm.out.2])
              clear hod hbd hbel
              go_wp2
              go_roundw
              case rel => exact ⟨k + 1, p, by omega, by go_num, hp, by rw [← HT2.out]; exact HB2.out, HD2.out, HL2.out⟩
              case measure => simp [intOf]; omega
        · have hxp : 0 < xi := by omega
          have hm13 : m < 13 := by
            refine Nat.lt_of_le_of_ne hm fun e => ?_
            subst e
            have := hxj.out.1
            rw [Nat.div_eq_of_lt HGm.out.1] at this
            omega
          obtain ⟨j, hj⟩ : ∃ j : Nat, j = 12 - m := ⟨_, rfl⟩
          obtain rfl : ji = (j : Int) := by have := hxj.out.2; omega
          have hj13 : j < 13 := by omega
          have hcf := (hod.cell j).trans (dz_at (by rw [fill_length]; exact hj13))
          have hff := hod.free j
          have HS := Lib.hid (show Own (wr.setCell ⟨b + 1, j, none⟩ (.int .u8 (xi % 10))) (b + 1) 70 (dz (fill g (m + 1))) by
            have h1 := hod.set j (.int .u8 (xi % 10))
            rw [hxj.out.1, show ((g / 10 ^ m : Nat) : Int) % 10 = ((g / 10 ^ m % 10 : Nat) : Int) by simp, dz_set, hj, fill_set hm13, ← hj] at h1
            rw [hxj.out.1]
            simpa using h1)
          have HT := Lib.hid (builder_far (k := j) (u := .int .u8 (xi % 10)) hbd hod (by decide) (by omega))
          have HU := Lib.hid (hbel.setCell (p := ⟨b + 1, j, none⟩) (by simp; omega) (.int .u8 (xi % 10)))
          have HX := Lib.hid (show xi / 10 = ((g / 10 ^ (m + 1) : Nat) : Int) ∧ (j : Int) - 1 = 12 - ((m + 1 : Nat) : Int) by
            rw [hxj.out.1, Nat.pow_succ, ← Nat.div_div_eq_div_mul]; omega)
          clear hod hbd hbel hj
          generalize (fill g m).getD j 0 = old at hcf
          go_wp2
          go_roundw
          case rel => exact ⟨m + 1, xi / 10, (j : Int) - 1, by omega, rfl, rfl, by omega, by omega, HX, HS.out, HT.out, HU.out⟩
          case measure => simp [intOf]; omega
    · obtain rfl : k = 3 := by omega
      rw [HP.out] at hbd
      have hIs : Lib.IsBuilder 69 5 w.heap.size b (Lib.byteCells (pad 39 X)) wr := by
        rcases hp with rfl | rfl
        · exact .inl hbd
        · exact .inr hbd
      clear hbd hod
      go_wp2_with fail
      refine (builderString w.heap.size b (pad 39 X) _ hIs hbel.size).mono ?_
      rintro e w9 ⟨rfl, hb9⟩
      go_wp2
      go_ret
      exact ⟨rfl, hbel.trans hb9⟩
end Go.Proofs.YtkhboanlccfajaaDoor
