/-
  ExprText of the program.
-/
import Derived.Test.YtmkfmohahfaemaaDoorExprTS
import Derived.Test.YtmkfmohahfaemaaDoorExprLay
import Derived.Lib.LaidTab
namespace Go.Proofs.YtmkfmohahfaemaaDoor
open Go.RowKit Go.Sort

/-- what the text reads of the tables at package level -/
structure Tabs (w : World) : Prop where
  pow : Lib.TabIs Tryd.prog w "internal/strconv.uint64pow10" .u64 Lib.pow10Tab
  ops : ∀ k : Nat, k < 12 → w.cell? ⟨2, k, none⟩ = some (.string ⟨(sign k).toArray⟩)

theorem var_below {P : Program} {w w' : World} {n : String} {cs : Array Value} (h : w.var? P n = some cs) (hb : Below w.heap.size w w') : w'.var? P n = some cs := by
  unfold World.var? at h ⊢
  cases hg : P.globalNamed n with
  | none => rw [hg] at h; cases h
  | some g =>
    rw [hg] at h
    simp only [Option.bind_some] at h ⊢
    have hlt : g < w.heap.size := by
      rcases Nat.lt_or_ge g w.heap.size with h' | h'
      · exact h'
      · rw [Array.getElem?_eq_none h'] at h; cases h
    rw [hb.block g hlt]
    exact h
theorem Tabs.below {w w' : World} (h : Tabs w) (hb : Below w.heap.size w w') : Tabs w' :=
  ⟨var_below h.pow hb, fun k hk => (hb.cell (p := ⟨2, k, none⟩) (World.block_lt_of_cell? w _ (h.ops k hk))).trans (h.ops k hk)⟩

theorem below_more (w : World) (k : Nat) (os : Array Obj) : Below w.heap.size w (grow (w.drewN k) os) :=
  ⟨rfl, rfl, rfl, by show w.heap.size ≤ (w.heap ++ os).size; rw [Array.size_append]; omega, fun j hj => by show (w.heap ++ os)[j]? = w.heap[j]?; rw [Array.getElem?_append_left hj]⟩
theorem decDigits_dec (u : Nat) : Lib.decDigits u = dec u := by
  induction u using Nat.strongRecOn with
  | _ u ih =>
    rw [Lib.decDigits, dec]
    split
    · rfl
    · rw [ih (u / 10) (by omega)]; rfl
theorem itoa_decS (n : Int) : Lib.itoa n = decS n := by
  unfold Lib.itoa decS
  split
  · rw [decDigits_dec]
  · rw [decDigits_dec, show n.toNat = n.natAbs by omega]
theorem itoa_any (n : Int) (w : World) (hn : I64 n) (ht : Tabs w) :
    Calls Tryd.prog 57 #[.int .i64 n] w fun e w' => e = .returned (.string ⟨(decS n).toArray⟩) ∧ Below w.heap.size w w' := by
  rw [← itoa_decS]
  exact (Any.strconv_Itoa S.laysM171 n hn.1 hn.2 w ht.pow).mono fun e w' ⟨he, k, os, hw⟩ => ⟨he, by rw [hw]; exact below_more w k os⟩

set_option maxHeartbeats 400000 in
theorem tokWord_any (a b : Int) (w : World) (ht : Tabs w) (hg : tokGood (a, b)) (hb : I64 b) :
    Calls Tryd.prog 39 #[.agg #[.int .i64 a, .int .i64 b]] w fun e w' => e = .returned (.string ⟨(word (a, b)).toArray⟩) ∧ Below w.heap.size w w' := by
  by_cases h : a = 0
  · subst h
    have HI := Lib.hid (fun (W : World) (hW : Below w.heap.size w W) => itoa_any b W hb (ht.below hW))
    have hw : word (0, b) = decS b := rfl
    rw [hw]
    generalize (⟨(decS b).toArray⟩ : ByteArray) = D at *
    go_enter Tryd.func39, Tryd.ntmps39
    go_wp2_with (go_at_call 57; refine (HI.out _ (below_alloc _ _)).mono ?_; rintro e w1 ⟨rfl, hb1⟩)
    go_ret
    exact ⟨rfl, below_trans (below_alloc _ _) hb1⟩
  · obtain ⟨j, rfl⟩ : ∃ j : Nat, a = (j : Int) := ⟨a.toNat, by unfold tokGood at hg; simp only at hg; omega⟩
    have hj : (j : Int) ≤ 11 := by unfold tokGood at hg; simp only at hg; omega
    have hw : word ((j : Int), b) = sign j := by unfold word; simp only; rw [if_neg h, Int.toNat_natCast]
    rw [hw]
    have t : ((j : Int) == 0) = false := by simpa using h
    have c : ∀ o, (w.alloc o).cell? ⟨2, j, none⟩ = some (.string ⟨(sign j).toArray⟩) := fun o => (ht.below (below_alloc w o)).ops j (by omega)
    generalize (⟨(sign j).toArray⟩ : ByteArray) = D at *
    go_enter Tryd.func39, Tryd.ntmps39
    go_wp2
    go_ret
    exact ⟨rfl, below_alloc _ _⟩

theorem info_string : (Tryd.prog.info? 9).map (fun i => (i.zero, i.size, i.bytes)) = some (some (.string ⟨#[]⟩), 1, 16) := by kernel_rfl
def strs (xs : List ByteArray) : List Value := xs.map Value.string
theorem made_strs (n : Nat) : madeCells (Value.string ⟨#[]⟩).cells (n * 1) = (strs (List.replicate n ⟨#[]⟩)).toArray := by
  apply Array.ext
  · simp [madeCells, strs]
  · intro i h1 h2
    simp [madeCells, strs, Value.cells, Nat.mod_one]
theorem make_str (n : Nat) (hn : n ≤ 1048576) (W : World) : (Instr.makeSlice 72 (.int .i64 (n : Int)) (.int .i64 (n : Int))).run Tryd.prog W = .ok (.slice (some ⟨W.heap.size, 0, none⟩) n n) (W.alloc (.cells (strs (List.replicate n ⟨#[]⟩)).toArray 9)) := by
  obtain ⟨i0, hi, hz0, hz1, hz2⟩ := info_parts info_string
  have h := run_make (P := Tryd.prog) W 72 9 i0 (.string ⟨#[]⟩) Tryd.underlying72 hi hz0 .i64 .i64 n n (by omega) (by omega) (by rw [hz2]; omega) (by omega)
  rw [hz1, Int.toNat_natCast, made_strs] at h
  exact h

/-- the words, the first k of them laid -/
def wordsTo (es : List (Int × Int)) (k : Nat) : List ByteArray := (es.take k).map (fun t => ⟨(word t).toArray⟩) ++ List.replicate (es.length - k) ⟨#[]⟩
theorem wordsTo_zero (es : List (Int × Int)) : wordsTo es 0 = List.replicate es.length ⟨#[]⟩ := by simp [wordsTo]
theorem wordsTo_all (es : List (Int × Int)) : wordsTo es es.length = es.map (fun t => ⟨(word t).toArray⟩) := by simp [wordsTo]
theorem wordsTo_length {es : List (Int × Int)} {k : Nat} (h : k ≤ es.length) : (wordsTo es k).length = es.length := by simp [wordsTo]; omega
theorem wordsTo_set {es : List (Int × Int)} {k : Nat} (h : k < es.length) : (strs (wordsTo es k)).set k (.string ⟨(word (es.getD k (0, 0))).toArray⟩) = strs (wordsTo es (k + 1)) := by
  unfold strs wordsTo
  rw [show es.length - k = (es.length - (k + 1)) + 1 by omega, List.replicate_succ, List.map_append, List.map_append, List.map_cons, List.set_append, if_neg (by simp; omega)]
  rw [show k - (List.map Value.string (List.map (fun t => (⟨(word t).toArray⟩ : ByteArray)) (es.take k))).length = 0 by simp; omega, List.set_cons_zero]
  rw [List.take_succ_eq_append_getElem h, show es.getD k (0, 0) = es[k] by simp [h]]
  simp only [List.map_append, List.map_cons, List.map_nil, List.append_assoc, List.cons_append, List.nil_append]

theorem join_any (bk c : Nat) (es : List (Int × Int)) (w : World) (hown : Own w bk 9 (strs (es.map (fun t => (⟨(word t).toArray⟩ : ByteArray))))) (hc : es.length ≤ c) (hlen : (joinW (es.map word)).length ≤ 420) (hn : es.length ≤ 20) :
    Calls Tryd.prog 40 #[.slice (some ⟨bk, 0, none⟩) es.length c, .string ⟨#[32]⟩] w fun e w' => e = .returned (.string ⟨(joinW (es.map word)).toArray⟩) ∧ Below w.heap.size w w' := by
  have hd : (es.map (fun t => (⟨(word t).toArray⟩ : ByteArray))).map (·.data.toList) = es.map word := by simp [Function.comp_def]
  have h := Any.strings_Join S.lays156 S.Builder_Extra_156 bk 0 c (es.map (fun t => (⟨(word t).toArray⟩ : ByteArray))) ⟨#[32]⟩ w (fun j x hx => by
    rw [Nat.zero_add, hown.cell]; unfold strs; rw [List.getElem?_map, hx]; rfl) hown.lt (by simp; omega) (by simpa using hc) (by rw [hd]; exact Nat.le_trans hlen (by decide))
  rw [hd, List.length_map] at h
  exact h

set_option maxRecDepth 100000 in
set_option maxHeartbeats 2000000 in
theorem implExprText_any (A : Option Addr) (ca : Nat) (es : List (Int × Int)) (w : World) (hA : Rd w A (ez es)) (hn : es.length ≤ 1048576) (hi : Ints es) (ht : Tabs w) :
    Calls Tryd.prog 19 #[.slice A es.length ca] w fun e w' => e = .returned (.string ⟨(textOf es).toArray⟩) ∧ Below w.heap.size w w' := by
  have CO := Lib.hid (implExprOk_any A ca es w hA (by omega))
  by_cases hok : 0 ≤ depthOf es
  case neg =>
    have hB : decide (0 ≤ depthOf es) = false := by simp [hok]
    have HX : Hid (textOf es = []) := Lib.hid (by unfold textOf; rw [if_neg hok])
    go_enter Tryd.func19, Tryd.ntmps19
    go_wp2_with (go_at_call 10; refine (as_bool hB CO.out).mono ?_; rintro e w1 ⟨rfl, hb1⟩)
    go_ret
    exact ⟨ret_str (by rw [HX.out]), hb1⟩
  have hB : decide (0 ≤ depthOf es) = true := by simp [hok]
  have hlen := depthOf_len hok
  have HG := Lib.hid (fun (k : Nat) (hk : k < es.length) => ok_good hok hk)
  have HT : Hid (textOf es = joinW (es.map word)) := Lib.hid (by simp [textOf, hok])
  have HL := Lib.hid (show (joinW (es.map word)).length ≤ 420 by rw [← textTo_all]; have := textTo_le hi es.length (Nat.le_refl _); omega)
  have HI := Lib.hid hi
  have hmk := make_str es.length hn
  clear hok hi
  go_enter Tryd.func19, Tryd.ntmps19
  go_wp2_with (go_at_call 10; refine (as_bool hB CO.out).mono ?_; rintro e w1 ⟨rfl, hb1⟩)
  clear hmk
  go_loopw [14] (fun i wr => ∃ k : Nat, k ≤ es.length ∧ i = .int .i64 k ∧ Own wr w1.heap.size 9 (strs (wordsTo es k)) ∧ w1.heap.size < wr.heap.size ∧ Below w1.heap.size w1 wr) (fun i _ => es.length - (intOf i).toNat)
  case atStart => exact ⟨0, Nat.zero_le _, rfl, by rw [wordsTo_zero]; exact Own.new _ _ _, by simp, below_alloc _ _⟩
  case round =>
    obtain ⟨k, hk, rfl, hown, hsz, hbel⟩ := hrel
    by_cases hlt : k < es.length
    · have hg := HG.out k hlt
      have hi := HI.out k hlt
      obtain ⟨b, off, rfl, h1⟩ := hA.edge hlt
      obtain ⟨c0, c1⟩ := h1 wr (below_trans hb1 hbel)
      clear h1
      have HW := Lib.hid (wordsTo_set hlt)
      rw [at_pair] at hg hi HW
      have CW := Lib.hid (fun W (h : Below wr.heap.size wr W) => tokWord_any (elo es k) (ehi es k) W (ht.below (below_trans (below_trans hb1 hbel) h)) hg hi.2)
      generalize (⟨(word (elo es k, ehi es k)).toArray⟩ : ByteArray) = D at *
      have e0 : ∃ u, (strs (wordsTo es k))[k]? = some u := ⟨_, List.getElem?_eq_getElem (by simp [strs, wordsTo_length hk]; omega)⟩
      obtain ⟨u0, hu0⟩ := e0
      go_wp2_with (go_at_call 39; refine (CW.out _ (below_alloc _ _)).mono ?_; rintro e w2 ⟨rfl, hb2⟩; have ho2 := (hown.alloc (.cells #[.int .i64 (elo es k), .int .i64 (ehi es k)] 31)).grow hb2; have f0 := ho2.free k; have c2 := (ho2.cell k).trans hu0; have hb3 := below_trans hbel (below_trans (below_alloc _ _) hb2))
      go_roundw
      case rel =>
        refine ⟨k + 1, by omega, by go_num, ?_, ?_, hb3.setCell (Nat.le_refl _) _⟩
        · have := ho2.set k (.string D)
          rw [HW.out] at this
          exact this
        · have := ho2.lt
          simpa using this
      case measure => simp [intOf]; omega
    · have hkl : k = es.length := by omega
      subst hkl
      rw [wordsTo_all] at hown
      have CJ := Lib.hid (join_any w1.heap.size es.length es wr hown (Nat.le_refl _) HL.out hlen)
      have HT2 := Lib.hid (show (⟨(textOf es).toArray⟩ : ByteArray) = ⟨(joinW (es.map word)).toArray⟩ by rw [HT.out])
      generalize (⟨(joinW (es.map word)).toArray⟩ : ByteArray) = D at CJ HT2
      go_wp2_with (go_at_call 40; refine CJ.out.mono ?_; rintro e w2 ⟨rfl, hb2⟩)
      go_ret
      exact ⟨ret_str HT2.out.symm, below_trans (below_trans hb1 hbel) hb2⟩
end Go.Proofs.YtmkfmohahfaemaaDoor
