import Derived.Test.YtipcjofmplpffaaBase
import Derived.Shelf.SlSortCmp.NoneTotal
import Derived.Ground.SlsfProg
import Derived.Test.YtipcjofmplpffaaPunctOk
import Derived.Maps.Keyed
import Derived.Maps.RangeWalk
import Derived.Maps.OwnSet
import Derived.Maps.Ext
import Derived.DeepKeys4
import Derived.Maps.OwnOps

/-
  slices.SortFunc on rows of structs, in the words of the rows that a call owns.
-/
namespace Go.Proofs.Ytipcjofmplpffaa
open Go.RowKit Go.Lib Go.Sort

theorem flatM_get {α : Type} [Inhabited α] {enc : α → List Value} {k : Nat} (hk : ∀ x, (enc x).length = k) : ∀ (ts : List α) (t : Nat), t < ts.length * k → (ts.flatMap enc)[t]? = (enc ts[t / k]!)[t % k]?
  | [], t, h => by simp at h
  | x :: ts, t, h => by
    have k0 : 0 < k := by
      rcases Nat.eq_zero_or_pos k with h0 | h0
      · subst h0; simp at h
      · exact h0
    rw [List.flatMap_cons]
    by_cases ht : t < k
    · rw [List.getElem?_append_left (by rw [hk]; exact ht), Nat.div_eq_of_lt ht, Nat.mod_eq_of_lt ht]
      rfl
    · rw [List.getElem?_append_right (by rw [hk]; omega), hk, flatM_get hk ts (t - k) (by simp [Nat.add_mul] at h; omega)]
      have e : t = (t - k) + k := by omega
      have e1 : t / k = (t - k) / k + 1 := by rw [e, Nat.add_div_right _ k0]; simp
      have e2 : t % k = (t - k) % k := by rw [e, Nat.add_mod_right]; simp
      rw [e1, e2]
      simp
theorem flatM_length {α : Type} {enc : α → List Value} {k : Nat} (hk : ∀ x, (enc x).length = k) (ts : List α) : (ts.flatMap enc).length = ts.length * k := by
  induction ts with
  | nil => simp
  | cons x ts ih => rw [List.flatMap_cons, List.length_append, hk, ih, List.length_cons, Nat.add_mul]; omega
theorem flatK_list {α : Type} [Inhabited α] {enc : α → List Value} {k : Nat} (hk : ∀ x, (enc x).length = k) (ts : List α) : flatK enc k ts.toArray = (ts.flatMap enc).toArray := by
  refine ext_get! (by simp [flatM_length hk]) fun t ht => ?_
  have ht' : t < ts.length * k := by simpa using ht
  have k0 : 0 < k := by
    rcases Nat.eq_zero_or_pos k with h0 | h0
    · subst h0; simp at ht'
    · exact h0
  rw [get_flatK enc k ts.toArray t (by simpa using ht')]
  have h := flatM_get hk ts t ht'
  have hl : t % k < (enc ts[t / k]!).length := by rw [hk]; exact Nat.mod_lt _ k0
  have hf : t < (ts.flatMap enc).length := by rw [flatM_length hk]; exact ht'
  rw [List.getElem?_eq_getElem hf, List.getElem?_eq_getElem hl, Option.some.injEq] at h
  rw [getElem!_pos _ t (by simpa using hf)]
  simp only [List.getElem_toArray, h]
  rw [show ts.toArray[t / k]! = ts[t / k]! by simp]
  rw [getElem!_pos _ (t % k) hl]

theorem holdsK_block {α : Type} [Inhabited α] {enc : α → List Value} {k : Nat} (hk : ∀ x, (enc x).length = k) {w : World} {g : Nat} {cur : Array Value} {e : TypeId} {ss : List α} (hb : w.heap[g]? = some (.cells cur e (0, 0)))
    (ht : cur.toList.take (ss.length * k) = ss.flatMap enc) : HoldsK enc k w g 0 ss.toArray := by
  unfold HoldsK
  rw [flatK_list hk]
  intro j hj
  have hj' : j < (ss.flatMap enc).length := by simpa using hj
  refine ⟨?_, by simp [World.frozen?, hb]⟩
  have h1 : (cur.toList.take (ss.length * k))[j]? = (ss.flatMap enc)[j]? := by rw [ht]
  rw [List.getElem?_take_of_lt (by rw [← flatM_length hk]; exact hj'), List.getElem?_eq_getElem hj'] at h1
  simp only [World.cell?, hb, Nat.zero_add]
  rw [← Array.getElem?_toList, h1, getElem!_pos _ j (by simpa using hj')]
  simp
theorem heap_sortK {α : Type} [Inhabited α] {enc : α → List Value} {k : Nat} {w : World} {g n : Nat} {os : Array Obj} {cur : Array Value} {e : TypeId} {fr : Nat × Nat} (d : Array α) (hb : w.heap[g]? = some (.cells cur e fr)) :
    (sortWorldK enc k w g 0 n d os).heap[g]? = some (.cells (putCells id 0 (flatK enc k d) cur) e fr) := by
  have hg : g < w.heap.size := (Array.getElem?_eq_some_iff.1 hb).1
  unfold sortWorldK putRowK
  rw [heap_grow_old _ _ (by simpa using hg)]
  simp [putRow, mapBlock, Sort.ahead, Array.getElem?_modify, hb, onCells]
theorem grownBy_sortK {α : Type} [Inhabited α] {enc : α → List Value} {k : Nat} {w : World} {g n : Nat} {os : Array Obj} (d : Array α) : w.grownBy (sortWorldK enc k w g 0 n d os) (some g) := by
  unfold sortWorldK putRowK
  refine ⟨rfl, rfl, rfl, by simp, fun j hj hne => ?_⟩
  rw [heap_grow_old _ _ (by simpa using hj)]
  have : g ≠ j := fun e => hne (by rw [e])
  simp [putRow, mapBlock, Sort.ahead, Array.getElem?_modify, this]
theorem take_putFlat (cur : Array Value) (ts : List Value) (h : ts.length ≤ cur.size) : (putCells id 0 ts.toArray cur).toList.take ts.length = ts := by
  apply List.ext_getElem?
  intro j
  by_cases hj : j < ts.length
  · rw [List.getElem?_take_of_lt hj, Array.getElem?_toList]
    simp [putCells, hj, show j < cur.size by omega]
  · rw [List.getElem?_take_eq_none (by omega), List.getElem?_eq_none (by omega)]
theorem ownsRow_sortK {α : Type} [Inhabited α] {enc : α → List Value} {k : Nat} (hk : ∀ x, (enc x).length = k) {w : World} {base g cap n : Nat} {e : TypeId} {os : Array Obj} {cur : Array Value} {ss ts : List α} (hl : ts.length = ss.length) (hbase : base ≤ g)
    (hb : w.heap[g]? = some (.cells cur e (0, 0))) (h1 : ss.length ≤ cap) (h2 : cap ≤ maxLen) (h3 : cur.size = cap * k) :
    (sortWorldK enc k w g 0 n ts.toArray os).ownsRow base e k (.slice (some ⟨g, 0, none⟩) ss.length cap) ss.length (ts.flatMap enc) := by
  refine ⟨by rw [flatM_length hk, hl], .inr ⟨g, cap, _, rfl, hbase, heap_sortK _ hb, h1, h2, by simp [putCells, h3], ?_⟩⟩
  rw [flatK_list hk, ← hl, ← flatM_length hk]
  refine take_putFlat cur _ ?_
  rw [flatM_length hk, hl, h3]
  exact Nat.mul_le_mul_right k h1
theorem perm_of_permIn {α : Type} [Inhabited α] {d d' : Array α} (h : PermIn 0 d.size d d') : d'.toList.Perm d.toList := by
  obtain ⟨h1, _, h2⟩ := h
  rw [Array.toList_extract, Array.toList_extract] at h2
  simp only [List.extract_eq_take_drop, List.drop_zero, Nat.sub_zero] at h2
  rw [List.take_of_length_le (by simp [h1]), List.take_of_length_le (by simp)] at h2
  exact h2
theorem sorted_of {α : Type} [Inhabited α] {lt : α → α → Bool} {n : Nat} {d : Array α} (hn : d.size = n) (h : SortedIn lt 0 n d) : d.toList.Pairwise fun a b => lt b a = false := by
  rw [List.pairwise_iff_getElem]
  intro i j hi hj hij
  have := h i j (Nat.zero_le _) hij (by rw [← hn]; simpa using hj)
  rw [getElem!_pos d i (by simpa using hi), getElem!_pos d j (by simpa using hj)] at this
  simpa using this
end Go.Proofs.Ytipcjofmplpffaa

/-
  Layings of the library's contracts at this program.
-/
namespace Go.Proofs.Ytipcjofmplpffaa
open Go.Shelf

def sortP_ren : Go.Shelf.Ren := ⟨fun | 6 => 78 | 15 => 93 | 14 => 92 | 28 => 104 | 29 => 105 | 20 => 96 | 21 => 97 | 22 => 98 | 23 => 99 | 24 => 100 | 25 => 101 | 26 => 102 | 27 => 103 | 46 => 106 | 47 => 107 | 48 => 108 | 49 => 109 | 50 => 110 | 57 => 111 | n => n, fun | 22 => 27 | 24 => 29 | 25 => 88 | 3 => 3 | 39 => 106 | 0 => 0 | 53 => 118 | 55 => 81 | 4 => 4 | 46 => 112 | 45 => 111 | 50 => 75 | 5 => 5 | 9 => 9 | 66 => 120 | 70 => 124 | 76 => 126 | 77 => 41 | n => n, fun | n => n⟩
theorem sortP : Go.Proofs.SlLaysF0.n6 Try.prog sortP_ren := {
  mixed := by kernel_rfl
  f6 := ⟨Try.f78.name, by decide, Try.func78.trans (congrArg some (by kernel_rfl))⟩
  f14 := ⟨Try.f92.name, by decide, Try.func92.trans (congrArg some (by kernel_rfl))⟩
  f15 := Try.func93.trans (congrArg some (by kernel_rfl))
  f20 := ⟨Try.f96.name, by decide, Try.func96.trans (congrArg some (by kernel_rfl))⟩
  f21 := ⟨Try.f97.name, by decide, Try.func97.trans (congrArg some (by kernel_rfl))⟩
  f22 := ⟨Try.f98.name, by decide, Try.func98.trans (congrArg some (by kernel_rfl))⟩
  f23 := ⟨Try.f99.name, by decide, Try.func99.trans (congrArg some (by kernel_rfl))⟩
  f24 := ⟨Try.f100.name, by decide, Try.func100.trans (congrArg some (by kernel_rfl))⟩
  f25 := ⟨Try.f101.name, by decide, Try.func101.trans (congrArg some (by kernel_rfl))⟩
  f26 := ⟨Try.f102.name, by decide, Try.func102.trans (congrArg some (by kernel_rfl))⟩
  f27 := ⟨Try.f103.name, by decide, Try.func103.trans (congrArg some (by kernel_rfl))⟩
  f28 := Try.func104.trans (congrArg some (by kernel_rfl))
  f29 := Try.func105.trans (congrArg some (by kernel_rfl))
  f46 := ⟨Try.f106.name, by decide, Try.func106.trans (congrArg some (by kernel_rfl))⟩
  f47 := Try.func107.trans (congrArg some (by kernel_rfl))
  f48 := Try.func108.trans (congrArg some (by kernel_rfl))
  f49 := ⟨Try.f109.name, by decide, Try.func109.trans (congrArg some (by kernel_rfl))⟩
  f50 := ⟨Try.f110.name, by decide, Try.func110.trans (congrArg some (by kernel_rfl))⟩
  f57 := ⟨Try.f111.name, by decide, Try.func111.trans (congrArg some (by kernel_rfl))⟩
  t0 := Try.underlying0
  a0 := Try.isAgg0
  z0 := Try.sizeOf0
  v0 := Try.zeroValue0
  t3 := Try.underlying3
  a3 := Try.isAgg3
  z3 := Try.sizeOf3
  v3 := Try.zeroValue3
  t4 := Try.underlying4
  a4 := Try.isAgg4
  z4 := Try.sizeOf4
  v4 := Try.zeroValue4
  t5 := Try.underlying5
  a5 := Try.isAgg5
  z5 := Try.sizeOf5
  v5 := Try.zeroValue5
  t9 := Try.underlying9
  a9 := Try.isAgg9
  z9 := Try.sizeOf9
  v9 := Try.zeroValue9
  t22 := Try.underlying27
  a22 := Try.isAgg27
  z22 := Try.sizeOf27
  v22 := Try.zeroValue27
  t25 := Try.underlying88
  a25 := Try.isAgg88
  z25 := Try.sizeOf88
  v25 := Try.zeroValue88
  t39 := Try.underlying106
  a39 := Try.isAgg106
  z39 := Try.sizeOf106
  v39 := Try.zeroValue106
  t45 := Try.underlying111
  a45 := Try.isAgg111
  z45 := Try.sizeOf111
  v45 := Try.zeroValue111
  t46 := Try.underlying112
  a46 := Try.isAgg112
  z46 := Try.sizeOf112
  v46 := Try.zeroValue112
  t50 := Try.underlying75
  a50 := Try.isAgg75
  z50 := Try.sizeOf75
  v50 := Try.zeroValue75
  t53 := Try.underlying118
  a53 := Try.isAgg118
  z53 := Try.sizeOf118
  v53 := Try.zeroValue118
  t55 := Try.underlying81
  a55 := Try.isAgg81
  z55 := Try.sizeOf81
  v55 := Try.zeroValue81
  t66 := Try.underlying120
  a66 := Try.isAgg120
  z66 := Try.sizeOf120
  v66 := Try.zeroValue120
  t70 := Try.underlying124
  a70 := Try.isAgg124
  z70 := Try.sizeOf124
  v70 := Try.zeroValue124
  t76 := Try.underlying126
  a76 := Try.isAgg126
  z76 := Try.sizeOf126
  v76 := Try.zeroValue126
  t77 := Try.underlying41
  a77 := Try.isAgg41
  z77 := Try.sizeOf41
  v77 := Try.zeroValue41 }
end Go.Proofs.Ytipcjofmplpffaa

/-
  PolicyOk, the model's: what it returns.
-/
namespace Go.Proofs.Ytipcjofmplpffaa
open Go.RowKit

def okL (N : Int) (xs : List Nat) (ps : List Pn) : Prop := LatP N xs ∧ listOk N ps

set_option maxHeartbeats 400000 in
theorem l01Here_any (N : Int) (A : Option Addr) (n ca : Nat) (a : Int) (w : World) :
    Calls Try.prog 57 #[.agg #[.int .i64 N, .slice A n ca], .int .i64 a] w fun e w' => e = .returned (.bool (decide (0 ≤ a) && decide (a < N))) ∧ Below w.heap.size w w' := by
  go_enter Try.func57, Try.ntmps57
  go_wp2
  all_goals (go_ret; refine ⟨ret_bool ?_, below_alloc _ _⟩; simp [*]; try omega)
theorem l01Here_is {N : Int} {A : Option Addr} {n ca : Nat} {a : Int} {b : Bool} (h : decide (0 ≤ a ∧ a < N) = b) (w : World) :
    Calls Try.prog 57 #[.agg #[.int .i64 N, .slice A n ca], .int .i64 a] w fun e w' => e = .returned (.bool b) ∧ Below w.heap.size w w' :=
  as_bool (by rw [← h]; simp) (l01Here_any N A n ca a w)

theorem l04Right_is {a b c d : Int} {B : Bool} (h : decide (rightP (a, b, c, d)) = B) (w : World) :
    Calls Try.prog 58 #[pv a b c d] w fun e w' => e = .returned (.bool B) ∧ Below w.heap.size w w' := as_bool h (l04Right_any a b c d w)
theorem l04Less_is {a b c d a' b' c' d' : Int} {B : Bool} (h : decide (lessP (a, b, c, d) (a', b', c', d')) = B) (w : World) :
    Calls Try.prog 44 #[pv a b c d, pv a' b' c' d'] w fun e w' => e = .returned (.bool B) ∧ Below w.heap.size w w' := as_bool h (l04Less_any a b c d a' b' c' d' w)

/-- the cells of entry k, in every world grown from wr -/
theorem quad_cells {w wr : World} {A : Option Addr} {ps : List Pn} (h : Rd w A (iz (qz ps))) (hbel : Below w.heap.size w wr) {k : Nat} (hk : k < ps.length) :
    ∃ b off, A = some ⟨b, off, none⟩ ∧ (∀ u : Bel wr, u.w.cell? ⟨b, off + k * 4, none⟩ = some (.int .i64 (qat ps k).1)) ∧ (∀ u : Bel wr, u.w.cell? ⟨b, off + k * 4 + 1, none⟩ = some (.int .i64 (qat ps k).2.1)) ∧
      (∀ u : Bel wr, u.w.cell? ⟨b, off + k * 4 + 2, none⟩ = some (.int .i64 (qat ps k).2.2.1)) ∧ (∀ u : Bel wr, u.w.cell? ⟨b, off + k * 4 + 3, none⟩ = some (.int .i64 (qat ps k).2.2.2)) := by
  obtain ⟨b, off, rfl, hc⟩ := h.punct hk
  exact ⟨b, off, rfl, fun u => (hc _ (below_trans hbel u.ok)).1, fun u => (hc _ (below_trans hbel u.ok)).2.1, fun u => (hc _ (below_trans hbel u.ok)).2.2.1, fun u => (hc _ (below_trans hbel u.ok)).2.2.2⟩

set_option maxRecDepth 100000 in
set_option maxHeartbeats 2000000 in
theorem specPolicyOk_any (N : Int) (A : Option Addr) (ca : Nat) (xs : List Nat) (B : Option Addr) (cb : Nat) (ps : List Pn) (w : World) (hA : Rd w A (us xs)) (hu : U64 xs) (hn : xs.length ≤ 1048576) (hB : Rd w B (iz (qz ps))) (hm : ps.length ≤ 1048588) :
    Calls Try.prog 20 #[.agg #[.int .i64 N, .slice A xs.length ca], .slice B ps.length cb] w fun e w' => e = .returned (.bool (tf (okL N xs ps))) ∧ Below w.heap.size w w' := by
  have HA := Lib.hid (fun W (h : Below w.heap.size w W) => hA.below h)
  clear hA
  have HB := Lib.hid hB
  clear hB
  go_enter Try.func20, Try.ntmps20
  go_wp2_with fail
  by_cases hL : LatP N xs
  · refine (as_bool (tf_yes hL).symm (specLatOk_any N A ca xs _ (HA.out _ (below_alloc _ _)) hu hn)).mono ?_
    have HL := Lib.hid hL
    clear hL
    rintro e w1 ⟨rfl, hb1⟩
    obtain ⟨ho1, hB1⟩ := box_own hb1
    clear hb1
    by_cases h12 : ps.length ≤ 12
    · go_wp2
      go_loopw [5] (fun i wr => ∃ k : Nat, k ≤ ps.length ∧ i = .int .i64 k ∧ okTo N ps k ∧ Own wr w.heap.size 26 [.int .i64 N, .slice A xs.length ca] ∧ Below w.heap.size w wr) (fun i _ => ps.length - (intOf i).toNat)
      case atStart => exact ⟨0, Nat.zero_le _, rfl, okTo_zero _ _, ho1, hB1⟩
      case round =>
        obtain ⟨k, hk, rfl, hok, ho, hbel⟩ := hrel
        by_cases hlt : k < ps.length
        · obtain ⟨b, off, rfl, c0, c1, c2, c3⟩ := quad_cells HB.out hbel hlt
          have n0 : ∀ u : Bel wr, u.w.cell? ⟨w.heap.size, 0, none⟩ = some (.int .i64 N) := fun u => (ho.grow u.ok).two.1
          have n1 : ∀ u : Bel wr, u.w.cell? ⟨w.heap.size, 1, none⟩ = some (.slice A xs.length ca) := fun u => (ho.grow u.ok).two.2
          have HO := Lib.hid hok
          clear hok
          by_cases h1 : 0 ≤ (qat ps k).2.2.2 ∧ (qat ps k).2.2.2 < N
          · by_cases h2 : rightP (qat ps k)
            · have H1 := Lib.hid (decide_eq_true h1)
              have H2 := Lib.hid (decide_eq_true h2)
              have HG := Lib.hid (show goodP N (qat ps k) from ⟨h1, h2⟩)
              clear h1 h2
              by_cases hk0 : 0 < k
              · obtain ⟨j, rfl⟩ : ∃ j, k = j + 1 := ⟨k - 1, by omega⟩
                obtain ⟨b', off', e', d0, d1, d2, d3⟩ := quad_cells HB.out hbel (k := j) (by omega)
                obtain ⟨rfl, rfl⟩ : b = b' ∧ off = off' := by injection e' with e'; injection e' with e1 e2; exact ⟨e1, e2⟩
                clear e'
                by_cases h3 : lessP (qat ps j) (qat ps (j + 1))
                · have H3 := Lib.hid (decide_eq_true h3)
                  have HS := Lib.hid (show okTo N ps (j + 1 + 1) from okTo_succ.2 ⟨HO.out, HG.out, fun _ => h3⟩)
                  clear h3 HO HG
                  generalize qat ps (j + 1) = q at *
                  generalize qat ps j = p at *
                  obtain ⟨p0, p1, p2, p3⟩ := p
                  obtain ⟨q0, q1, q2, q3⟩ := q
                  go_wp2
                  refine wp_region_bel (by kernel_rfl) (by kernel_rfl) ?_
                  repeat (go_big_quiet_step (first | (go_at_call 57; exact bel_of _ (l01Here_is H1.out _)) | (go_at_call 58; exact bel_of _ (l04Right_is H2.out _)) | (go_at_call 44; exact bel_of _ (l04Less_is H3.out _))))
                  refine wpQuiet_nil ?_
                  rintro _ ⟨u, rfl⟩
                  go_wp2
                  go_roundw
                  case rel => exact ⟨j + 1 + 1, by omega, by go_num, HS.out, ho.grow u.ok, below_trans hbel u.ok⟩
                  case measure => simp [intOf]; omega
                · have H3 := Lib.hid (decide_eq_false h3)
                  have HS := Lib.hid (show ¬ okL N xs ps from fun h => h3 ((okTo_iff.2 h.2.2 (j + 1) hlt).2 (by omega)))
                  clear h3 HO HG
                  generalize qat ps (j + 1) = q at *
                  generalize qat ps j = p at *
                  obtain ⟨p0, p1, p2, p3⟩ := p
                  obtain ⟨q0, q1, q2, q3⟩ := q
                  go_wp2
                  refine wp_region_bel (by kernel_rfl) (by kernel_rfl) ?_
                  repeat (go_big_quiet_step (first | (go_at_call 57; exact bel_of _ (l01Here_is H1.out _)) | (go_at_call 58; exact bel_of _ (l04Right_is H2.out _)) | (go_at_call 44; exact bel_of _ (l04Less_is H3.out _))))
                  refine wpQuiet_nil ?_
                  rintro _ ⟨u, rfl⟩
                  go_wp2
                  go_ret
                  exact ⟨ret_bool (tf_no HS.out), below_trans hbel u.ok⟩
              · obtain rfl : k = 0 := by omega
                simp only [Nat.zero_mul, Nat.add_zero] at c0 c1 c2 c3
                have HS := Lib.hid (show okTo N ps (0 + 1) from okTo_succ.2 ⟨HO.out, HG.out, fun h => by omega⟩)
                clear HO HG
                generalize qat ps 0 = q at *
                obtain ⟨q0, q1, q2, q3⟩ := q
                go_wp2
                refine wp_region_bel (by kernel_rfl) (by kernel_rfl) ?_
                repeat (go_big_quiet_step (first | (go_at_call 57; exact bel_of _ (l01Here_is H1.out _)) | (go_at_call 58; exact bel_of _ (l04Right_is H2.out _))))
                refine wpQuiet_nil ?_
                rintro _ ⟨u, rfl⟩
                go_wp2
                go_roundw
                case rel => exact ⟨0 + 1, by omega, by go_num, HS.out, ho.grow u.ok, below_trans hbel u.ok⟩
                case measure => simp [intOf]; omega
            · have H1 := Lib.hid (decide_eq_true h1)
              have H2 := Lib.hid (decide_eq_false h2)
              have HS := Lib.hid (show ¬ okL N xs ps from fun h => h2 (h.2.2.1 _ (qat_mem hlt)).2)
              clear h1 h2 HO
              generalize qat ps k = q at *
              obtain ⟨q0, q1, q2, q3⟩ := q
              go_wp2
              refine wp_region_bel (by kernel_rfl) (by kernel_rfl) ?_
              repeat (go_big_quiet_step (first | (go_at_call 57; exact bel_of _ (l01Here_is H1.out _)) | (go_at_call 58; exact bel_of _ (l04Right_is H2.out _))))
              refine wpQuiet_nil ?_
              rintro _ ⟨u, rfl⟩
              go_wp2
              go_ret
              exact ⟨ret_bool (tf_no HS.out), below_trans hbel u.ok⟩
          · have H1 := Lib.hid (decide_eq_false h1)
            have HS := Lib.hid (show ¬ okL N xs ps from fun h => h1 (h.2.2.1 _ (qat_mem hlt)).1)
            clear h1 HO
            generalize qat ps k = q at *
            obtain ⟨q0, q1, q2, q3⟩ := q
            go_wp2
            refine wp_region_bel (by kernel_rfl) (by kernel_rfl) ?_
            repeat (go_big_quiet_step (first | (go_at_call 57; exact bel_of _ (l01Here_is H1.out _))))
            refine wpQuiet_nil ?_
            rintro _ ⟨u, rfl⟩
            go_wp2
            go_ret
            exact ⟨ret_bool (tf_no HS.out), below_trans hbel u.ok⟩
        · have hkn : k = ps.length := by omega
          subst hkn
          have HS := Lib.hid (show okL N xs ps from ⟨HL.out, h12, okTo_iff.1 hok⟩)
          clear hok
          go_wp2
          go_ret
          exact ⟨ret_bool (tf_yes HS.out), hbel⟩
    · go_wp2
      go_ret
      exact ⟨ret_bool (tf_no (fun h => h12 h.2.1)), hB1⟩
  · refine (as_bool (tf_no hL).symm (specLatOk_any N A ca xs _ (HA.out _ (below_alloc _ _)) hu hn)).mono ?_
    have HL := Lib.hid hL
    clear hL
    rintro e w1 ⟨rfl, hb1⟩
    go_wp2
    go_ret
    exact ⟨ret_bool (tf_no (fun h => HL.out h.1)), (box_own hb1).2⟩
end Go.Proofs.Ytipcjofmplpffaa

/-
  cmp.Compare, cmp.Or and comparePlaces: what they return.
-/
namespace Go.Proofs.Ytipcjofmplpffaa
open Go.RowKit Go.Lib Go.Sort

def cmpI (x y : Int) : Int := if x < y then -1 else if y < x then 1 else 0
theorem cmpI_range (x y : Int) : -1 ≤ cmpI x y ∧ cmpI x y ≤ 1 := by unfold cmpI; split; omega; split <;> omega

set_option maxHeartbeats 400000 in
theorem isNaN_any (x : Int) (w : World) : Calls Try.prog 95 #[.int .i64 x] w fun e w' => e = .returned (.bool false) ∧ w = w' := by
  have hne : (x != x) = false := by simp
  go_enter Try.func95, Try.ntmps95
  go_wp2
  go_ret
  exact ⟨rfl, rfl⟩

set_option maxHeartbeats 400000 in
theorem compare_any (x y : Int) (w : World) : Calls Try.prog 89 #[.int .i64 x, .int .i64 y] w fun e w' => e = .returned (.int .i64 (cmpI x y)) ∧ w = w' := by
  by_cases h1 : x < y
  · go_enter Try.func89, Try.ntmps89
    go_wp2_with (go_at_call 95; refine (isNaN_any _ _).mono ?_; rintro e w' ⟨rfl, rfl⟩)
    go_ret
    exact ⟨ret_int (by simp [cmpI, h1]), rfl⟩
  · by_cases h2 : y < x
    · go_enter Try.func89, Try.ntmps89
      go_wp2_with (go_at_call 95; refine (isNaN_any _ _).mono ?_; rintro e w' ⟨rfl, rfl⟩)
      go_ret
      exact ⟨ret_int (by simp [cmpI, h1, h2]), rfl⟩
    · go_enter Try.func89, Try.ntmps89
      go_wp2_with (go_at_call 95; refine (isNaN_any _ _).mono ?_; rintro e w' ⟨rfl, rfl⟩)
      go_ret
      exact ⟨ret_int (by unfold cmpI; rw [if_neg (by omega), if_neg (by omega)]), rfl⟩

/-- the first that is not 0 -/
def orOf : List Int → Int
  | [] => 0
  | z :: zs => if z = 0 then orOf zs else z
theorem orOf_step {zs : List Int} {k : Nat} (h : k < zs.length) : orOf (zs.drop k) = if zs.getD k 0 = 0 then orOf (zs.drop (k + 1)) else zs.getD k 0 := by
  rw [List.drop_eq_getElem_cons h]
  simp [orOf, h]

set_option maxHeartbeats 400000 in
theorem cmpOr_any (A : Option Addr) (ca : Nat) (zs : List Int) (w : World) (hA : Rd w A (iz zs)) (hn : zs.length ≤ 1048576) :
    Calls Try.prog 88 #[.slice A zs.length ca] w fun e w' => e = .returned (.int .i64 (orOf zs)) ∧ w = w' := by
  go_enter Try.func88, Try.ntmps88
  go_wp2
  go_loop [8] (fun i => ∃ k : Nat, k ≤ zs.length ∧ i = .int .i64 k ∧ orOf zs = orOf (zs.drop k)) (fun i => zs.length - (intOf i).toNat)
  case atStart => exact ⟨0, Nat.zero_le _, rfl, rfl⟩
  case round =>
    obtain ⟨k, hk, rfl, ho⟩ := hrel
    by_cases hlt : k < zs.length
    · obtain ⟨ad, rfl, hb, hc⟩ := hA k _ (iz_at hlt)
      have HS := Lib.hid (orOf_step hlt)
      generalize zs.getD k 0 = z at *
      by_cases hz : z = 0
      · have tz : (z != 0) = false := by simp [hz]
        have HO := Lib.hid (show orOf zs = orOf (zs.drop (k + 1)) by rw [ho, HS.out, if_pos hz])
        clear ho HS hz
        go_wp2
        go_round
        case rel => exact ⟨k + 1, by omega, by go_num, HO.out⟩
        case measure => simp [intOf]; omega
      · have tz : (z != 0) = true := by simpa using hz
        have HO := Lib.hid (show z = orOf zs by rw [ho, HS.out, if_neg hz])
        clear ho HS hz
        go_wp2
        go_ret
        exact ⟨ret_int HO.out, rfl⟩
    · have hkn : k = zs.length := by omega
      subst hkn
      have HO := Lib.hid (show 0 = orOf zs by rw [ho]; simp [orOf])
      clear ho
      go_wp2
      go_ret
      exact ⟨ret_int HO.out, rfl⟩

def cmpP (p q : Pn) : Int := orOf [cmpI p.1 q.1, cmpI p.2.1 q.2.1, cmpI p.2.2.1 q.2.2.1]
theorem cmpI_zero {x y : Int} : cmpI x y = 0 ↔ x = y := by unfold cmpI; split; omega; split <;> omega
theorem cmpI_neg {x y : Int} : cmpI x y < 0 ↔ x < y := by unfold cmpI; split; omega; split <;> omega
theorem cmpP_neg {p q : Pn} : cmpP p q < 0 ↔ lessP p q := by
  unfold cmpP orOf orOf orOf orOf
  have h1 := @cmpI_zero p.1 q.1
  have h2 := @cmpI_zero p.2.1 q.2.1
  have h3 := @cmpI_zero p.2.2.1 q.2.2.1
  have n1 := @cmpI_neg p.1 q.1
  have n2 := @cmpI_neg p.2.1 q.2.1
  have n3 := @cmpI_neg p.2.2.1 q.2.2.1
  unfold lessP
  split
  · split
    · split <;> omega
    · omega
  · omega
theorem cmpP_nonneg {p q : Pn} : 0 ≤ cmpP p q ↔ ¬ lessP p q := by rw [← cmpP_neg]; omega

/-- A world that is w0 but for draws. -/
structure Drw (w0 : World) where
  w : World
  ok : ∃ q, w = w0.drewN q
instance (w0 : World) : Nonempty (Drw w0) := ⟨⟨w0, 0, rfl⟩⟩
theorem wp_region_drwt {P : Program} {id : Nat} {Q : Exit → Act → World → Prop} {a : Act} {w : World} {l : List Oper} (n : Nat) (hm : P.follows .mixedOrders = true) (hB : Region.lexTailB .any l.toArray n = true)
    (h : wpQuiet P l.toArray (fun w' => ∃ u : Drw w, w' = u.w) (fun a' => ∀ w', (∃ u : Drw w, w' = u.w) → wpList P l.toArray Q (l.drop n) a' w') (l.take n) a) : (Code.region id l.toArray true).wp P Q a w :=
  wp_region_head (C := fun w' => ∃ u : Drw w, w' = u.w) n hm hB ⟨⟨w.drew, 1, rfl⟩, rfl⟩ h
theorem drw_same {P : Program} {f : FuncId} {args : Array Value} {w0 : World} (u : Drw w0) {v : Value}
    (h : Calls P f args u.w fun e w' => e = .returned v ∧ u.w = w') : Calls P f args u.w fun e w'' => e = .returned v ∧ ∃ u' : Drw w0, w'' = u'.w :=
  h.mono fun _ _ ⟨he, hb⟩ => ⟨he, u, hb.symm⟩

theorem cmpOr_three {W : World} {g : Nat} {x y z : Int} (hR : Rd W (some ⟨g, 0, none⟩) (iz [x, y, z])) :
    Calls Try.prog 88 #[.slice (some ⟨g, 0, none⟩) 3 3] W fun e w' => e = .returned (.int .i64 (orOf [x, y, z])) ∧ W = w' :=
  cmpOr_any (some ⟨g, 0, none⟩) 3 [x, y, z] W hR (by simp)
theorem rd_three {W : World} {x y z : Int} (t : TypeId) : Rd (W.alloc (.cells #[.int .i64 x, .int .i64 y, .int .i64 z] t)) (some ⟨W.heap.size, 0, none⟩) (iz [x, y, z]) :=
  (Own.new W t (iz [x, y, z])).rd
theorem grown_three {w v : World} {o1 o2 : Obj} (o3 : Obj) (h : ∃ q, v = ((w.alloc o1).alloc o2).drewN q) : ∃ q os', v.alloc o3 = grow (w.drewN q) os' := by
  obtain ⟨q, rfl⟩ := h
  exact ⟨q, _, by rw [alloc_eq_grow, alloc_eq_grow, alloc_eq_grow, grow_grow]; exact (grow_grow (w.drewN q) _ _)⟩
theorem drw_cells {w : World} {cs ds : List Value} {t s : TypeId} (u : Drw ((w.alloc (.cells cs.toArray t)).alloc (.cells ds.toArray s))) :
    (∀ k, u.w.cell? ⟨w.heap.size, k, none⟩ = cs[k]?) ∧ (∀ k, u.w.cell? ⟨w.heap.size + 1, k, none⟩ = ds[k]?) := by
  obtain ⟨q, e⟩ := u.ok
  obtain ⟨h1, h2, _⟩ := box_two (w := w) (cs := cs) (ds := ds) (t := t) (s := s) (w1 := u.w) (by rw [e]; exact below_drewN (Below.refl _ _) _)
  exact ⟨fun k => h1.cell k, fun k => h2.cell k⟩

set_option maxRecDepth 100000 in
set_option maxHeartbeats 2000000 in
theorem comparePlaces_any (a b c d a' b' c' d' : Int) (w : World) :
    Calls Try.prog 72 #[pv a b c d, pv a' b' c' d'] w fun e w' => e = .returned (.int .i64 (cmpP (a, b, c, d) (a', b', c', d'))) ∧ ∃ q os', w' = grow (w.drewN q) os' := by
  have HC := Lib.hid (fun x y W => compare_any x y W)
  have HD := Lib.hid (show orOf [cmpI a a', cmpI b b', cmpI c c'] = cmpP (a, b, c, d) (a', b', c', d') from rfl)
  have k := fun u : Drw ((w.alloc (.cells #[.int .i64 a, .int .i64 b, .int .i64 c, .int .i64 d] 29)).alloc (.cells #[.int .i64 a', .int .i64 b', .int .i64 c', .int .i64 d'] 29)) => drw_cells (cs := [_, _, _, _]) (ds := [_, _, _, _]) u
  have k0 := fun u => (k u).1 0
  have k1 := fun u => (k u).1 1
  have k2 := fun u => (k u).1 2
  have j0 := fun u => (k u).2 0
  have j1 := fun u => (k u).2 1
  have j2 := fun u => (k u).2 2
  clear k
  simp only [List.getElem?_cons_zero, List.getElem?_cons_succ] at k0 k1 k2 j0 j1 j2
  go_enter Try.func72, Try.ntmps72
  go_wp2
  refine wp_region_drwt 15 (by kernel_rfl) (by kernel_rfl) ?_
  simp only [List.take_succ_cons, List.take_zero, List.drop_succ_cons, List.drop_zero]
  repeat (go_big_quiet_step ((go_at_call 89; exact drw_same _ (HC.out _ _ _))))
  refine wpQuiet_nil ?_
  rintro _ ⟨u, rfl⟩
  clear k0 k1 k2 j0 j1 j2
  go_wp2_with (go_at_call 88; refine (as_int HD.out (cmpOr_three (rd_three 3))).mono ?_; rintro e w' ⟨rfl, rfl⟩)
  go_ret
  exact ⟨rfl, grown_three _ u.ok⟩
end Go.Proofs.Ytipcjofmplpffaa

/-
  PolicyOk, the program's: what it returns.
-/
namespace Go.Proofs.Ytipcjofmplpffaa
open Go.RowKit Go.Lib Go.Sort

theorem below_grown {w w' : World} (h : ∃ q os', w' = grow (w.drewN q) os') : Below w.heap.size w w' := by
  obtain ⟨q, os, rfl⟩ := h
  exact ⟨rfl, rfl, rfl, by show w.heap.size ≤ (w.heap ++ os).size; rw [Array.size_append]; omega, fun j hj => by show (w.heap ++ os)[j]? = w.heap[j]?; rw [Array.getElem?_append_left hj]⟩
theorem punctFits_is {N a b c d : Int} {B : Bool} (h : decide (goodP N (a, b, c, d)) = B) (w : World) :
    Calls Try.prog 70 #[.int .i64 N, pv a b c d] w fun e w' => e = .returned (.bool B) ∧ Below w.heap.size w w' := as_bool h (punctFits_any N a b c d w)
theorem comparePlaces_is {a b c d a' b' c' d' z : Int} (h : cmpP (a, b, c, d) (a', b', c', d') = z) (w : World) :
    Calls Try.prog 72 #[pv a b c d, pv a' b' c' d'] w fun e w' => e = .returned (.int .i64 z) ∧ Below w.heap.size w w' :=
  as_int h ((comparePlaces_any a b c d a' b' c' d' w).mono fun _ _ ⟨he, hb⟩ => ⟨he, below_grown hb⟩)

set_option maxRecDepth 100000 in
set_option maxHeartbeats 2000000 in
theorem implPolicyOk_any (N : Int) (A : Option Addr) (ca : Nat) (xs : List Nat) (B : Option Addr) (cb : Nat) (ps : List Pn) (w : World) (hA : Rd w A (us xs)) (hu : U64 xs) (hn : xs.length ≤ 1048576) (hB : Rd w B (iz (qz ps))) (hm : ps.length ≤ 1048588) :
    Calls Try.prog 33 #[.agg #[.int .i64 N, .slice A xs.length ca], .slice B ps.length cb] w fun e w' => e = .returned (.bool (tf (okL N xs ps))) ∧ Below w.heap.size w w' := by
  have HA := Lib.hid (fun W (h : Below w.heap.size w W) => hA.below h)
  clear hA
  have HB := Lib.hid hB
  clear hB
  go_enter Try.func33, Try.ntmps33
  go_wp2_with fail
  by_cases hL : LatP N xs
  · refine (as_bool (tf_yes hL).symm (implLatOk_any N A ca xs _ (HA.out _ (below_alloc _ _)) hu hn)).mono ?_
    have HL := Lib.hid hL
    clear hL
    rintro e w1 ⟨rfl, hb1⟩
    obtain ⟨ho1, hB1⟩ := box_own hb1
    clear hb1
    by_cases h12 : ps.length ≤ 12
    · go_wp2
      go_loopw [17] (fun i wr => ∃ k : Nat, k ≤ ps.length ∧ i = .int .i64 k ∧ okTo N ps k ∧ Own wr w.heap.size 26 [.int .i64 N, .slice A xs.length ca] ∧ Below w.heap.size w wr) (fun i _ => ps.length - (intOf i).toNat)
      case atStart => exact ⟨0, Nat.zero_le _, rfl, okTo_zero _ _, ho1, hB1⟩
      case round =>
        obtain ⟨k, hk, rfl, hok, ho, hbel⟩ := hrel
        by_cases hlt : k < ps.length
        · obtain ⟨b, off, rfl, c0, c1, c2, c3⟩ := quad_cells HB.out hbel hlt
          replace c0 := c0 ⟨wr, Below.refl _ _⟩
          replace c1 := c1 ⟨wr, Below.refl _ _⟩
          replace c2 := c2 ⟨wr, Below.refl _ _⟩
          replace c3 := c3 ⟨wr, Below.refl _ _⟩
          simp only at c0 c1 c2 c3
          have HO := Lib.hid hok
          clear hok
          by_cases h1 : goodP N (qat ps k)
          · have H1 := Lib.hid (decide_eq_true h1)
            have HG := Lib.hid h1
            clear h1
            by_cases hk0 : 0 < k
            · obtain ⟨j, rfl⟩ : ∃ j, k = j + 1 := ⟨k - 1, by omega⟩
              by_cases h3 : lessP (qat ps j) (qat ps (j + 1))
              · have HS := Lib.hid (show okTo N ps (j + 1 + 1) from okTo_succ.2 ⟨HO.out, HG.out, fun _ => h3⟩)
                have hz := cmpP_neg.2 h3
                clear h3 HO HG
                generalize hq : qat ps (j + 1) = q at *
                obtain ⟨q0, q1, q2, q3⟩ := q
                obtain ⟨b', off', e', d0, d1, d2, d3⟩ := quad_cells HB.out (below_trans hbel (below_alloc wr (.cells #[.int .i64 q0, .int .i64 q1, .int .i64 q2, .int .i64 q3] 29))) (k := j) (by omega)
                obtain ⟨rfl, rfl⟩ : b = b' ∧ off = off' := by injection e' with e'; injection e' with e1 e2; exact ⟨e1, e2⟩
                clear e' hq
                generalize qat ps j = p at *
                obtain ⟨r0, r1, r2, r3⟩ := p
                generalize h3 : cmpP (r0, r1, r2, r3) (q0, q1, q2, q3) = z at *
                have H3 := Lib.hid h3
                clear h3
                have n0 : ∀ u : Bel (wr.alloc (.cells #[.int .i64 q0, .int .i64 q1, .int .i64 q2, .int .i64 q3] 29)), u.w.cell? ⟨w.heap.size, 0, none⟩ = some (.int .i64 N) := fun u => ((ho.alloc _).grow u.ok).two.1
                have p0 := fun u : Bel (wr.alloc (.cells #[.int .i64 q0, .int .i64 q1, .int .i64 q2, .int .i64 q3] 29)) => (box_punct u.w u.ok).1
                have p1 := fun u : Bel (wr.alloc (.cells #[.int .i64 q0, .int .i64 q1, .int .i64 q2, .int .i64 q3] 29)) => (box_punct u.w u.ok).2.1
                have p2 := fun u : Bel (wr.alloc (.cells #[.int .i64 q0, .int .i64 q1, .int .i64 q2, .int .i64 q3] 29)) => (box_punct u.w u.ok).2.2.1
                have p3 := fun u : Bel (wr.alloc (.cells #[.int .i64 q0, .int .i64 q1, .int .i64 q2, .int .i64 q3] 29)) => (box_punct u.w u.ok).2.2.2
                go_wp2
                refine wp_region_bel (by kernel_rfl) (by kernel_rfl) ?_
                repeat (go_big_quiet_step (first | (go_at_call 70; exact bel_of _ (punctFits_is H1.out _)) | (go_at_call 72; exact bel_of _ (comparePlaces_is H3.out _))))
                refine wpQuiet_nil ?_
                rintro _ ⟨u, rfl⟩
                go_wp2
                go_roundw
                case rel => exact ⟨j + 1 + 1, by omega, by go_num, HS.out, (ho.alloc _).grow u.ok, below_trans hbel (below_trans (below_alloc _ _) u.ok)⟩
                case measure => simp [intOf]; omega
              · have HS := Lib.hid (show ¬ okL N xs ps from fun h => h3 ((okTo_iff.2 h.2.2 (j + 1) hlt).2 (by omega)))
                have hz := cmpP_nonneg.2 h3
                clear h3 HO HG
                generalize hq : qat ps (j + 1) = q at *
                obtain ⟨q0, q1, q2, q3⟩ := q
                obtain ⟨b', off', e', d0, d1, d2, d3⟩ := quad_cells HB.out (below_trans hbel (below_alloc wr (.cells #[.int .i64 q0, .int .i64 q1, .int .i64 q2, .int .i64 q3] 29))) (k := j) (by omega)
                obtain ⟨rfl, rfl⟩ : b = b' ∧ off = off' := by injection e' with e'; injection e' with e1 e2; exact ⟨e1, e2⟩
                clear e' hq
                generalize qat ps j = p at *
                obtain ⟨r0, r1, r2, r3⟩ := p
                generalize h3 : cmpP (r0, r1, r2, r3) (q0, q1, q2, q3) = z at *
                have H3 := Lib.hid h3
                clear h3
                have n0 : ∀ u : Bel (wr.alloc (.cells #[.int .i64 q0, .int .i64 q1, .int .i64 q2, .int .i64 q3] 29)), u.w.cell? ⟨w.heap.size, 0, none⟩ = some (.int .i64 N) := fun u => ((ho.alloc _).grow u.ok).two.1
                have p0 := fun u : Bel (wr.alloc (.cells #[.int .i64 q0, .int .i64 q1, .int .i64 q2, .int .i64 q3] 29)) => (box_punct u.w u.ok).1
                have p1 := fun u : Bel (wr.alloc (.cells #[.int .i64 q0, .int .i64 q1, .int .i64 q2, .int .i64 q3] 29)) => (box_punct u.w u.ok).2.1
                have p2 := fun u : Bel (wr.alloc (.cells #[.int .i64 q0, .int .i64 q1, .int .i64 q2, .int .i64 q3] 29)) => (box_punct u.w u.ok).2.2.1
                have p3 := fun u : Bel (wr.alloc (.cells #[.int .i64 q0, .int .i64 q1, .int .i64 q2, .int .i64 q3] 29)) => (box_punct u.w u.ok).2.2.2
                go_wp2
                refine wp_region_bel (by kernel_rfl) (by kernel_rfl) ?_
                repeat (go_big_quiet_step (first | (go_at_call 70; exact bel_of _ (punctFits_is H1.out _)) | (go_at_call 72; exact bel_of _ (comparePlaces_is H3.out _))))
                refine wpQuiet_nil ?_
                rintro _ ⟨u, rfl⟩
                go_wp2
                go_ret
                exact ⟨ret_bool (tf_no HS.out), below_trans hbel (below_trans (below_alloc _ _) u.ok)⟩
            · obtain rfl : k = 0 := by omega
              have HS := Lib.hid (show okTo N ps (0 + 1) from okTo_succ.2 ⟨HO.out, HG.out, fun h => by omega⟩)
              clear HO HG
              simp only [Nat.zero_mul, Nat.add_zero] at c0 c1 c2 c3
              generalize qat ps 0 = q at *
              obtain ⟨q0, q1, q2, q3⟩ := q
              have n0 : ∀ u : Bel (wr.alloc (.cells #[.int .i64 q0, .int .i64 q1, .int .i64 q2, .int .i64 q3] 29)), u.w.cell? ⟨w.heap.size, 0, none⟩ = some (.int .i64 N) := fun u => ((ho.alloc _).grow u.ok).two.1
              have p0 := fun u : Bel (wr.alloc (.cells #[.int .i64 q0, .int .i64 q1, .int .i64 q2, .int .i64 q3] 29)) => (box_punct u.w u.ok).1
              have p1 := fun u : Bel (wr.alloc (.cells #[.int .i64 q0, .int .i64 q1, .int .i64 q2, .int .i64 q3] 29)) => (box_punct u.w u.ok).2.1
              have p2 := fun u : Bel (wr.alloc (.cells #[.int .i64 q0, .int .i64 q1, .int .i64 q2, .int .i64 q3] 29)) => (box_punct u.w u.ok).2.2.1
              have p3 := fun u : Bel (wr.alloc (.cells #[.int .i64 q0, .int .i64 q1, .int .i64 q2, .int .i64 q3] 29)) => (box_punct u.w u.ok).2.2.2
              go_wp2
              refine wp_region_bel (by kernel_rfl) (by kernel_rfl) ?_
              repeat (go_big_quiet_step (first | (go_at_call 70; exact bel_of _ (punctFits_is H1.out _))))
              refine wpQuiet_nil ?_
              rintro _ ⟨u, rfl⟩
              go_wp2
              go_roundw
              case rel => exact ⟨0 + 1, by omega, by go_num, HS.out, (ho.alloc _).grow u.ok, below_trans hbel (below_trans (below_alloc _ _) u.ok)⟩
              case measure => simp [intOf]; omega
          · have H1 := Lib.hid (decide_eq_false h1)
            have HS := Lib.hid (show ¬ okL N xs ps from fun h => h1 (h.2.2.1 _ (qat_mem hlt)))
            clear h1 HO
            generalize qat ps k = q at *
            obtain ⟨q0, q1, q2, q3⟩ := q
            have n0 : ∀ u : Bel (wr.alloc (.cells #[.int .i64 q0, .int .i64 q1, .int .i64 q2, .int .i64 q3] 29)), u.w.cell? ⟨w.heap.size, 0, none⟩ = some (.int .i64 N) := fun u => ((ho.alloc _).grow u.ok).two.1
            have p0 := fun u : Bel (wr.alloc (.cells #[.int .i64 q0, .int .i64 q1, .int .i64 q2, .int .i64 q3] 29)) => (box_punct u.w u.ok).1
            have p1 := fun u : Bel (wr.alloc (.cells #[.int .i64 q0, .int .i64 q1, .int .i64 q2, .int .i64 q3] 29)) => (box_punct u.w u.ok).2.1
            have p2 := fun u : Bel (wr.alloc (.cells #[.int .i64 q0, .int .i64 q1, .int .i64 q2, .int .i64 q3] 29)) => (box_punct u.w u.ok).2.2.1
            have p3 := fun u : Bel (wr.alloc (.cells #[.int .i64 q0, .int .i64 q1, .int .i64 q2, .int .i64 q3] 29)) => (box_punct u.w u.ok).2.2.2
            go_wp2
            refine wp_region_bel (by kernel_rfl) (by kernel_rfl) ?_
            repeat (go_big_quiet_step (first | (go_at_call 70; exact bel_of _ (punctFits_is H1.out _))))
            refine wpQuiet_nil ?_
            rintro _ ⟨u, rfl⟩
            go_wp2
            go_ret
            exact ⟨ret_bool (tf_no HS.out), below_trans hbel (below_trans (below_alloc _ _) u.ok)⟩
        · have hkn : k = ps.length := by omega
          subst hkn
          have HS := Lib.hid (show okL N xs ps from ⟨HL.out, h12, okTo_iff.1 hok⟩)
          clear hok
          go_wp2
          go_ret
          exact ⟨ret_bool (tf_yes HS.out), hbel⟩
    · go_wp2
      go_ret
      exact ⟨ret_bool (tf_no (fun h => h12 h.2.1)), hB1⟩
  · refine (as_bool (tf_no hL).symm (implLatOk_any N A ca xs _ (HA.out _ (below_alloc _ _)) hu hn)).mono ?_
    have HL := Lib.hid hL
    clear hL
    rintro e w1 ⟨rfl, hb1⟩
    go_wp2
    go_ret
    exact ⟨ret_bool (tf_no (fun h => HL.out h.1)), (box_own hb1).2⟩
end Go.Proofs.Ytipcjofmplpffaa

/-
  The sort of puncts by place: what slices.SortFunc leaves.
-/
namespace Go.Proofs.Ytipcjofmplpffaa
open Go.RowKit Go.Lib Go.Sort Go.Shelf

def encP (p : Pn) : List Value := [.int .i64 p.1, .int .i64 p.2.1, .int .i64 p.2.2.1, .int .i64 p.2.2.2]
theorem encP_len (p : Pn) : (encP p).length = 4 := rfl
theorem encP_all (ps : List Pn) : ps.flatMap encP = iz (qz ps) := by
  induction ps with
  | nil => rfl
  | cons p ps ih => rw [List.flatMap_cons, ih, qz_cons]; rfl
theorem lt_is (x y : Pn) : ltOf cmpP x y = decide (lessP x y) := by unfold ltOf; exact decide_eq_decide.2 cmpP_neg
theorem swo_places : SWO (ltOf cmpP) where
  irrefl x := by rw [lt_is]; exact decide_eq_false (less_irrefl x)
  trans x y z h1 h2 := by rw [lt_is, decide_eq_true_iff] at *; exact less_trans h1 h2
  ntrans x y z h1 h2 := by rw [lt_is, decide_eq_false_iff_not] at *; unfold lessP at *; omega
theorem cmpLays_places (blk off size : Nat) (w : World) : CmpLays Try.prog 72 #[] encP 4 cmpP blk off size w :=
  fun _ _ _ _ x y => comparePlaces_any x.1 x.2.1 x.2.2.1 x.2.2.2 y.1 y.2.1 y.2.2.1 y.2.2.2 _

set_option maxRecDepth 100000 in
theorem sortPuncts_any (v : Value) (base : Nat) (ss : List Pn) (w : World) (hrow : w.ownsRow base 29 4 v ss.length (iz (qz ss))) (hnil : v ≠ .slice none 0 0) (hn : ss.length ≤ 1048588) :
    Calls Try.prog 78 #[v, .func (.func 72) #[] #[]] w fun e w' => e = .returned (.tuple #[]) ∧
      ∃ ts : List Pn, ts.Perm ss ∧ ts.Pairwise (fun a b => ¬ lessP b a) ∧ w'.ownsRow base 29 4 v ss.length (iz (qz ts)) ∧ w.grownBy w' v.ownBlock := by
  rcases hrow.2 with ⟨h, _⟩ | ⟨g, cap, cur, rfl, hbase, hb, h1, h2, h3, h4⟩
  · exact absurd h hnil
  rw [← encP_all] at h4
  have eg : ∀ args w, (callFunc 72 args).run Try.prog w = .ok (.enter 72 args) w := enters_of Try.func72 (by kernel_rfl) rfl
  have hH := holdsK_block (enc := encP) encP_len hb h4
  have hcon := AnyQ.slices_SortFunc sortP 4 Try.isAgg29 Try.sizeOf29 encP encP_len (fun x v hv => by simp [encP] at hv; rcases hv with rfl | rfl | rfl | rfl <;> rfl) cmpP swo_places 72 #[] g 0 cap ss.toArray w eg (cmpLays_places _ _ _ _) hH ((Array.getElem?_eq_some_iff.1 hb).1) (by simp; omega)
  refine (show Calls Try.prog 78 _ _ _ from hcon).mono ?_
  rintro e w' ⟨he, d', n, os, hp, hs, rfl⟩
  refine ⟨he, d'.toList, perm_of_permIn hp, ?_, ?_, ?_⟩
  · have := sorted_of hp.1 hs
    refine this.imp fun {a b} h => ?_
    rw [lt_is, decide_eq_false_iff_not] at h
    exact h
  · have := ownsRow_sortK (enc := encP) encP_len (w := w) (n := n) (os := os) (ss := ss) (ts := d'.toList) (by simpa using hp.1) hbase hb h1 h2 h3
    rw [encP_all] at this
    simpa using this
  · exact grownBy_sortK d'
end Go.Proofs.Ytipcjofmplpffaa

/-
  Keys of maps that are structs of three integers: what such a key reads as.
-/
namespace Go.Proofs.Ytipcjofmplpffaa
open Go.RowKit Go.WideMaps Go.Maps

/-- one integer cell as part of a key -/
def litOf : Value → Option (List Lit)
  | .int q n => if q = .i64 ∧ (Lit.int .i64 n).wf = true then some [.int .i64 n] else none
  | _ => none
theorem keyLits_int {P : Program} {e : TypeId} (he : P.underlying e = some (.int .i64)) (d : Nat) (v : Value) : P.keyLits (d + 1) e [v] = litOf v := by
  unfold Program.keyLits
  rw [he]
  cases v <;> simp [litOf]
theorem litOf_inv {v : Value} {ls : List Lit} (h : litOf v = some ls) : ∃ n, v = .int .i64 n ∧ (Lit.int .i64 n).wf = true ∧ ls = [.int .i64 n] := by
  cases v <;> simp [litOf] at h
  rename_i q n
  obtain ⟨⟨rfl, hw⟩, rfl⟩ := h
  exact ⟨n, rfl, hw, rfl⟩

theorem three_of {α : Type} {l : List α} (h : l.length = 3) : ∃ a b c, l = [a, b, c] := by
  match l, h with
  | [a, b, c], _ => exact ⟨a, b, c, rfl⟩

structure Key3 (P : Program) (k e : TypeId) (fs : Array Field) : Prop where
  hu : P.underlying k = some (.struct fs)
  he : P.underlying e = some (.int .i64)
  hk : P.keyType k = true
  hc : P.cellsOf k = 3
  h1 : P.cellsOf e = 1
  hn : fs.all (·.name != "_") = true
  hf : fs.toList.map (fun f => (f.type, f.offset)) = [(e, 0), (e, 1), (e, 2)]
  hs : 1 ≤ P.types.size

variable {P : Program} {k e : TypeId} {fs : Array Field}

theorem keyLits_three (K : Key3 P k e fs) (x y z : Value) :
    P.keyLits (P.types.size + 1) k [x, y, z] = (litOf x).bind fun a => (litOf y).bind fun b => (litOf z).bind fun c => some (a ++ b ++ c) := by
  obtain ⟨m, hm⟩ : ∃ m, P.types.size = m + 1 := ⟨P.types.size - 1, by have := K.hs; omega⟩
  unfold Program.keyLits
  simp only [K.hu]
  rw [if_pos ⟨by rw [K.hc]; rfl, K.hn⟩, hm]
  have hf := K.hf
  obtain ⟨f0, f1, f2, e3⟩ := three_of (l := fs.toList) (by have := congrArg List.length hf; rwa [List.length_map] at this)
  rw [e3] at hf ⊢
  simp only [List.map_cons, List.map_nil, List.cons.injEq, Prod.mk.injEq, and_true] at hf
  obtain ⟨⟨t0, o0⟩, ⟨t1, o1⟩, t2, o2⟩ := hf
  rw [List.mapM_cons, List.mapM_cons, List.mapM_cons, List.mapM_nil]
  simp only [t0, t1, t2, o0, o1, o2, K.h1, List.drop_zero, List.drop_succ_cons, List.take_succ_cons, List.take_zero, keyLits_int K.he]
  cases litOf x <;> cases litOf y <;> cases litOf z <;> simp

theorem keyOf_three (K : Key3 P k e fs) {a b c : Int} (ha : (Lit.int .i64 a).wf = true) (hb : (Lit.int .i64 b).wf = true) (hc : (Lit.int .i64 c).wf = true) :
    keyOf P k (.agg #[.int .i64 a, .int .i64 b, .int .i64 c]) = some (.string (keyBytes [.int .i64 a, .int .i64 b, .int .i64 c])) := by
  unfold keyOf
  simp only [K.hu]
  rw [if_pos (by rw [K.hk]; simp [Value.formed, K.hu, K.hc])]
  simp only [Value.cells]
  rw [keyLits_three K]
  simp [litOf, ha, hb, hc]

theorem keyOf_three_inv (K : Key3 P k e fs) {v : Value} {l : Lit} (h : keyOf P k v = some l) :
    ∃ a b c : Int, v = .agg #[.int .i64 a, .int .i64 b, .int .i64 c] ∧ ((Lit.int .i64 a).wf = true ∧ (Lit.int .i64 b).wf = true ∧ (Lit.int .i64 c).wf = true) ∧ l = .string (keyBytes [.int .i64 a, .int .i64 b, .int .i64 c]) := by
  unfold keyOf at h
  simp only [K.hu] at h
  split at h
  · rename_i hc
    simp only [Bool.and_eq_true] at hc
    obtain ⟨_, hf⟩ := hc
    cases v <;> simp [Value.formed, K.hu] at hf
    rename_i cs
    rw [K.hc] at hf
    obtain ⟨cs⟩ := cs
    obtain ⟨x, y, z, rfl⟩ := three_of (l := cs) (by simpa using hf)
    · simp only [Value.cells] at h
      rw [keyLits_three K] at h
      cases hx : litOf x with
      | none => simp [hx] at h
      | some u =>
        cases hy : litOf y with
        | none => simp [hx, hy] at h
        | some v =>
          cases hz : litOf z with
          | none => simp [hx, hy, hz] at h
          | some t =>
            simp [hx, hy, hz] at h
            obtain ⟨a, rfl, wa, rfl⟩ := litOf_inv hx
            obtain ⟨b, rfl, wb, rfl⟩ := litOf_inv hy
            obtain ⟨c, rfl, wc, rfl⟩ := litOf_inv hz
            exact ⟨a, b, c, rfl, ⟨wa, wb, wc⟩, h.symm⟩
  · cases h
end Go.Proofs.Ytipcjofmplpffaa

/-
  Maps whose keys are places (source, bits, key) and whose elements are labels.
-/
namespace Go.Proofs.Ytipcjofmplpffaa
open Go.RowKit Go.WideMaps Go.Maps

abbrev Pl := Int × Int × Int
abbrev plV (p : Pl) : Value := .agg #[.int .i64 p.1, .int .i64 p.2.1, .int .i64 p.2.2]
def kp (p : Pl) : Lit := .string (keyBytes [.int .i64 p.1, .int .i64 p.2.1, .int .i64 p.2.2])
def plc (p : Pn) : Pl := (p.1, p.2.1, p.2.2.1)
def wfPl (p : Pl) : Prop := (Lit.int .i64 p.1).wf = true ∧ (Lit.int .i64 p.2.1).wf = true ∧ (Lit.int .i64 p.2.2).wf = true

set_option maxRecDepth 100000 in
theorem laidOut_prog : laidOutB Try.prog = true := by kernel_rfl
set_option maxRecDepth 100000 in
theorem place_row : (70 : TypeId) < Try.prog.types.size := of_decide_eq_true (by kernel_rfl)
set_option maxRecDepth 100000 in
theorem place_wide : (match Try.prog.underlying 70 with | some (.array _ _) | some (.struct _) => true | _ => false) = true := by rw [Try.underlying70]
set_option maxRecDepth 100000 in
theorem placeLaw : Keyed Try.prog 70 := Keyed.of_law (deep_law_laid laidOut_prog (m := 2) (by omega) place_row (by kernel_rfl) place_wide)
set_option maxRecDepth 100000 in
theorem placeKey : ∃ fs, Key3 Try.prog 70 3 fs := by
  refine ⟨_, ⟨Try.underlying70, Try.underlying3, by kernel_rfl, by kernel_rfl, by kernel_rfl, by kernel_rfl, by kernel_rfl, of_decide_eq_true (by kernel_rfl)⟩⟩
theorem keyOf_place {p : Pl} (h : wfPl p) : keyOf Try.prog 70 (plV p) = some (kp p) := by
  obtain ⟨fs, K⟩ := placeKey
  exact keyOf_three K h.1 h.2.1 h.2.2
theorem keyOf_place_inv {v : Value} {l : Lit} (h : keyOf Try.prog 70 v = some l) : ∃ p : Pl, v = plV p ∧ wfPl p ∧ l = kp p := by
  obtain ⟨fs, K⟩ := placeKey
  obtain ⟨a, b, c, rfl, hw, rfl⟩ := keyOf_three_inv K h
  exact ⟨(a, b, c), rfl, hw, rfl⟩
theorem kp_inj {p q : Pl} (hp : wfPl p) (hq : wfPl q) (h : kp p = kp q) : p = q := by
  have e := placeLaw.inj (keyOf_place hp) (h ▸ keyOf_place hq)
  obtain ⟨a, b, c⟩ := p
  obtain ⟨a', b', c'⟩ := q
  simpa using e
theorem kp_key (p : Pl) : WideAt.IsKeyLit (kp p) := trivial

theorem kp_same {p q : Pn} (hp : wfPl (plc p)) (hq : wfPl (plc q)) : kp (plc p) = kp (plc q) ↔ sameP p q := by
  constructor
  · intro h
    have := kp_inj hp hq h
    simp only [plc, Prod.mk.injEq] at this
    exact this
  · intro h
    unfold plc
    rw [h.1, h.2.1, h.2.2]

/-- The map D holds the labels of the puncts qs, and nothing else. -/
structure Tie (D : DataW Unit) (qs : List Pn) : Prop where
  keys : ∀ k, Maps.has D k = true ↔ ∃ q ∈ qs, kp (plc q) = k
  vals : ∀ q ∈ qs, ∀ z, D.atKey (kp (plc q)) z = .lit (.int .i64 q.2.2.2)
  wf : ∀ q ∈ qs, wfPl (plc q)
  one : qs.Pairwise (fun a b => ¬ sameP a b)

theorem Tie.none : Tie (.map []) [] := ⟨fun k => by simp [Maps.has], fun q hq => by simp at hq, fun q hq => by simp at hq, List.Pairwise.nil⟩
theorem Tie.put {D : DataW Unit} {qs : List Pn} (h : Tie D qs) (hm : IsMap D) {p : Pn} (hw : wfPl (plc p)) :
    Tie (D.put (kp (plc p)) (.lit (.int .i64 p.2.2.2))) (without qs p ++ [p]) := by
  refine ⟨fun k => ?_, fun q hq z => ?_, fun q hq => ?_, ?_⟩
  · by_cases hk : k = kp (plc p)
    · subst hk
      rw [has_put_same hm (kp_key _)]
      exact ⟨fun _ => ⟨p, by simp, rfl⟩, fun _ => rfl⟩
    · rw [has_put_other hk, h.keys]
      constructor
      · rintro ⟨q, hq, rfl⟩
        exact ⟨q, List.mem_append.2 (.inl (mem_without.2 ⟨hq, fun e => hk ((kp_same (h.wf q hq) hw).2 e)⟩)), rfl⟩
      · rintro ⟨q, hq, rfl⟩
        rcases List.mem_append.1 hq with hq | hq
        · exact ⟨q, (mem_without.1 hq).1, rfl⟩
        · obtain rfl := List.mem_singleton.1 hq
          exact absurd rfl hk
  · rcases List.mem_append.1 hq with hq | hq
    · obtain ⟨hq, hne⟩ := mem_without.1 hq
      rw [atKey_put_other (fun e => hne ((kp_same (h.wf q hq) hw).1 e))]
      exact h.vals q hq z
    · obtain rfl := List.mem_singleton.1 hq
      exact atKey_put_same hm (kp_key _) _ _
  · rcases List.mem_append.1 hq with hq | hq
    · exact h.wf q (mem_without.1 hq).1
    · obtain rfl := List.mem_singleton.1 hq
      exact hw
  · refine List.pairwise_append.2 ⟨h.one.filter _, List.pairwise_singleton _ _, fun a ha b hb => ?_⟩
    obtain rfl := List.mem_singleton.1 hb
    exact (mem_without.1 ha).2
theorem Tie.del {D : DataW Unit} {qs : List Pn} (h : Tie D qs) {p : Pn} (hw : wfPl (plc p)) : Tie (D.del (kp (plc p))) (without qs p) := by
  refine ⟨fun k => ?_, fun q hq z => ?_, fun q hq => h.wf q (mem_without.1 hq).1, h.one.filter _⟩
  · by_cases hk : k = kp (plc p)
    · subst hk
      rw [has_del_same]
      refine ⟨fun h => by simp at h, fun ⟨q, hq, e⟩ => ?_⟩
      obtain ⟨hq, hne⟩ := mem_without.1 hq
      exact absurd ((kp_same (h.wf q hq) hw).1 e) hne
    · rw [has_del_other hk, h.keys]
      constructor
      · rintro ⟨q, hq, rfl⟩
        exact ⟨q, mem_without.2 ⟨hq, fun e => hk ((kp_same (h.wf q hq) hw).2 e)⟩, rfl⟩
      · rintro ⟨q, hq, rfl⟩
        exact ⟨q, (mem_without.1 hq).1, rfl⟩
  · obtain ⟨hq, hne⟩ := mem_without.1 hq
    rw [atKey_del_other (fun e => hne ((kp_same (h.wf q hq) hw).1 e))]
    exact h.vals q hq z
/-- what a look-up finds -/
theorem Tie.look {D : DataW Unit} {qs : List Pn} (h : Tie D qs) {p : Pl} (hw : wfPl p) :
    (Maps.has D (kp p) = true ∧ ∃ q ∈ qs, plc q = p ∧ ∀ z, D.atKey (kp p) z = .lit (.int .i64 q.2.2.2)) ∨ (Maps.has D (kp p) = false ∧ ∀ q ∈ qs, plc q ≠ p) := by
  cases hh : Maps.has D (kp p) with
  | true =>
    obtain ⟨q, hq, e⟩ := (h.keys _).1 hh
    have := kp_inj (h.wf q hq) hw e
    subst this
    exact .inl ⟨rfl, q, hq, rfl, h.vals q hq⟩
  | false =>
    refine .inr ⟨rfl, fun q hq e => ?_⟩
    have := (h.keys (kp p)).2 ⟨q, hq, by rw [e]⟩
    rw [hh] at this
    cases this
/-- how many entries there are -/
theorem Tie.size {D : DataW Unit} {qs : List Pn} (h : Tie D qs) (ht : Tidy D) (hk : ∀ es, D = .map es → ∀ p ∈ es, WideAt.IsKeyLit p.1) : Maps.size D = qs.length := by
  obtain ⟨es, rfl, hp⟩ := ht
  have hk := hk es rfl
  rw [size_eq]
  have n1 : (es.map Prod.fst).Nodup := List.pairwise_map.2 hp
  have n2 : (qs.map fun q => kp (plc q)).Nodup := List.pairwise_map.2 (h.one.imp_of_mem fun ha hb hne e => hne ((kp_same (h.wf _ ha) (h.wf _ hb)).1 e))
  have hm : ∀ k, k ∈ es.map Prod.fst ↔ k ∈ qs.map fun q => kp (plc q) := fun k => by
    have := h.keys k
    rw [has_eq, List.any_eq_true] at this
    constructor
    · intro hx
      obtain ⟨p, hp, rfl⟩ := List.mem_map.1 hx
      obtain ⟨q, hq, e⟩ := this.1 ⟨p, hp, WideAt.sameKey_self (hk p hp)⟩
      exact List.mem_map.2 ⟨q, hq, e⟩
    · intro hx
      obtain ⟨q, hq, rfl⟩ := List.mem_map.1 hx
      obtain ⟨p, hp, e⟩ := this.2 ⟨q, hq, rfl⟩
      exact List.mem_map.2 ⟨p, hp, WideAt.sameKey_eq e⟩
  have := ((List.perm_ext_iff_of_nodup n1 n2).2 hm).length_eq
  simpa using this
end Go.Proofs.Ytipcjofmplpffaa

/-
  placeOf and labelsByPlace: what they return.
-/
namespace Go.Proofs.Ytipcjofmplpffaa
open Go.RowKit Go.WideMaps Go.Maps

set_option maxHeartbeats 400000 in
theorem placeOf_any (a b c d : Int) (w : World) :
    Calls Try.prog 46 #[pv a b c d] w fun e w' => e = .returned (.agg #[.int .i64 a, .int .i64 b, .int .i64 c]) ∧ Below w.heap.size w w' := by
  go_enter Try.func46, Try.ntmps46
  go_wp2
  refine bodyPost_ret (v := .agg #[.int .i64 a, .int .i64 b, .int .i64 c]) (by simp [results, Try.results46, go_sem]) rfl ⟨rfl, ?_⟩
  exact below_trans (below_alloc _ _) (below_alloc _ _)

/-- numbers that fit -/
def wfPn (p : Pn) : Prop := wfPl (plc p) ∧ (Lit.int .i64 p.2.2.2).wf = true
theorem small_wf {z : Int} (h0 : 0 ≤ z) (h1 : z ≤ 1048576) : (Lit.int .i64 z).wf = true := by
  exact WalkArith.wf_i64 (by omega)
theorem good_wf {N : Int} {p : Pn} (hN : N ≤ 16) (h : goodP N p) : wfPn p := by
  obtain ⟨⟨h1, h2⟩, ⟨a, b, c, d, e, f⟩, _⟩ := h
  exact ⟨⟨small_wf (z := p.1) a (by omega), small_wf (z := p.2.1) c (by omega), small_wf (z := p.2.2.1) e (by omega)⟩, small_wf h1 (by omega)⟩
theorem ok_one {N : Int} {ps : List Pn} (h : listOk N ps) : ps.Pairwise (fun a b => ¬ sameP a b) := h.2.2.imp less_not_same

abbrev ownsP (w : World) (g n : Nat) (D : DataW Unit) : Prop := w.ownsMap Try.prog 70 (plainElem Try.prog 3) g n D

theorem tie_next {D : DataW Unit} {ps : List Pn} {k : Nat} (hk : k < ps.length) (h : Tie D (ps.take k)) (hm : IsMap D) (hw : ∀ p ∈ ps, wfPn p) (hone : ps.Pairwise (fun a b => ¬ sameP a b)) :
    Tie (D.put (kp (plc (qat ps k))) (.lit (.int .i64 (qat ps k).2.2.2))) (ps.take (k + 1)) := by
  have h1 := h.put hm (p := qat ps k) (hw _ (qat_mem hk)).1
  rw [without_none, ← qat_get hk, ← List.take_succ_eq_append_getElem hk] at h1
  · rw [qat_get hk] at h1; exact h1
  · intro q hq
    rw [← List.take_append_drop k ps, List.pairwise_append] at hone
    refine hone.2.2 q hq _ ?_
    rw [List.drop_eq_getElem_cons hk, qat_get hk]
    exact List.mem_cons_self

set_option maxRecDepth 100000 in
set_option maxHeartbeats 1000000 in
theorem labelsByPlace_any (B : Option Addr) (cb : Nat) (ps : List Pn) (w : World) (hB : Rd w B (iz (qz ps))) (hm : ps.length ≤ 1048588) (hw : ∀ p ∈ ps, wfPn p) (hone : ps.Pairwise (fun a b => ¬ sameP a b)) :
    Calls Try.prog 45 #[.slice B ps.length cb] w fun e w' => ∃ g n D, e = .returned (.map (some g)) ∧ w.heap.size ≤ g ∧ n ≤ ps.length ∧ ownsP w' g n D ∧ Tie D ps ∧ Below w.heap.size w w' := by
  have hmm := @run_makeMap Try.prog
  have HB := Lib.hid hB
  have HW := Lib.hid hw
  have HO := Lib.hid hone
  clear hB hw hone
  go_enter Try.func45, Try.ntmps45
  go_wp2
  clear hmm
  go_loopw [9] (fun i wr => ∃ k : Nat, k ≤ ps.length ∧ i = .int .i64 k ∧ (∃ D, ownsP wr w.heap.size k D ∧ Tie D (ps.take k)) ∧ Below w.heap.size w wr) (fun i _ => ps.length - (intOf i).toNat)
  case atStart => exact ⟨0, Nat.zero_le _, rfl, ⟨_, World.ownsMap_made _ _ _ _, Tie.none⟩, below_alloc _ _⟩
  case round =>
    obtain ⟨k, hk, rfl, ⟨D, hown, htie⟩, hbel⟩ := hrel
    by_cases hlt : k < ps.length
    · obtain ⟨b, off, rfl, c0, c1, c2, c3⟩ := quad_cells HB.out hbel hlt
      replace c0 := c0 ⟨wr, Below.refl _ _⟩
      replace c1 := c1 ⟨wr, Below.refl _ _⟩
      replace c2 := c2 ⟨wr, Below.refl _ _⟩
      replace c3 := c3 ⟨wr, Below.refl _ _⟩
      simp only at c0 c1 c2 c3
      have HT := Lib.hid (tie_next hlt htie hown.isMap HW.out HO.out)
      have hkw := HW.out _ (qat_mem hlt)
      have HK := Lib.hid (keyOf_place hkw.1)
      have HV := Lib.hid (plainElem_int (H := Unit) Try.underlying3 hkw.2)
      have HN := Lib.hid hown
      clear htie hkw hown
      generalize hq : qat ps k = q at *
      obtain ⟨q0, q1, q2, q3⟩ := q
      clear hq
      have p0 := fun u : Bel (wr.alloc (.cells #[.int .i64 q0, .int .i64 q1, .int .i64 q2, .int .i64 q3] 29)) => (box_punct u.w u.ok).1
      have p1 := fun u : Bel (wr.alloc (.cells #[.int .i64 q0, .int .i64 q1, .int .i64 q2, .int .i64 q3] 29)) => (box_punct u.w u.ok).2.1
      have p2 := fun u : Bel (wr.alloc (.cells #[.int .i64 q0, .int .i64 q1, .int .i64 q2, .int .i64 q3] 29)) => (box_punct u.w u.ok).2.2.1
      have p3 := fun u : Bel (wr.alloc (.cells #[.int .i64 q0, .int .i64 q1, .int .i64 q2, .int .i64 q3] 29)) => (box_punct u.w u.ok).2.2.2
      go_wp2
      refine wp_region_belt 5 (by kernel_rfl) (by kernel_rfl) ?_
      simp only [List.take_succ_cons, List.take_zero, List.drop_succ_cons, List.drop_zero]
      repeat (go_big_quiet_step ((go_at_call 46; exact bel_of _ (placeOf_any q0 q1 q2 q3 _))))
      refine wpQuiet_nil ?_
      rintro _ ⟨u, rfl⟩
      clear p0 p1 p2 p3 c0 c1 c2 c3
      have hb1 := below_trans (below_alloc wr (.cells #[.int .i64 q0, .int .i64 q1, .int .i64 q2, .int .i64 q3] 29)) u.ok
      have hown := HN.out.kept (grownBy_of hb1 none) (by simp)
      have hbel1 := below_trans hbel hb1
      go_wp2_with (at_mapUpdate; refine wpList_mapUpdate_own _ rfl _ _ _ 67 rfl 70 3 placeLaw Try.underlying67 _ w.heap.size k _ rfl hown (by unfold maxLen; omega) _ _ _ rfl rfl HK.out _ [] HV.out ?_; intro w1 hown1 hgrow1)
      go_wp2
      go_roundw
      case rel => exact ⟨k + 1, by omega, by go_num, ⟨_, hown1, HT.out⟩, hbel1.grown hgrow1 hbel1.size (fun j hj => by cases hj; exact Nat.le_refl _)⟩
      case measure => simp [intOf]; omega
    · have hkn : k = ps.length := by omega
      subst hkn
      rw [List.take_length] at htie
      go_wp2
      go_ret
      exact ⟨w.heap.size, ps.length, D, rfl, Nat.le_refl _, Nat.le_refl _, hown, htie, hbel⟩
end Go.Proofs.Ytipcjofmplpffaa
