/-
  ExprRead of the program.
-/
import Derived.Test.YtmkfmohahfaemaaDoorExprCut
import Derived.Maps.AppendAt
namespace Go.Proofs.YtmkfmohahfaemaaDoor
open Go.RowKit Go.Sort

def mk (x : List UInt8) : ByteArray := ⟨x.toArray⟩
theorem mk_data (s : ByteArray) : mk s.data.toList = s := by unfold mk; simp
theorem mk_all {ws : List ByteArray} {ls : List (List UInt8)} (h : ws.map (·.data.toList) = ls) : ws = ls.map mk := by
  rw [← h, List.map_map]
  have : (mk ∘ fun x : ByteArray => x.data.toList) = id := by funext x; exact mk_data x
  rw [this, List.map_id]
theorem split_any (l : List UInt8) (w : World) (hs : l.length ≤ 1048576) (he : Errs w) :
    Calls Tryd.prog 43 #[.string ⟨l.toArray⟩, .string ⟨#[32]⟩] w fun e w' => e = .returned (.slice (some ⟨w.heap.size, 0, none⟩) (cutW l).length (cutW l).length) ∧ w' = w.alloc (.cells (strs ((cutW l).map mk)).toArray 9) := by
  obtain ⟨m, hm⟩ := he.len
  have h := Any.strings_Split { S.laysM146 with } S.laysM146.i9 ⟨l.toArray⟩ blank m w (by rw [size_text]; omega) hm (by decide)
  have hc := split_cut _ (⟨l.toArray⟩ : ByteArray) rfl
  simp only at hc
  have hl : Lib.countB ⟨l.toArray⟩ blank + 1 = (cutW l).length := by
    rw [← hc, List.length_map, Lib.splitB_all blank (by decide) 0 _ _ rfl]
  rw [mk_all hc, hl] at h
  exact h

/-- what reading hands back -/
def ReadRes (l : List UInt8) (w : World) (e : Ending) (w' : World) : Prop :=
  (∃ es v, IsText l es ∧ e = .returned (.tuple #[v, .bool true]) ∧ w'.ownsRow w.heap.size 31 2 v es.length (ez es) ∧ Below w.heap.size w w') ∨
  ((∀ es, ¬ IsText l es) ∧ e = .returned (.tuple #[.slice none 0 0, .bool false]) ∧ Below w.heap.size w w')
theorem own_nil2 {base : Nat} (W : World) (h : base ≤ W.heap.size) : (W.alloc (.cells #[] 31)).ownsRow base 31 2 (.slice (some ⟨W.heap.size, 0, none⟩) 0 0) 0 (ez []) :=
  ⟨rfl, .inr ⟨W.heap.size, 0, #[], rfl, h, Own.new W 31 [], Nat.le_refl _, by unfold maxLen; omega, by simp, by simp [ez]⟩⟩

theorem goods_nil : Goods [] := fun _ ht => nomatch ht
theorem goods_snoc {es : List (Int × Int)} {t : Int × Int} (h : Goods es) (hg : tokGood t) (hi : I64 t.2) : Goods (es ++ [t]) := fun x hx => by
  rcases List.mem_append.1 hx with hx | hx
  · exact h x hx
  · obtain rfl : x = t := by simpa using hx
    exact ⟨hg, hi⟩
theorem cutW_word (l : List UInt8) : ∀ w ∈ cutW l, w.length ≤ l.length := by
  induction l with
  | nil => intro w hw; simp [cutW] at hw; simp [hw]
  | cons c l ih =>
    intro w hw
    unfold cutW at hw
    split at hw
    · rcases List.mem_cons.1 hw with rfl | hw
      · simp
      · have := ih w hw; simp; omega
    · cases hc : cutW l with
      | nil => exact absurd hc (cutW_ne l)
      | cons v vs =>
        rw [hc] at hw ih
        simp only at hw
        rcases List.mem_cons.1 hw with rfl | hw
        · have := ih v (by simp); simp; omega
        · have := ih w (by simp [hw]); simp; omega
theorem noText {l : List UInt8} {k : Nat} (hk : k < (cutW l).length) (h : ¬ ∃ t, tokGood t ∧ I64 t.2 ∧ word t = (cutW l).getD k []) (es : List (Int × Int)) : ¬ IsText l es := fun ht => by
  have hc := isText_cut ht
  rw [hc] at hk h
  have hk' : k < es.length := by simpa using hk
  refine h ⟨es[k], (ht.1 _ (List.getElem_mem hk')).1, (ht.1 _ (List.getElem_mem hk')).2, ?_⟩
  simp [List.getD, hk']
theorem theText {l : List UInt8} {es : List (Int × Int)} (hg : Goods es) (hm : es.map word = cutW l) (hd : 0 ≤ depthOf es) : IsText l es :=
  ⟨hg, hd, by rw [hm, joinW_cut]⟩
theorem notText {l : List UInt8} {es : List (Int × Int)} (hg : Goods es) (hm : es.map word = cutW l) (hd : ¬ 0 ≤ depthOf es) (es' : List (Int × Int)) : ¬ IsText l es' := fun ht => by
  have := words_inj ht.1 hg (by rw [← isText_cut ht, hm])
  exact hd (this ▸ ht.2.1)
theorem take_words {ws : List (List UInt8)} {es : List (Int × Int)} {k : Nat} {t : Int × Int} (hk : k < ws.length) (hm : es.map word = ws.take k) (ht : word t = ws.getD k []) : (es ++ [t]).map word = ws.take (k + 1) := by
  rw [List.map_append, hm, List.take_succ_eq_append_getElem hk]
  congr 1
  simp [ht, List.getD, hk]

set_option maxRecDepth 100000 in
set_option maxHeartbeats 4000000 in
theorem implExprRead_any (l : List UInt8) (hl : l.length ≤ 1048576) (w : World) (ht : Tabs w) (he : Errs w) :
    Calls Tryd.prog 21 #[.string ⟨l.toArray⟩] w (ReadRes l w) := by
  obtain ⟨i0, hi, hz0, hz1, hz2⟩ := info_parts info_tok
  have HI := Lib.hid hi
  have HZ0 := Lib.hid hz0
  have HZ1 := Lib.hid hz1
  have HZ2 := Lib.hid hz2
  clear hi hz0 hz1 hz2
  have CS := Lib.hid (split_any l (w.alloc (.cells #[] 31)) hl (he.below (below_alloc _ _)))
  have HLn := Lib.hid (show (cutW l).length ≤ 1048577 by have := cutW_le l; omega)
  have HN := Lib.hid (fun k hk h => noText (l := l) (k := k) hk h)
  have HY := Lib.hid (fun es hg hm hd => theText (l := l) (es := es) hg hm hd)
  have HX := Lib.hid (fun es hg hm hd => notText (l := l) (es := es) hg hm hd)
  have HW := Lib.hid (fun k (hk : k < (cutW l).length) => show ((cutW l).getD k []).length ≤ 2097152 by
    have := cutW_word l _ (show (cutW l).getD k [] ∈ cutW l by simp [List.getD, hk]); omega)
  have HT := Lib.hid ht
  have HE := Lib.hid he
  clear ht he
  unfold ReadRes
  generalize hws : cutW l = ws at *
  have hlen := HLn.out
  go_enter Tryd.func21, Tryd.ntmps21
  go_wp2_with (go_at_call 43; refine CS.out.mono ?_; rintro e w' ⟨rfl, rfl⟩)
  go_loopw [4, 13] (fun x i wr => ∃ (k : Nat) (es : List (Int × Int)), k ≤ ws.length ∧ i = .int .i64 k ∧ wr.ownsRow w.heap.size 31 2 x k (ez es) ∧ Hid (x.ownBlock ≠ some (w.heap.size + 1)) ∧ Own wr (w.heap.size + 1) 9 (strs (ws.map mk)) ∧ Hid (Goods es ∧ es.map word = ws.take k ∧ es.length = k) ∧ Below w.heap.size w wr) (fun _ i _ => ws.length - (intOf i).toNat)
  case atStart =>
    refine ⟨0, [], Nat.zero_le _, rfl, ?_, Lib.hid ?_, ?_, Lib.hid ⟨goods_nil, rfl, rfl⟩, ?_⟩
    · exact owns_grow (own_nil2 w (Nat.le_refl _)) (below_alloc _ _)
    · simp [Value.ownBlock]
    · have := Own.new (w.alloc (.cells #[] 31)) 9 (strs (ws.map mk))
      simpa using this
    · exact below_trans (below_alloc _ _) (below_alloc _ _)
  case round =>
    obtain ⟨k, es, hk, rfl, hrow, HO, hown, HG, hbel⟩ := hrel
    obtain ⟨A, c, rfl, hrd⟩ := owns_rd hrow
    by_cases hlt : k < ws.length
    · have c0 : wr.cell? ⟨w.heap.size + 1, k, none⟩ = some (.string ⟨(ws.getD k []).toArray⟩) := by
        rw [hown.cell]; simp [strs, hlt, mk]
      by_cases hyes : ∃ t, tokGood t ∧ I64 t.2 ∧ word t = ws.getD k []
      · obtain ⟨t, hg, hi, hw⟩ := hyes
        have CW := Lib.hid (hw ▸ readTok_yes t hg hi wr (HT.out.below hbel))
        have HG2 := Lib.hid (show Goods (es ++ [t]) ∧ (es ++ [t]).map word = ws.take (k + 1) ∧ (es ++ [t]).length = k + 1 from ⟨goods_snoc HG.out.1 hg hi, take_words hlt HG.out.2.1 hw, by simp [HG.out.2.2]⟩)
        have hu : ∃ u, (strs (ws.map mk))[k]? = some u := ⟨_, List.getElem?_eq_getElem (by simpa [strs] using hlt)⟩
        obtain ⟨a, b⟩ := t
        simp only at CW
        generalize (⟨(ws.getD k []).toArray⟩ : ByteArray) = D at *
        clear hw hg hi hu
        go_wp2_with (first
          | (go_at_call 44; refine CW.out.mono ?_; rintro e w2 ⟨rfl, hb2⟩; have row2 := owns_grow hrow hb2; have own2 := hown.grow hb2; have hbel2 := below_trans hbel hb2; have hsz := hbel2.size; have hlt2 := own2.lt)
          | (at_builtin; refine wpList_append_own_at _ rfl _ _ 24 rfl w.heap.size 31 i0 (.agg #[.int .i64 0, .int .i64 0]) 2 16 Tryd.underlying24 HI.out HZ0.out HZ1.out HZ2.out rfl (by decide) _ _ _ rfl ((row2.alloc _).alloc _) ⟨w2.heap.size + 1, 0, none⟩ 1 1 [.int .i64 a, .int .i64 b] rfl rfl ?c1 ?c2 ?c3 ?c4 ?c5 ?_))
        case c1 =>
          intro i u hi
          match i, hi with
          | 0, hi => simp at hi; subst hi; simp [Addr.add]
          | 1, hi => simp at hi; subst hi; simp [Addr.add]
        case c2 => intro u hu'; simp at hu'; rcases hu' with rfl | rfl <;> rfl
        case c3 => unfold maxLen; omega
        case c4 => omega
        case c5 => simp; omega
        intro v' w4 hrow' hgrow _ hat
        have hO4 : Own w4 (w.heap.size + 1) 9 (strs (ws.map mk)) := (hgrow.block (w.heap.size + 1) (by simp; omega) (fun h => HO.out h.symm)).trans ((own2.alloc _).alloc _)
        have hB4 : Below w.heap.size w w4 := ((hbel2.alloc hsz _).alloc (by simp; omega) _).grown hgrow (by simp; omega) (fun j h => (row2.lt j h).1)
        have hR4 : w4.ownsRow w.heap.size 31 2 v' (k + 1) (ez (es ++ [(a, b)])) := by rw [ez_append]; simpa [ez] using hrow'
        have hat2 : v'.ownBlock ≠ some (w.heap.size + 1) := by
          rcases hat with h | h
          · rw [h]; exact HO.out
          · rw [h]; intro e; injection e with e; simp at e; omega
        have HA := Lib.hid hat2
        clear hat hat2 hgrow hrow' row2 own2 hbel2 hrow hown hbel
        go_wp2
        go_roundw
        case rel => exact ⟨k + 1, es ++ [(a, b)], by omega, by go_num, hR4, HA, hO4, HG2, hB4⟩
        case measure => simp [intOf]; omega
      · have CW := Lib.hid (readTok_no (ws.getD k []) (HW.out k hlt) (fun t h1 h2 h3 => hyes ⟨t, h1, h2, h3⟩) wr (HT.out.below hbel) (HE.out.below hbel))
        have HR := Lib.hid (HN.out k hlt hyes)
        generalize (⟨(ws.getD k []).toArray⟩ : ByteArray) = D at *
        clear hyes
        go_wp2_with (go_at_call 44; refine CW.out.mono ?_; rintro e w2 ⟨rfl, hb2⟩)
        go_ret2
        exact .inr ⟨HR.out, rfl, below_trans (below_trans hbel hb2) (below_alloc _ _)⟩
    · have hkl : k = ws.length := by omega
      subst hkl
      have HM := Lib.hid (show es.map word = ws by have := HG.out.2.1; rwa [List.take_length] at this)
      have hel := HG.out.2.2
      have CO := Lib.hid (implExprOk_any A c es wr hrd (by omega))
      rw [hel] at CO
      by_cases hd : 0 ≤ depthOf es
      · have HR := Lib.hid (HY.out es HG.out.1 HM.out hd)
        have hB : decide (0 ≤ depthOf es) = true := by simp [hd]
        clear hd
        go_wp2_with (go_at_call 10; refine (as_bool hB CO.out).mono ?_; rintro e w2 ⟨rfl, hb2⟩; have row2 := owns_grow hrow hb2)
        go_ret2
        have row3 : w2.ownsRow w.heap.size 31 2 (.slice A ws.length c) es.length (ez es) := by rw [hel]; exact row2
        exact .inl ⟨es, .slice A ws.length c, HR.out, rfl, row3, below_trans hbel hb2⟩
      · have HR := Lib.hid (HX.out es HG.out.1 HM.out (by omega))
        have hB : decide (0 ≤ depthOf es) = false := by simp [hd]
        clear hd
        go_wp2_with (go_at_call 10; refine (as_bool hB CO.out).mono ?_; rintro e w2 ⟨rfl, hb2⟩)
        go_ret2
        exact .inr ⟨HR.out, rfl, below_trans hbel hb2⟩
end Go.Proofs.YtmkfmohahfaemaaDoor
