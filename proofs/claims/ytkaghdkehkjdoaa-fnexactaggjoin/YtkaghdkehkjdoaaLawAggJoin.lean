/-
  The law on AggJoin: at every two aggregates the program answers as the model in every field, writes into no argument, and its answer owns its memory. By genagg.py.
-/
import Derived.Test.YtkaghdkehkjdoaaJoinS
import Derived.Test.YtkaghdkehkjdoaaKitAgg
import Derived.Test.YtkaghdkehkjdoaaLawRowAg
namespace Go.Proofs.Ytkaghdkehkjdoaa
open Go.RowKit

/-- an aggregate in a variable of its own -/
structure DR (v wx : World) (X : Nat) (N h lw mn mx : Int) (A : Option Addr) (m c : Nat) (rs : List Int) : Prop where
  own : Own wx X 31 (agc N h lw mn mx (.slice A m c))
  row : ∃ lo hi, RowAt lo hi wx 3 1 (.slice A m c) m (iz rs) ∧ v.heap.size ≤ lo ∧ hi ≤ wx.heap.size ∧ (X < lo ∨ hi ≤ X)
  hX : v.heap.size ≤ X
  hb : Below v.heap.size v wx
theorem dr_sizes {v W : World} {X lo hi : Nat} {A : Option Addr} {m c : Nat} {rs : List Int} (h : RowAt lo hi W 3 1 (.slice A m c) m (iz rs)) (h1 : v.heap.size ≤ lo) (h2 : hi ≤ W.heap.size) (h3 : X < lo ∨ hi ≤ X) :
    ∃ lo hi, RowAt lo hi W 3 1 (.slice A m c) m (iz rs) ∧ v.heap.size ≤ lo ∧ hi ≤ W.heap.size ∧ (X < lo ∨ hi ≤ X) := ⟨lo, hi, h, h1, h2, h3⟩
theorem dr_of {v W : World} {X : Nat} {N h lw mn mx : Int} {A : Option Addr} {m c : Nat} {rs : List Int} (oX : Own W X 31 (agc 0 0 0 0 0 (.slice none 0 0))) (hX : v.heap.size ≤ X)
    {lo hi : Nat} (row : RowAt lo hi W 3 1 (.slice A m c) m (iz rs)) (hlo : v.heap.size ≤ lo) (hhi : hi ≤ W.heap.size) (hne : X < lo ∨ hi ≤ X) (hb : Below v.heap.size v W) :
    DR v ((((((W.setCell ⟨X, 0, none⟩ (.int .i64 N)).setCell ⟨X, 1, none⟩ (.int .i64 h)).setCell ⟨X, 2, none⟩ (.int .u64 lw)).setCell ⟨X, 3, none⟩ (.int .i64 mn)).setCell ⟨X, 4, none⟩ (.int .i64 mx)).setCell ⟨X, 5, none⟩ (.slice A m c)) X N h lw mn mx A m c rs :=
  ⟨(((((oX.set 0 _).set 1 _).set 2 _).set 3 _).set 4 _).set 5 _, ⟨lo, hi, (((((row.setX _ _ hne).setX _ _ hne).setX _ _ hne).setX _ _ hne).setX _ _ hne).setX _ _ hne, hlo, by rwa [set6_size], hne⟩, hX, below_set6 hb hX⟩

theorem joinTo_len (p q : Part) : (joinTo p q).l.length ≤ 4 := by
  by_cases h : joinOk p q
  · rw [joinTo_pos h]; exact tally2_fit.1
  · rw [joinTo_neg h]; show 0 ≤ 4; omega

set_option maxRecDepth 100000 in
set_option maxHeartbeats 16000000 in
theorem fnExactAggJoin_walk (Na ha la mna mxa : Int) (A : Option Addr) (ca : Nat) (ta : List Int) (Nb hc lc mnb mxb : Int) (B : Option Addr) (cb : Nat) (tb : List Int) (w : World)
    (hA : Rd w A (iz ta)) (hn : ta.length ≤ 9223372036854775807) (hha : I64 ha) (hla : U64w la) (hma : I64 mna) (h64a : ∀ x ∈ ta, I64 x)
    (hB : Rd w B (iz tb)) (hp : tb.length ≤ 9223372036854775807) (hhc : I64 hc) (hlc : U64w lc) (hmb : I64 mnb) (h64b : ∀ x ∈ tb, I64 x) :
    Calls Try.prog 7 #[agv Na ha la mna mxa (.slice A ta.length ca), agv Nb hc lc mnb mxb (.slice B tb.length cb)] w fun e w' => e = .returned (.bool true) ∧ Below w.heap.size w w' := by
  have HA := Lib.hid (fun W (h : Below w.heap.size w W) => hA.below h)
  have HB := Lib.hid (fun W (h : Below w.heap.size w W) => hB.below h)
  clear hA hB
  by_cases hn2 : ta.length ≤ 1048576
  · have hle : lessF 1048576 ta.length = 1048576 - (ta.length : Int) := by simp [lessF]; omega
    have hlt : ¬ (1048576 - (ta.length : Int) < 0) := by omega
    by_cases hpp : ta.length + tb.length ≤ 1048576
    · have hp2 : tb.length ≤ 1048576 := by omega
      have hle' : lessF (1048576 - (ta.length : Int)) tb.length = 1048576 - (ta.length : Int) - (tb.length : Int) := by simp [lessF]; omega
      have hlt' : ¬ (1048576 - (ta.length : Int) - (tb.length : Int) < 0) := by omega
      obtain ⟨za, hza, e1, e2⟩ := wide_in hha hla
      obtain ⟨zb, hzb, e3, e4⟩ := wide_in hhc hlc
      have HS := Lib.hid (fun g g' W (h : Rd W (some ⟨g, 0, none⟩) (iz ta)) (h' : Rd W (some ⟨g', 0, none⟩) (iz tb)) => show Calls Try.prog 31 #[agv Na ha la mna mxa (.slice (some ⟨g, 0, none⟩) ta.length ta.length), agv Nb hc lc mnb mxb (.slice (some ⟨g', 0, none⟩) tb.length tb.length)] W (JoinTo ⟨Na, za, mna, mxa, none, 0, 0, ta⟩ ⟨Nb, zb, mnb, mxb, none, 0, 0, tb⟩ W) by
        rw [e1, e2, e3, e4]
        exact specAggJoin_any ⟨Na, za, mna, mxa, some ⟨g, 0, none⟩, ta.length, ta.length, ta⟩ ⟨Nb, zb, mnb, mxb, some ⟨g', 0, none⟩, tb.length, tb.length, tb⟩ W ⟨h, rfl, hn2, h64a, hma, hza⟩ ⟨h', rfl, hp2, h64b, hmb, hzb⟩ (sfit_nn g _) (sfit_nn g' _))
      have HI := Lib.hid (fun g g' W (h : Rd W (some ⟨g, 0, none⟩) (iz ta)) (h' : Rd W (some ⟨g', 0, none⟩) (iz tb)) => show Calls Try.prog 15 #[agv Na ha la mna mxa (.slice (some ⟨g, 0, none⟩) ta.length ta.length), agv Nb hc lc mnb mxb (.slice (some ⟨g', 0, none⟩) tb.length tb.length)] W (JoinTo ⟨Na, za, mna, mxa, none, 0, 0, ta⟩ ⟨Nb, zb, mnb, mxb, none, 0, 0, tb⟩ W) by
        rw [e1, e2, e3, e4]
        exact implAggJoin_any ⟨Na, za, mna, mxa, some ⟨g, 0, none⟩, ta.length, ta.length, ta⟩ ⟨Nb, zb, mnb, mxb, some ⟨g', 0, none⟩, tb.length, tb.length, tb⟩ W ⟨h, rfl, hn2, h64a, hma, hza⟩ ⟨h', rfl, hp2, h64b, hmb, hzb⟩)
      clear hza hzb e1 e2 e3 e4 hha hla hma h64a hhc hlc hmb h64b
      unfold JoinTo at HS HI
      have hm0 := joinTo_len ⟨Na, za, mna, mxa, none, 0, 0, ta⟩ ⟨Nb, zb, mnb, mxb, none, 0, 0, tb⟩
      generalize tf (joinOk ⟨Na, za, mna, mxa, none, 0, 0, ta⟩ ⟨Nb, zb, mnb, mxb, none, 0, 0, tb⟩) = b at *
      generalize joinTo ⟨Na, za, mna, mxa, none, 0, 0, ta⟩ ⟨Nb, zb, mnb, mxb, none, 0, 0, tb⟩ = Z at *
      obtain ⟨N, z, mn, rs⟩ := Z
      dsimp only at HS HI hm0
      obtain ⟨m, HM⟩ : ∃ m, Hid (rs.length = m) := ⟨_, Lib.hid rfl⟩
      have hm : m ≤ 1048576 := by have := HM.out; omega
      rw [HM.out] at HS HI
      generalize hi z = h at *
      generalize lo z = lw at *
      generalize iat rs 0 = mx at *
      clear hm0
      have hbb : (b != b) = false := by simp
      obtain ⟨q0, HQ0⟩ : ∃ q0 : Int, Hid (1 + (ta.length : Int) = q0) := ⟨_, Lib.hid rfl⟩
      obtain ⟨q2, HQ2⟩ : ∃ q2 : Int, Hid (q0 + (tb.length : Int) = q2) := ⟨_, Lib.hid rfl⟩
      have hp0 : 0 ≤ q0 := by have := HQ0.out; omega
      have hp3 : ¬ q2 < 0 := by have := HQ2.out; omega
      obtain ⟨q1, HQ⟩ : ∃ q1 : Int, Hid (1 + (m : Int) = q1) := ⟨_, Lib.hid rfl⟩
      have hne2 : (q1 != q1) = false := by simp
      have hq2 : ¬ q1 < 0 := by have := HQ.out; omega
      have hb := Below.refl w.heap.size w
      go_enter Try.func7, Try.ntmps7
      have ba := Own.new w 46 (agc Na ha la mna mxa (.slice A ta.length ca))
      replace hb := below_trans hb (below_alloc w (.cells (agc Na ha la mna mxa (.slice A ta.length ca)).toArray 46))
      have bb := new_second w (.cells (agc Na ha la mna mxa (.slice A ta.length ca)).toArray 46) 46 (agc Nb hc lc mnb mxb (.slice B tb.length cb))
      replace ba := ba.grow (below_alloc (w.alloc (.cells (agc Na ha la mna mxa (.slice A ta.length ca)).toArray 46)) (.cells (agc Nb hc lc mnb mxb (.slice B tb.length cb)).toArray 46))
      replace hb := below_trans hb (below_alloc (w.alloc (.cells (agc Na ha la mna mxa (.slice A ta.length ca)).toArray 46)) (.cells (agc Nb hc lc mnb mxb (.slice B tb.length cb)).toArray 46))
      obtain ⟨bac0, bac1, bac2, bac3, bac4, bac5⟩ := ba.six
      go_wp2_with fail
      clear bac0 bac1 bac2 bac3 bac4 bac5
      refine (hle ▸ szAgg_any Na ha la mna mxa A ta.length ca 1048576 _ (by omega) (by omega) hn).mono ?_
      rintro e w2 ⟨rfl, hb2⟩
      have z2 := hb2.size
      rw [World.size_alloc, World.size_alloc] at z2
      replace ba := ba.grow hb2
      replace bb := bb.grow hb2
      replace hb := below_trans hb hb2
      clear hb2
      obtain ⟨bbc0, bbc1, bbc2, bbc3, bbc4, bbc5⟩ := bb.six
      go_wp2_with fail
      clear bbc0 bbc1 bbc2 bbc3 bbc4 bbc5
      refine (hle' ▸ szAgg_any Nb hc lc mnb mxb B tb.length cb (1048576 - (ta.length : Int)) _ (by omega) (by omega) hp).mono ?_
      rintro e w3 ⟨rfl, hb3⟩
      have z3 := hb3.size
      replace ba := ba.grow hb3
      replace bb := bb.grow hb3
      replace hb := below_trans hb hb3
      clear hb3
      go_upto_region 8 with (fail)
      go_cut [6, 7] from 17 to 118 (fun sp sq wx => ∃ (X : Nat) (T : Option Addr) (ct : Nat), sp = .pointer (some ⟨X, 0, none⟩) ∧ sq = .bool b ∧ DR w3 wx X N h lw mn mx T m ct rs)
      case first =>
        have kba0 := fun W (hW : Below w3.heap.size w3 W) => (ba.grow hW).six.1
        have kba1 := fun W (hW : Below w3.heap.size w3 W) => (ba.grow hW).six.2.1
        have kba2 := fun W (hW : Below w3.heap.size w3 W) => (ba.grow hW).six.2.2.1
        have kba3 := fun W (hW : Below w3.heap.size w3 W) => (ba.grow hW).six.2.2.2.1
        have kba4 := fun W (hW : Below w3.heap.size w3 W) => (ba.grow hW).six.2.2.2.2.1
        have kba5 := fun W (hW : Below w3.heap.size w3 W) => (ba.grow hW).six.2.2.2.2.2
        have kbb0 := fun W (hW : Below w3.heap.size w3 W) => (bb.grow hW).six.1
        have kbb1 := fun W (hW : Below w3.heap.size w3 W) => (bb.grow hW).six.2.1
        have kbb2 := fun W (hW : Below w3.heap.size w3 W) => (bb.grow hW).six.2.2.1
        have kbb3 := fun W (hW : Below w3.heap.size w3 W) => (bb.grow hW).six.2.2.2.1
        have kbb4 := fun W (hW : Below w3.heap.size w3 W) => (bb.grow hW).six.2.2.2.2.1
        have kbb5 := fun W (hW : Below w3.heap.size w3 W) => (bb.grow hW).six.2.2.2.2.2
        refine wp_region_held_drew (S := fun W => Below w3.heap.size w3 W) (by kernel_rfl) (Below.refl _ _).drew (fun hHd0 => ?_)
        refine wpAnyH_take (i := 0) (v := ?v0x1) rfl (by kernel_rfl) (by kernel_rfl) (by kernel_rfl) (fun _ _ _ h => h) (Or.inl ⟨by rfl, ?y0x1⟩) (by with_reducible assumption) ?_
        case y0x1 =>
          intro w0 hSw
          (try dsimp only at hSw)
          go_simp
          (try with_reducible rfl)
        (try simp only [Act.put, List.setIfInBounds_toArray])
        refine wpAnyH_take (i := 2) (v := ?v2x2) rfl (by kernel_rfl) (by kernel_rfl) (by kernel_rfl) (fun _ _ _ h => h) (Or.inl ⟨by rfl, ?y2x2⟩) (by with_reducible assumption) ?_
        case y2x2 =>
          intro w0 hSw
          (try dsimp only at hSw)
          go_simp
          (try with_reducible rfl)
        (try simp only [Act.put])
        refine wpAnyH_ready (rs := [1, 8]) (by kernel_rfl) (by simp) (AllReadyH.cons rfl (fun K hK => ?_) (AllReadyH.cons rfl (fun K hK => ?_) AllReadyH.nil))
        · go_simp
          go_at_call 30
          refine (toAgg_w Na ha la mna mxa A ta.length ca ta _ (HA.out _ (below_trans hb hHd0)) rfl hn2).mono ?_
          rintro e wd1 ⟨gp, rfl, pa, hbd1⟩
          refine hK.out _ _ (show Below w3.heap.size w3 wd1 from below_trans hHd0 hbd1) (fun hHd1 => ?_)
          clear hK K
          have zd1 : w3.heap.size ≤ wd1.heap.size := hbd1.size
          (try simp only [Act.put, List.setIfInBounds_toArray, List.set_cons_zero, List.set_cons_succ])
          refine wpAnyH_ready (rs := [3, 8]) (by kernel_rfl) (by simp) (AllReadyH.cons rfl (fun K hK => ?_) (AllReadyH.cons rfl (fun K hK => ?_) AllReadyH.nil))
          · go_simp
            go_at_call 30
            refine (toAgg_w Nb hc lc mnb mxb B tb.length cb tb _ (HB.out _ (below_trans hb hHd1)) rfl hp2).mono ?_
            rintro e wd3 ⟨gq, rfl, pb, hbd3⟩
            refine hK.out _ _ (show Below w3.heap.size w3 wd3 from below_trans hHd1 hbd3) (fun hHd3 => ?_)
            clear hK K
            have zd3 := hbd3.size
            replace pa := pa.grow hbd3
            (try simp only [Act.put, List.setIfInBounds_toArray, List.set_cons_zero, List.set_cons_succ])
            refine wpAnyH_ready (rs := [4, 8]) (by kernel_rfl) (by simp) (AllReadyH.cons rfl (fun K hK => ?_) (AllReadyH.cons rfl (fun K hK => ?_) AllReadyH.nil))
            · go_simp
              go_at_call 31
              refine (HS.out _ _ _ pa.reads pb.reads).mono ?_
              rintro e wd5 ⟨T, ct, rfl, pr, hbd5⟩
              refine hK.out _ _ (show Below w3.heap.size w3 wd5 from below_trans hHd3 hbd5) (fun hHd5 => ?_)
              clear hK K
              have zd5 := hbd5.size
              replace pa := pa.grow hbd5
              replace pb := pb.grow hbd5
              (try simp only [Act.put, List.setIfInBounds_toArray, List.set_cons_zero, List.set_cons_succ])
              refine wpAnyH_take (i := 5) (v := ?v5x3) rfl (by kernel_rfl) (by kernel_rfl) (by kernel_rfl) (fun _ _ _ h => h) (Or.inl ⟨by rfl, ?y5x3⟩) (by with_reducible assumption) ?_
              case y5x3 =>
                intro w0 hSw
                (try dsimp only at hSw)
                go_simp
                (try with_reducible rfl)
              (try simp only [Act.put, List.setIfInBounds_toArray])
              refine wpAnyH_take (i := 6) (v := ?v6x4) rfl (by kernel_rfl) (by kernel_rfl) (by kernel_rfl) (fun _ _ _ h => h) (Or.inl ⟨by rfl, ?y6x4⟩) (by with_reducible assumption) ?_
              case y6x4 =>
                intro w0 hSw
                (try dsimp only at hSw)
                go_simp
                (try with_reducible rfl)
              (try simp only [Act.put])
              refine wpAnyH_take (i := 7) (v := ?v7x5) rfl (by kernel_rfl) (by kernel_rfl) (by kernel_rfl) (fun _ _ _ h => h) (Or.inl ⟨by rfl, ?y7x5⟩) (by with_reducible assumption) ?_
              case y7x5 =>
                intro w0 hSw
                (try dsimp only at hSw)
                go_simp
                (try with_reducible rfl)
              (try simp only [Act.put])
              refine wpAnyH_ready (rs := [8]) (by kernel_rfl) (by simp) (AllReadyH.cons rfl (fun K hK => ?_) AllReadyH.nil)
              go_simp
              refine hK.out _ _ (show Below w3.heap.size w3 (wd5.alloc (.cells #[.int .i64 0, .int .i64 0, .int .u64 0, .int .i64 0, .int .i64 0, .slice none 0 0] 31)) from below_trans hHd5 (below_alloc _ _)) (fun hHd7 => ?_)
              clear hK K
              replace pa := pa.grow (below_alloc wd5 (.cells #[.int .i64 0, .int .i64 0, .int .u64 0, .int .i64 0, .int .i64 0, .slice none 0 0] 31))
              replace pb := pb.grow (below_alloc wd5 (.cells #[.int .i64 0, .int .i64 0, .int .u64 0, .int .i64 0, .int .i64 0, .slice none 0 0] 31))
              replace pr := pr.grow (below_alloc wd5 (.cells #[.int .i64 0, .int .i64 0, .int .u64 0, .int .i64 0, .int .i64 0, .slice none 0 0] 31))
              have qd := (show Own (wd5.alloc (.cells #[.int .i64 0, .int .i64 0, .int .u64 0, .int .i64 0, .int .i64 0, .slice none 0 0] 31)) wd5.heap.size 31 (agc 0 0 0 0 0 (.slice none 0 0)) from Own.new wd5 _ (agc 0 0 0 0 0 (.slice none 0 0)))
              (try simp only [Act.put, List.setIfInBounds_toArray, List.set_cons_zero, List.set_cons_succ])
              refine wpAnyH_ready (rs := [9]) (by kernel_rfl) (by simp) (AllReadyH.cons rfl (fun K hK => ?_) AllReadyH.nil)
              have hL : Below w3.heap.size w3 (wd5.alloc (.cells #[.int .i64 0, .int .i64 0, .int .u64 0, .int .i64 0, .int .i64 0, .slice none 0 0] 31)) := hHd7
              have hXv : w3.heap.size ≤ wd5.heap.size := by omega
              have hD := dr_sizes pr (v := w3) (X := wd5.heap.size) (by first | omega | (simp only [World.size_alloc]; omega)) (by first | omega | (simp only [World.size_alloc]; omega)) (by first | omega | (simp only [World.size_alloc]; omega))
              obtain ⟨lod, hid, rowd, hlod, hhid, hned⟩ := hD
              generalize wd5.heap.size = X at *
              generalize wd5.alloc (.cells #[.int .i64 0, .int .i64 0, .int .u64 0, .int .i64 0, .int .i64 0, .slice none 0 0] 31) = wZ at *
              obtain ⟨t0, t1, t2, t3, t4, t5⟩ := qd.six
              have ft0 := qd.free 0
              have ft1 := qd.free 1
              have ft2 := qd.free 2
              have ft3 := qd.free 3
              have ft4 := qd.free 4
              have ft5 := qd.free 5
              go_simp
              refine hK.out _ _ (below_set6 hL hXv) (fun hZ => ?_)
              clear hK K
              (try simp only [Act.put, List.setIfInBounds_toArray, List.set_cons_zero, List.set_cons_succ])
              refine wpAnyH_ready (rs := [10]) (by kernel_rfl) (by simp) (AllReadyH.cons rfl (fun K hK => ?_) AllReadyH.nil)
              go_simp
              refine hK.out _ _ hZ (fun _ => ?_)
              clear hK K
              (try simp only [Act.put, List.setIfInBounds_toArray, List.set_cons_zero, List.set_cons_succ])
              refine wpAnyH_done (by kernel_rfl) ?_ _
              clear t0 ft0 t1 ft1 t2 ft2 t3 ft3 t4 ft4 t5 ft5
              go_wp2_with fail
              go_meet
              case rel => exact ⟨_, _, _, rfl, rfl, dr_of qd hXv rowd hlod hhid hned hL⟩
            · go_simp
              refine hK.out _ _ (show Below w3.heap.size w3 (wd3.alloc (.cells #[.int .i64 0, .int .i64 0, .int .u64 0, .int .i64 0, .int .i64 0, .slice none 0 0] 31)) from below_trans hHd3 (below_alloc _ _)) (fun hHd6 => ?_)
              clear hK K
              replace pa := pa.grow (below_alloc wd3 (.cells #[.int .i64 0, .int .i64 0, .int .u64 0, .int .i64 0, .int .i64 0, .slice none 0 0] 31))
              replace pb := pb.grow (below_alloc wd3 (.cells #[.int .i64 0, .int .i64 0, .int .u64 0, .int .i64 0, .int .i64 0, .slice none 0 0] 31))
              have qd := (show Own (wd3.alloc (.cells #[.int .i64 0, .int .i64 0, .int .u64 0, .int .i64 0, .int .i64 0, .slice none 0 0] 31)) wd3.heap.size 31 (agc 0 0 0 0 0 (.slice none 0 0)) from Own.new wd3 _ (agc 0 0 0 0 0 (.slice none 0 0)))
              (try simp only [Act.put, List.setIfInBounds_toArray, List.set_cons_zero, List.set_cons_succ])
              refine wpAnyH_ready (rs := [4]) (by kernel_rfl) (by simp) (AllReadyH.cons rfl (fun K hK => ?_) AllReadyH.nil)
              go_simp
              go_at_call 31
              refine (HS.out _ _ _ pa.reads pb.reads).mono ?_
              rintro e wd8 ⟨T, ct, rfl, pr, hbd8⟩
              refine hK.out _ _ (show Below w3.heap.size w3 wd8 from below_trans hHd6 hbd8) (fun hHd8 => ?_)
              clear hK K
              have zd8 := hbd8.size
              rw [World.size_alloc] at zd8
              replace pa := pa.grow hbd8
              replace pb := pb.grow hbd8
              replace qd := qd.grow hbd8
              (try simp only [Act.put, List.setIfInBounds_toArray, List.set_cons_zero, List.set_cons_succ])
              refine wpAnyH_take (i := 5) (v := ?v5x6) rfl (by kernel_rfl) (by kernel_rfl) (by kernel_rfl) (fun _ _ _ h => h) (Or.inl ⟨by rfl, ?y5x6⟩) (by with_reducible assumption) ?_
              case y5x6 =>
                intro w0 hSw
                (try dsimp only at hSw)
                go_simp
                (try with_reducible rfl)
              (try simp only [Act.put, List.setIfInBounds_toArray])
              refine wpAnyH_take (i := 6) (v := ?v6x7) rfl (by kernel_rfl) (by kernel_rfl) (by kernel_rfl) (fun _ _ _ h => h) (Or.inl ⟨by rfl, ?y6x7⟩) (by with_reducible assumption) ?_
              case y6x7 =>
                intro w0 hSw
                (try dsimp only at hSw)
                go_simp
                (try with_reducible rfl)
              (try simp only [Act.put])
              refine wpAnyH_take (i := 7) (v := ?v7x8) rfl (by kernel_rfl) (by kernel_rfl) (by kernel_rfl) (fun _ _ _ h => h) (Or.inl ⟨by rfl, ?y7x8⟩) (by with_reducible assumption) ?_
              case y7x8 =>
                intro w0 hSw
                (try dsimp only at hSw)
                go_simp
                (try with_reducible rfl)
              (try simp only [Act.put])
              refine wpAnyH_ready (rs := [9]) (by kernel_rfl) (by simp) (AllReadyH.cons rfl (fun K hK => ?_) AllReadyH.nil)
              have hL : Below w3.heap.size w3 (wd8) := hHd8
              have hXv : w3.heap.size ≤ wd3.heap.size := by omega
              have hD := dr_sizes pr (v := w3) (X := wd3.heap.size) (by first | omega | (simp only [World.size_alloc]; omega)) (by first | omega | (simp only [World.size_alloc]; omega)) (by first | omega | (simp only [World.size_alloc]; omega))
              obtain ⟨lod, hid, rowd, hlod, hhid, hned⟩ := hD
              generalize wd3.heap.size = X at *
              obtain ⟨t0, t1, t2, t3, t4, t5⟩ := qd.six
              have ft0 := qd.free 0
              have ft1 := qd.free 1
              have ft2 := qd.free 2
              have ft3 := qd.free 3
              have ft4 := qd.free 4
              have ft5 := qd.free 5
              go_simp
              refine hK.out _ _ (below_set6 hL hXv) (fun hZ => ?_)
              clear hK K
              (try simp only [Act.put, List.setIfInBounds_toArray, List.set_cons_zero, List.set_cons_succ])
              refine wpAnyH_ready (rs := [10]) (by kernel_rfl) (by simp) (AllReadyH.cons rfl (fun K hK => ?_) AllReadyH.nil)
              go_simp
              refine hK.out _ _ hZ (fun _ => ?_)
              clear hK K
              (try simp only [Act.put, List.setIfInBounds_toArray, List.set_cons_zero, List.set_cons_succ])
              refine wpAnyH_done (by kernel_rfl) ?_ _
              clear t0 ft0 t1 ft1 t2 ft2 t3 ft3 t4 ft4 t5 ft5
              go_wp2_with fail
              go_meet
              case rel => exact ⟨_, _, _, rfl, rfl, dr_of qd hXv rowd hlod hhid hned hL⟩
          · go_simp
            refine hK.out _ _ (show Below w3.heap.size w3 (wd1.alloc (.cells #[.int .i64 0, .int .i64 0, .int .u64 0, .int .i64 0, .int .i64 0, .slice none 0 0] 31)) from below_trans hHd1 (below_alloc _ _)) (fun hHd4 => ?_)
            clear hK K
            replace pa := pa.grow (below_alloc wd1 (.cells #[.int .i64 0, .int .i64 0, .int .u64 0, .int .i64 0, .int .i64 0, .slice none 0 0] 31))
            have qd := (show Own (wd1.alloc (.cells #[.int .i64 0, .int .i64 0, .int .u64 0, .int .i64 0, .int .i64 0, .slice none 0 0] 31)) wd1.heap.size 31 (agc 0 0 0 0 0 (.slice none 0 0)) from Own.new wd1 _ (agc 0 0 0 0 0 (.slice none 0 0)))
            (try simp only [Act.put, List.setIfInBounds_toArray, List.set_cons_zero, List.set_cons_succ])
            refine wpAnyH_ready (rs := [3]) (by kernel_rfl) (by simp) (AllReadyH.cons rfl (fun K hK => ?_) AllReadyH.nil)
            go_simp
            go_at_call 30
            refine (toAgg_w Nb hc lc mnb mxb B tb.length cb tb _ (HB.out _ (below_trans hb hHd4)) rfl hp2).mono ?_
            rintro e wd9 ⟨gq, rfl, pb, hbd9⟩
            refine hK.out _ _ (show Below w3.heap.size w3 wd9 from below_trans hHd4 hbd9) (fun hHd9 => ?_)
            clear hK K
            have zd9 := hbd9.size
            rw [World.size_alloc] at zd9
            replace pa := pa.grow hbd9
            replace qd := qd.grow hbd9
            (try simp only [Act.put, List.setIfInBounds_toArray, List.set_cons_zero, List.set_cons_succ])
            refine wpAnyH_ready (rs := [4]) (by kernel_rfl) (by simp) (AllReadyH.cons rfl (fun K hK => ?_) AllReadyH.nil)
            go_simp
            go_at_call 31
            refine (HS.out _ _ _ pa.reads pb.reads).mono ?_
            rintro e wd10 ⟨T, ct, rfl, pr, hbd10⟩
            refine hK.out _ _ (show Below w3.heap.size w3 wd10 from below_trans hHd9 hbd10) (fun hHd10 => ?_)
            clear hK K
            have zd10 := hbd10.size
            replace pa := pa.grow hbd10
            replace qd := qd.grow hbd10
            replace pb := pb.grow hbd10
            (try simp only [Act.put, List.setIfInBounds_toArray, List.set_cons_zero, List.set_cons_succ])
            refine wpAnyH_take (i := 5) (v := ?v5x9) rfl (by kernel_rfl) (by kernel_rfl) (by kernel_rfl) (fun _ _ _ h => h) (Or.inl ⟨by rfl, ?y5x9⟩) (by with_reducible assumption) ?_
            case y5x9 =>
              intro w0 hSw
              (try dsimp only at hSw)
              go_simp
              (try with_reducible rfl)
            (try simp only [Act.put, List.setIfInBounds_toArray])
            refine wpAnyH_take (i := 6) (v := ?v6x10) rfl (by kernel_rfl) (by kernel_rfl) (by kernel_rfl) (fun _ _ _ h => h) (Or.inl ⟨by rfl, ?y6x10⟩) (by with_reducible assumption) ?_
            case y6x10 =>
              intro w0 hSw
              (try dsimp only at hSw)
              go_simp
              (try with_reducible rfl)
            (try simp only [Act.put])
            refine wpAnyH_take (i := 7) (v := ?v7x11) rfl (by kernel_rfl) (by kernel_rfl) (by kernel_rfl) (fun _ _ _ h => h) (Or.inl ⟨by rfl, ?y7x11⟩) (by with_reducible assumption) ?_
            case y7x11 =>
              intro w0 hSw
              (try dsimp only at hSw)
              go_simp
              (try with_reducible rfl)
            (try simp only [Act.put])
            refine wpAnyH_ready (rs := [9]) (by kernel_rfl) (by simp) (AllReadyH.cons rfl (fun K hK => ?_) AllReadyH.nil)
            have hL : Below w3.heap.size w3 (wd10) := hHd10
            have hXv : w3.heap.size ≤ wd1.heap.size := by omega
            have hD := dr_sizes pr (v := w3) (X := wd1.heap.size) (by first | omega | (simp only [World.size_alloc]; omega)) (by first | omega | (simp only [World.size_alloc]; omega)) (by first | omega | (simp only [World.size_alloc]; omega))
            obtain ⟨lod, hid, rowd, hlod, hhid, hned⟩ := hD
            generalize wd1.heap.size = X at *
            obtain ⟨t0, t1, t2, t3, t4, t5⟩ := qd.six
            have ft0 := qd.free 0
            have ft1 := qd.free 1
            have ft2 := qd.free 2
            have ft3 := qd.free 3
            have ft4 := qd.free 4
            have ft5 := qd.free 5
            go_simp
            refine hK.out _ _ (below_set6 hL hXv) (fun hZ => ?_)
            clear hK K
            (try simp only [Act.put, List.setIfInBounds_toArray, List.set_cons_zero, List.set_cons_succ])
            refine wpAnyH_ready (rs := [10]) (by kernel_rfl) (by simp) (AllReadyH.cons rfl (fun K hK => ?_) AllReadyH.nil)
            go_simp
            refine hK.out _ _ hZ (fun _ => ?_)
            clear hK K
            (try simp only [Act.put, List.setIfInBounds_toArray, List.set_cons_zero, List.set_cons_succ])
            refine wpAnyH_done (by kernel_rfl) ?_ _
            clear t0 ft0 t1 ft1 t2 ft2 t3 ft3 t4 ft4 t5 ft5
            go_wp2_with fail
            go_meet
            case rel => exact ⟨_, _, _, rfl, rfl, dr_of qd hXv rowd hlod hhid hned hL⟩
        · go_simp
          refine hK.out _ _ (show Below w3.heap.size w3 (w3.drew.alloc (.cells #[.int .i64 0, .int .i64 0, .int .u64 0, .int .i64 0, .int .i64 0, .slice none 0 0] 31)) from below_trans hHd0 (below_alloc _ _)) (fun hHd2 => ?_)
          clear hK K
          have qd := (show Own (w3.drew.alloc (.cells #[.int .i64 0, .int .i64 0, .int .u64 0, .int .i64 0, .int .i64 0, .slice none 0 0] 31)) w3.heap.size 31 (agc 0 0 0 0 0 (.slice none 0 0)) from Own.new w3.drew _ (agc 0 0 0 0 0 (.slice none 0 0)))
          (try simp only [Act.put, List.setIfInBounds_toArray, List.set_cons_zero, List.set_cons_succ])
          refine wpAnyH_ready (rs := [1]) (by kernel_rfl) (by simp) (AllReadyH.cons rfl (fun K hK => ?_) AllReadyH.nil)
          go_simp
          go_at_call 30
          refine (toAgg_w Na ha la mna mxa A ta.length ca ta _ (HA.out _ (below_trans hb hHd2)) rfl hn2).mono ?_
          rintro e wd11 ⟨gp, rfl, pa, hbd11⟩
          refine hK.out _ _ (show Below w3.heap.size w3 wd11 from below_trans hHd2 hbd11) (fun hHd11 => ?_)
          clear hK K
          have zd11 : w3.heap.size + 1 ≤ wd11.heap.size := by
            have h : (w3.alloc (.cells #[.int .i64 0, .int .i64 0, .int .u64 0, .int .i64 0, .int .i64 0, .slice none 0 0] 31)).heap.size ≤ wd11.heap.size := hbd11.size
            rwa [World.size_alloc] at h
          replace qd := qd.grow hbd11
          (try simp only [Act.put, List.setIfInBounds_toArray, List.set_cons_zero, List.set_cons_succ])
          refine wpAnyH_ready (rs := [3]) (by kernel_rfl) (by simp) (AllReadyH.cons rfl (fun K hK => ?_) AllReadyH.nil)
          go_simp
          go_at_call 30
          refine (toAgg_w Nb hc lc mnb mxb B tb.length cb tb _ (HB.out _ (below_trans hb hHd11)) rfl hp2).mono ?_
          rintro e wd12 ⟨gq, rfl, pb, hbd12⟩
          refine hK.out _ _ (show Below w3.heap.size w3 wd12 from below_trans hHd11 hbd12) (fun hHd12 => ?_)
          clear hK K
          have zd12 := hbd12.size
          replace qd := qd.grow hbd12
          replace pa := pa.grow hbd12
          (try simp only [Act.put, List.setIfInBounds_toArray, List.set_cons_zero, List.set_cons_succ])
          refine wpAnyH_ready (rs := [4]) (by kernel_rfl) (by simp) (AllReadyH.cons rfl (fun K hK => ?_) AllReadyH.nil)
          go_simp
          go_at_call 31
          refine (HS.out _ _ _ pa.reads pb.reads).mono ?_
          rintro e wd13 ⟨T, ct, rfl, pr, hbd13⟩
          refine hK.out _ _ (show Below w3.heap.size w3 wd13 from below_trans hHd12 hbd13) (fun hHd13 => ?_)
          clear hK K
          have zd13 := hbd13.size
          replace qd := qd.grow hbd13
          replace pa := pa.grow hbd13
          replace pb := pb.grow hbd13
          (try simp only [Act.put, List.setIfInBounds_toArray, List.set_cons_zero, List.set_cons_succ])
          refine wpAnyH_take (i := 5) (v := ?v5x12) rfl (by kernel_rfl) (by kernel_rfl) (by kernel_rfl) (fun _ _ _ h => h) (Or.inl ⟨by rfl, ?y5x12⟩) (by with_reducible assumption) ?_
          case y5x12 =>
            intro w0 hSw
            (try dsimp only at hSw)
            go_simp
            (try with_reducible rfl)
          (try simp only [Act.put, List.setIfInBounds_toArray])
          refine wpAnyH_take (i := 6) (v := ?v6x13) rfl (by kernel_rfl) (by kernel_rfl) (by kernel_rfl) (fun _ _ _ h => h) (Or.inl ⟨by rfl, ?y6x13⟩) (by with_reducible assumption) ?_
          case y6x13 =>
            intro w0 hSw
            (try dsimp only at hSw)
            go_simp
            (try with_reducible rfl)
          (try simp only [Act.put])
          refine wpAnyH_take (i := 7) (v := ?v7x14) rfl (by kernel_rfl) (by kernel_rfl) (by kernel_rfl) (fun _ _ _ h => h) (Or.inl ⟨by rfl, ?y7x14⟩) (by with_reducible assumption) ?_
          case y7x14 =>
            intro w0 hSw
            (try dsimp only at hSw)
            go_simp
            (try with_reducible rfl)
          (try simp only [Act.put])
          refine wpAnyH_ready (rs := [9]) (by kernel_rfl) (by simp) (AllReadyH.cons rfl (fun K hK => ?_) AllReadyH.nil)
          have hL : Below w3.heap.size w3 (wd13) := hHd13
          have hXv : w3.heap.size ≤ w3.heap.size := by omega
          have hD := dr_sizes pr (v := w3) (X := w3.heap.size) (by first | omega | (simp only [World.size_alloc]; omega)) (by first | omega | (simp only [World.size_alloc]; omega)) (by first | omega | (simp only [World.size_alloc]; omega))
          obtain ⟨lod, hid, rowd, hlod, hhid, hned⟩ := hD
          obtain ⟨t0, t1, t2, t3, t4, t5⟩ := qd.six
          have ft0 := qd.free 0
          have ft1 := qd.free 1
          have ft2 := qd.free 2
          have ft3 := qd.free 3
          have ft4 := qd.free 4
          have ft5 := qd.free 5
          go_simp
          refine hK.out _ _ (below_set6 hL hXv) (fun hZ => ?_)
          clear hK K
          (try simp only [Act.put, List.setIfInBounds_toArray, List.set_cons_zero, List.set_cons_succ])
          refine wpAnyH_ready (rs := [10]) (by kernel_rfl) (by simp) (AllReadyH.cons rfl (fun K hK => ?_) AllReadyH.nil)
          go_simp
          refine hK.out _ _ hZ (fun _ => ?_)
          clear hK K
          (try simp only [Act.put, List.setIfInBounds_toArray, List.set_cons_zero, List.set_cons_succ])
          refine wpAnyH_done (by kernel_rfl) ?_ _
          clear t0 ft0 t1 ft1 t2 ft2 t3 ft3 t4 ft4 t5 ft5
          go_wp2_with fail
          go_meet
          case rel => exact ⟨_, _, _, rfl, rfl, dr_of qd hXv rowd hlod hhid hned hL⟩
      obtain ⟨X0, A0, c0, rfl, rfl, hd⟩ := hcut
      obtain ⟨w4, rfl⟩ : ∃ W, W = wc := ⟨_, rfl⟩
      have b0 := hd.own
      obtain ⟨lor0, hir0, r0, hlor0, hhir0, hner0⟩ := hd.row
      have hXr0 := hd.hX
      have hXlr0 := b0.lt
      have hb4 := hd.hb
      have z4 := hb4.size
      replace ba := ba.grow hb4
      replace bb := bb.grow hb4
      replace hb := below_trans hb hb4
      clear hb4 hd
      obtain ⟨bac0, bac1, bac2, bac3, bac4, bac5⟩ := ba.six
      go_wp2_with fail
      clear bac0 bac1 bac2 bac3 bac4 bac5
      refine (toAgg_w Na ha la mna mxa A ta.length ca ta _ (HA.out _ hb) rfl hn2).mono ?_
      rintro e w5 ⟨g5, rfl, rx, hb5⟩
      have z5 := hb5.size
      replace ba := ba.grow hb5
      replace bb := bb.grow hb5
      replace r0 := r0.grow hb5
      replace b0 := b0.grow hb5
      replace hb := below_trans hb hb5
      clear hb5
      have bx := Own.new w5 31 (agc Na ha la mna mxa (.slice (some ⟨g5, 0, none⟩) ta.length ta.length))
      replace ba := ba.grow (below_alloc w5 (.cells (agc Na ha la mna mxa (.slice (some ⟨g5, 0, none⟩) ta.length ta.length)).toArray 31))
      replace bb := bb.grow (below_alloc w5 (.cells (agc Na ha la mna mxa (.slice (some ⟨g5, 0, none⟩) ta.length ta.length)).toArray 31))
      replace r0 := r0.grow (below_alloc w5 (.cells (agc Na ha la mna mxa (.slice (some ⟨g5, 0, none⟩) ta.length ta.length)).toArray 31))
      replace b0 := b0.grow (below_alloc w5 (.cells (agc Na ha la mna mxa (.slice (some ⟨g5, 0, none⟩) ta.length ta.length)).toArray 31))
      replace rx := rx.grow (below_alloc w5 (.cells (agc Na ha la mna mxa (.slice (some ⟨g5, 0, none⟩) ta.length ta.length)).toArray 31))
      replace hb := below_trans hb (below_alloc w5 (.cells (agc Na ha la mna mxa (.slice (some ⟨g5, 0, none⟩) ta.length ta.length)).toArray 31))
      obtain ⟨bbc0, bbc1, bbc2, bbc3, bbc4, bbc5⟩ := bb.six
      go_wp2_with fail
      clear bbc0 bbc1 bbc2 bbc3 bbc4 bbc5
      refine (toAgg_w Nb hc lc mnb mxb B tb.length cb tb _ (HB.out _ hb) rfl hp2).mono ?_
      rintro e w6 ⟨g6, rfl, ry, hb6⟩
      have z6 := hb6.size
      rw [World.size_alloc] at z6
      rw [World.size_alloc] at ry
      replace ba := ba.grow hb6
      replace bb := bb.grow hb6
      replace r0 := r0.grow hb6
      replace b0 := b0.grow hb6
      replace rx := rx.grow hb6
      replace bx := bx.grow hb6
      replace hb := below_trans hb hb6
      clear hb6
      have bu := Own.new w6 31 (agc Nb hc lc mnb mxb (.slice (some ⟨g6, 0, none⟩) tb.length tb.length))
      replace ba := ba.grow (below_alloc w6 (.cells (agc Nb hc lc mnb mxb (.slice (some ⟨g6, 0, none⟩) tb.length tb.length)).toArray 31))
      replace bb := bb.grow (below_alloc w6 (.cells (agc Nb hc lc mnb mxb (.slice (some ⟨g6, 0, none⟩) tb.length tb.length)).toArray 31))
      replace r0 := r0.grow (below_alloc w6 (.cells (agc Nb hc lc mnb mxb (.slice (some ⟨g6, 0, none⟩) tb.length tb.length)).toArray 31))
      replace b0 := b0.grow (below_alloc w6 (.cells (agc Nb hc lc mnb mxb (.slice (some ⟨g6, 0, none⟩) tb.length tb.length)).toArray 31))
      replace rx := rx.grow (below_alloc w6 (.cells (agc Nb hc lc mnb mxb (.slice (some ⟨g6, 0, none⟩) tb.length tb.length)).toArray 31))
      replace bx := bx.grow (below_alloc w6 (.cells (agc Nb hc lc mnb mxb (.slice (some ⟨g6, 0, none⟩) tb.length tb.length)).toArray 31))
      replace ry := ry.grow (below_alloc w6 (.cells (agc Nb hc lc mnb mxb (.slice (some ⟨g6, 0, none⟩) tb.length tb.length)).toArray 31))
      replace hb := below_trans hb (below_alloc w6 (.cells (agc Nb hc lc mnb mxb (.slice (some ⟨g6, 0, none⟩) tb.length tb.length)).toArray 31))
      obtain ⟨bxc0, bxc1, bxc2, bxc3, bxc4, bxc5⟩ := bx.six
      obtain ⟨buc0, buc1, buc2, buc3, buc4, buc5⟩ := bu.six
      go_wp2_with fail
      clear bxc0 bxc1 bxc2 bxc3 bxc4 bxc5 buc0 buc1 buc2 buc3 buc4 buc5
      refine (HI.out _ _ _ rx.reads ry.reads).mono ?_
      rintro e w7 ⟨A1, c1, rfl, r1, hb7⟩
      have z7 := hb7.size
      rw [World.size_alloc] at z7
      rw [World.size_alloc] at r1
      replace ba := ba.grow hb7
      replace bb := bb.grow hb7
      replace r0 := r0.grow hb7
      replace b0 := b0.grow hb7
      replace rx := rx.grow hb7
      replace bx := bx.grow hb7
      replace ry := ry.grow hb7
      replace bu := bu.grow hb7
      replace hb := below_trans hb hb7
      clear hb7
      have b1 := Own.new w7 31 (agc N h lw mn mx (.slice A1 m c1))
      replace ba := ba.grow (below_alloc w7 (.cells (agc N h lw mn mx (.slice A1 m c1)).toArray 31))
      replace bb := bb.grow (below_alloc w7 (.cells (agc N h lw mn mx (.slice A1 m c1)).toArray 31))
      replace r0 := r0.grow (below_alloc w7 (.cells (agc N h lw mn mx (.slice A1 m c1)).toArray 31))
      replace b0 := b0.grow (below_alloc w7 (.cells (agc N h lw mn mx (.slice A1 m c1)).toArray 31))
      replace rx := rx.grow (below_alloc w7 (.cells (agc N h lw mn mx (.slice A1 m c1)).toArray 31))
      replace bx := bx.grow (below_alloc w7 (.cells (agc N h lw mn mx (.slice A1 m c1)).toArray 31))
      replace ry := ry.grow (below_alloc w7 (.cells (agc N h lw mn mx (.slice A1 m c1)).toArray 31))
      replace bu := bu.grow (below_alloc w7 (.cells (agc N h lw mn mx (.slice A1 m c1)).toArray 31))
      replace r1 := r1.grow (below_alloc w7 (.cells (agc N h lw mn mx (.slice A1 m c1)).toArray 31))
      replace hb := below_trans hb (below_alloc w7 (.cells (agc N h lw mn mx (.slice A1 m c1)).toArray 31))
      obtain ⟨b1c0, b1c1, b1c2, b1c3, b1c4, b1c5⟩ := b1.six
      obtain ⟨b0c0, b0c1, b0c2, b0c3, b0c4, b0c5⟩ := b0.six
      go_wp2_with fail
      clear b1c0 b1c1 b1c2 b1c3 b1c4 b1c5 b0c0 b0c1 b0c2 b0c3 b0c4 b0c5
      refine (eqAgg_same N h lw mn mx A1 A0 m c1 c0 rs _ r1.reads r0.reads HM.out hm).mono ?_
      rintro e w8 ⟨rfl, hb8⟩
      have z8 := hb8.size
      rw [World.size_alloc] at z8
      replace ba := ba.grow hb8
      replace bb := bb.grow hb8
      replace r0 := r0.grow hb8
      replace b0 := b0.grow hb8
      replace rx := rx.grow hb8
      replace bx := bx.grow hb8
      replace ry := ry.grow hb8
      replace bu := bu.grow hb8
      replace r1 := r1.grow hb8
      replace b1 := b1.grow hb8
      replace hb := below_trans hb hb8
      clear hb8
      have kx0 := fun W (hW : Below w8.heap.size w8 W) => (bx.grow hW).six.1
      have kx1 := fun W (hW : Below w8.heap.size w8 W) => (bx.grow hW).six.2.1
      have kx2 := fun W (hW : Below w8.heap.size w8 W) => (bx.grow hW).six.2.2.1
      have kx3 := fun W (hW : Below w8.heap.size w8 W) => (bx.grow hW).six.2.2.2.1
      have kx4 := fun W (hW : Below w8.heap.size w8 W) => (bx.grow hW).six.2.2.2.2.1
      have kx5 := fun W (hW : Below w8.heap.size w8 W) => (bx.grow hW).six.2.2.2.2.2
      have ka0 := fun W (hW : Below w8.heap.size w8 W) => (ba.grow hW).six.1
      have ka1 := fun W (hW : Below w8.heap.size w8 W) => (ba.grow hW).six.2.1
      have ka2 := fun W (hW : Below w8.heap.size w8 W) => (ba.grow hW).six.2.2.1
      have ka3 := fun W (hW : Below w8.heap.size w8 W) => (ba.grow hW).six.2.2.2.1
      have ka4 := fun W (hW : Below w8.heap.size w8 W) => (ba.grow hW).six.2.2.2.2.1
      have ka5 := fun W (hW : Below w8.heap.size w8 W) => (ba.grow hW).six.2.2.2.2.2
      have HRd := Lib.hid (fun W (h : Below w8.heap.size w8 W) => rx.reads.below h)
      have HBd := Lib.hid (fun W (h : Below w8.heap.size w8 W) => below_trans hb h)
      go_wp2_with fail
      go_region_held3 (fun W => Below w8.heap.size w8 W) (first | exact (Below.refl _ _).drew | exact below_trans (by assumption) (by assumption))
        (first
          | (go_at_call 30; refine (toAgg_w Na ha la mna mxa A ta.length ca ta _ (HA.out _ (HBd.out _ (by assumption))) rfl hn2).mono ?_; rintro e wt ⟨gt, rfl, rt, hbt⟩)
          | (go_at_call 23; refine (eqAgg_same Na ha la mna mxa _ _ ta.length _ _ ta _ (HRd.out _ (by assumption)) rt.reads rfl hn2).mono ?_; rintro e w9 ⟨rfl, hbe⟩))
      have hB9 : Below w8.heap.size w8 w9 := by assumption
      clear hbt hbe rt HRd HBd kx0 kx1 kx2 kx3 kx4 kx5 ka0 ka1 ka2 ka3 ka4 ka5
      have z9 := hB9.size
      replace ba := ba.grow hB9
      replace bb := bb.grow hB9
      replace r0 := r0.grow hB9
      replace b0 := b0.grow hB9
      replace rx := rx.grow hB9
      replace bx := bx.grow hB9
      replace ry := ry.grow hB9
      replace bu := bu.grow hB9
      replace r1 := r1.grow hB9
      replace b1 := b1.grow hB9
      replace hb := below_trans hb hB9
      clear hB9
      have kx0 := fun W (hW : Below w9.heap.size w9 W) => (bu.grow hW).six.1
      have kx1 := fun W (hW : Below w9.heap.size w9 W) => (bu.grow hW).six.2.1
      have kx2 := fun W (hW : Below w9.heap.size w9 W) => (bu.grow hW).six.2.2.1
      have kx3 := fun W (hW : Below w9.heap.size w9 W) => (bu.grow hW).six.2.2.2.1
      have kx4 := fun W (hW : Below w9.heap.size w9 W) => (bu.grow hW).six.2.2.2.2.1
      have kx5 := fun W (hW : Below w9.heap.size w9 W) => (bu.grow hW).six.2.2.2.2.2
      have ka0 := fun W (hW : Below w9.heap.size w9 W) => (bb.grow hW).six.1
      have ka1 := fun W (hW : Below w9.heap.size w9 W) => (bb.grow hW).six.2.1
      have ka2 := fun W (hW : Below w9.heap.size w9 W) => (bb.grow hW).six.2.2.1
      have ka3 := fun W (hW : Below w9.heap.size w9 W) => (bb.grow hW).six.2.2.2.1
      have ka4 := fun W (hW : Below w9.heap.size w9 W) => (bb.grow hW).six.2.2.2.2.1
      have ka5 := fun W (hW : Below w9.heap.size w9 W) => (bb.grow hW).six.2.2.2.2.2
      have HRd := Lib.hid (fun W (h : Below w9.heap.size w9 W) => ry.reads.below h)
      have HBd := Lib.hid (fun W (h : Below w9.heap.size w9 W) => below_trans hb h)
      go_wp2_with fail
      go_region_held3 (fun W => Below w9.heap.size w9 W) (first | exact (Below.refl _ _).drew | exact below_trans (by assumption) (by assumption))
        (first
          | (go_at_call 30; refine (toAgg_w Nb hc lc mnb mxb B tb.length cb tb _ (HB.out _ (HBd.out _ (by assumption))) rfl hp2).mono ?_; rintro e wt ⟨gt, rfl, rt, hbt⟩)
          | (go_at_call 23; refine (eqAgg_same Nb hc lc mnb mxb _ _ tb.length _ _ tb _ (HRd.out _ (by assumption)) rt.reads rfl hp2).mono ?_; rintro e w10 ⟨rfl, hbe⟩))
      have hB10 : Below w9.heap.size w9 w10 := by assumption
      clear hbt hbe rt HRd HBd kx0 kx1 kx2 kx3 kx4 kx5 ka0 ka1 ka2 ka3 ka4 ka5
      have z10 := hB10.size
      replace ba := ba.grow hB10
      replace bb := bb.grow hB10
      replace r0 := r0.grow hB10
      replace b0 := b0.grow hB10
      replace rx := rx.grow hB10
      replace bx := bx.grow hB10
      replace ry := ry.grow hB10
      replace bu := bu.grow hB10
      replace r1 := r1.grow hB10
      replace b1 := b1.grow hB10
      replace hb := below_trans hb hB10
      clear hB10
      obtain ⟨bxc0, bxc1, bxc2, bxc3, bxc4, bxc5⟩ := bx.six
      go_wp2_with fail
      clear bxc0 bxc1 bxc2 bxc3 bxc4 bxc5
      refine (as_int HQ0.out (markAgg_at Na ha la mna mxa _ _ _ _ ta.length ta 1 _ rx (by omega) (by omega) rfl hn2)).mono ?_
      rintro e w11 ⟨rfl, rxm, hO⟩
      have z11 := hO.size
      replace ba := ba.only hO (.inl (by omega))
      replace bb := bb.only hO (.inl (by omega))
      replace r0 := r0.move (hO.same (.inl (by omega)) (by omega))
      replace b0 := b0.only hO (.inl (by omega))
      replace bx := bx.only hO (.inr (by omega))
      replace ry := ry.move (hO.same (.inr (by omega)) (by omega))
      replace bu := bu.only hO (.inr (by omega))
      replace r1 := r1.move (hO.same (.inr (by omega)) (by omega))
      replace b1 := b1.only hO (.inr (by omega))
      replace hb := below_only hb hO (by omega) (by omega)
      clear hO rx
      clear rxm
      obtain ⟨buc0, buc1, buc2, buc3, buc4, buc5⟩ := bu.six
      go_wp2_with fail
      clear buc0 buc1 buc2 buc3 buc4 buc5
      refine (as_int HQ2.out (markAgg_at Nb hc lc mnb mxb _ _ _ _ tb.length tb q0 _ ry hp0 (by have := HQ0.out; omega) rfl hp2)).mono ?_
      rintro e w12 ⟨rfl, rym, hO⟩
      have z12 := hO.size
      replace ba := ba.only hO (.inl (by omega))
      replace bb := bb.only hO (.inl (by omega))
      replace r0 := r0.move (hO.same (.inl (by omega)) (by omega))
      replace b0 := b0.only hO (.inl (by omega))
      replace bx := bx.only hO (.inl (by omega))
      replace bu := bu.only hO (.inr (by omega))
      replace r1 := r1.move (hO.same (.inr (by omega)) (by omega))
      replace b1 := b1.only hO (.inr (by omega))
      replace hb := below_only hb hO (by omega) (by omega)
      clear hO ry
      clear rym
      obtain ⟨b1c0, b1c1, b1c2, b1c3, b1c4, b1c5⟩ := b1.six
      obtain ⟨b0c0, b0c1, b0c2, b0c3, b0c4, b0c5⟩ := b0.six
      go_wp2_with fail
      clear b1c0 b1c1 b1c2 b1c3 b1c4 b1c5 b0c0 b0c1 b0c2 b0c3 b0c4 b0c5
      refine (eqAgg_same N h lw mn mx A1 A0 m c1 c0 rs _ r1.reads r0.reads HM.out hm).mono ?_
      rintro e w13 ⟨rfl, hb13⟩
      have z13 := hb13.size
      replace ba := ba.grow hb13
      replace bb := bb.grow hb13
      replace r0 := r0.grow hb13
      replace b0 := b0.grow hb13
      replace bx := bx.grow hb13
      replace bu := bu.grow hb13
      replace r1 := r1.grow hb13
      replace b1 := b1.grow hb13
      replace hb := below_trans hb hb13
      clear hb13
      obtain ⟨b1c0, b1c1, b1c2, b1c3, b1c4, b1c5⟩ := b1.six
      go_wp2_with fail
      clear b1c0 b1c1 b1c2 b1c3 b1c4 b1c5
      refine (as_int HQ.out (markAgg_at N h lw mn mx A1 c1 _ _ m rs 1 _ r1 (by omega) (by omega) HM.out hm)).mono ?_
      rintro e w14 ⟨rfl, r1m, hO⟩
      have z14 := hO.size
      replace ba := ba.only hO (.inl (by omega))
      replace bb := bb.only hO (.inl (by omega))
      replace r0 := r0.move (hO.same (.inl (by omega)) (by omega))
      replace b0 := b0.only hO (.inl (by omega))
      replace bx := bx.only hO (.inl (by omega))
      replace bu := bu.only hO (.inl (by omega))
      replace b1 := b1.only hO (.inr (by omega))
      replace hb := below_only hb hO (by omega) (by omega)
      clear hO r1
      obtain ⟨b1c0, b1c1, b1c2, b1c3, b1c4, b1c5⟩ := b1.six
      go_wp2_with fail
      clear b1c0 b1c1 b1c2 b1c3 b1c4 b1c5
      refine (as_int HQ.out (heldAgg_any N h lw mn mx A1 c1 m 1 _ r1m.reads (by omega) (by omega) hm)).mono ?_
      rintro e w15 ⟨rfl, hb15⟩
      have z15 := hb15.size
      replace ba := ba.grow hb15
      replace bb := bb.grow hb15
      replace r0 := r0.grow hb15
      replace b0 := b0.grow hb15
      replace bx := bx.grow hb15
      replace bu := bu.grow hb15
      replace b1 := b1.grow hb15
      replace r1m := r1m.grow hb15
      replace hb := below_trans hb hb15
      clear hb15
      go_upto_region 31 with (fail)
      go_cut [15, 16] from 17 to 118 (fun sp sq wx => ∃ (X : Nat) (T : Option Addr) (ct : Nat), sp = .pointer (some ⟨X, 0, none⟩) ∧ sq = .bool b ∧ DR w15 wx X N h lw mn mx T m ct rs)
      case first =>
        have kba0 := fun W (hW : Below w15.heap.size w15 W) => (ba.grow hW).six.1
        have kba1 := fun W (hW : Below w15.heap.size w15 W) => (ba.grow hW).six.2.1
        have kba2 := fun W (hW : Below w15.heap.size w15 W) => (ba.grow hW).six.2.2.1
        have kba3 := fun W (hW : Below w15.heap.size w15 W) => (ba.grow hW).six.2.2.2.1
        have kba4 := fun W (hW : Below w15.heap.size w15 W) => (ba.grow hW).six.2.2.2.2.1
        have kba5 := fun W (hW : Below w15.heap.size w15 W) => (ba.grow hW).six.2.2.2.2.2
        have kbb0 := fun W (hW : Below w15.heap.size w15 W) => (bb.grow hW).six.1
        have kbb1 := fun W (hW : Below w15.heap.size w15 W) => (bb.grow hW).six.2.1
        have kbb2 := fun W (hW : Below w15.heap.size w15 W) => (bb.grow hW).six.2.2.1
        have kbb3 := fun W (hW : Below w15.heap.size w15 W) => (bb.grow hW).six.2.2.2.1
        have kbb4 := fun W (hW : Below w15.heap.size w15 W) => (bb.grow hW).six.2.2.2.2.1
        have kbb5 := fun W (hW : Below w15.heap.size w15 W) => (bb.grow hW).six.2.2.2.2.2
        refine wp_region_held_drew (S := fun W => Below w15.heap.size w15 W) (by kernel_rfl) (Below.refl _ _).drew (fun hHd0 => ?_)
        refine wpAnyH_take (i := 0) (v := ?v0x15) rfl (by kernel_rfl) (by kernel_rfl) (by kernel_rfl) (fun _ _ _ h => h) (Or.inl ⟨by rfl, ?y0x15⟩) (by with_reducible assumption) ?_
        case y0x15 =>
          intro w0 hSw
          (try dsimp only at hSw)
          go_simp
          (try with_reducible rfl)
        (try simp only [Act.put, List.setIfInBounds_toArray])
        refine wpAnyH_take (i := 2) (v := ?v2x16) rfl (by kernel_rfl) (by kernel_rfl) (by kernel_rfl) (fun _ _ _ h => h) (Or.inl ⟨by rfl, ?y2x16⟩) (by with_reducible assumption) ?_
        case y2x16 =>
          intro w0 hSw
          (try dsimp only at hSw)
          go_simp
          (try with_reducible rfl)
        (try simp only [Act.put])
        refine wpAnyH_ready (rs := [1, 8]) (by kernel_rfl) (by simp) (AllReadyH.cons rfl (fun K hK => ?_) (AllReadyH.cons rfl (fun K hK => ?_) AllReadyH.nil))
        · go_simp
          go_at_call 30
          refine (toAgg_w Na ha la mna mxa A ta.length ca ta _ (HA.out _ (below_trans hb hHd0)) rfl hn2).mono ?_
          rintro e wd1 ⟨gp, rfl, pa, hbd1⟩
          refine hK.out _ _ (show Below w15.heap.size w15 wd1 from below_trans hHd0 hbd1) (fun hHd1 => ?_)
          clear hK K
          have zd1 : w15.heap.size ≤ wd1.heap.size := hbd1.size
          (try simp only [Act.put, List.setIfInBounds_toArray, List.set_cons_zero, List.set_cons_succ])
          refine wpAnyH_ready (rs := [3, 8]) (by kernel_rfl) (by simp) (AllReadyH.cons rfl (fun K hK => ?_) (AllReadyH.cons rfl (fun K hK => ?_) AllReadyH.nil))
          · go_simp
            go_at_call 30
            refine (toAgg_w Nb hc lc mnb mxb B tb.length cb tb _ (HB.out _ (below_trans hb hHd1)) rfl hp2).mono ?_
            rintro e wd3 ⟨gq, rfl, pb, hbd3⟩
            refine hK.out _ _ (show Below w15.heap.size w15 wd3 from below_trans hHd1 hbd3) (fun hHd3 => ?_)
            clear hK K
            have zd3 := hbd3.size
            replace pa := pa.grow hbd3
            (try simp only [Act.put, List.setIfInBounds_toArray, List.set_cons_zero, List.set_cons_succ])
            refine wpAnyH_ready (rs := [4, 8]) (by kernel_rfl) (by simp) (AllReadyH.cons rfl (fun K hK => ?_) (AllReadyH.cons rfl (fun K hK => ?_) AllReadyH.nil))
            · go_simp
              go_at_call 15
              refine (HI.out _ _ _ pa.reads pb.reads).mono ?_
              rintro e wd5 ⟨T, ct, rfl, pr, hbd5⟩
              refine hK.out _ _ (show Below w15.heap.size w15 wd5 from below_trans hHd3 hbd5) (fun hHd5 => ?_)
              clear hK K
              have zd5 := hbd5.size
              replace pa := pa.grow hbd5
              replace pb := pb.grow hbd5
              (try simp only [Act.put, List.setIfInBounds_toArray, List.set_cons_zero, List.set_cons_succ])
              refine wpAnyH_take (i := 5) (v := ?v5x17) rfl (by kernel_rfl) (by kernel_rfl) (by kernel_rfl) (fun _ _ _ h => h) (Or.inl ⟨by rfl, ?y5x17⟩) (by with_reducible assumption) ?_
              case y5x17 =>
                intro w0 hSw
                (try dsimp only at hSw)
                go_simp
                (try with_reducible rfl)
              (try simp only [Act.put, List.setIfInBounds_toArray])
              refine wpAnyH_take (i := 6) (v := ?v6x18) rfl (by kernel_rfl) (by kernel_rfl) (by kernel_rfl) (fun _ _ _ h => h) (Or.inl ⟨by rfl, ?y6x18⟩) (by with_reducible assumption) ?_
              case y6x18 =>
                intro w0 hSw
                (try dsimp only at hSw)
                go_simp
                (try with_reducible rfl)
              (try simp only [Act.put])
              refine wpAnyH_take (i := 7) (v := ?v7x19) rfl (by kernel_rfl) (by kernel_rfl) (by kernel_rfl) (fun _ _ _ h => h) (Or.inl ⟨by rfl, ?y7x19⟩) (by with_reducible assumption) ?_
              case y7x19 =>
                intro w0 hSw
                (try dsimp only at hSw)
                go_simp
                (try with_reducible rfl)
              (try simp only [Act.put])
              refine wpAnyH_ready (rs := [8]) (by kernel_rfl) (by simp) (AllReadyH.cons rfl (fun K hK => ?_) AllReadyH.nil)
              go_simp
              refine hK.out _ _ (show Below w15.heap.size w15 (wd5.alloc (.cells #[.int .i64 0, .int .i64 0, .int .u64 0, .int .i64 0, .int .i64 0, .slice none 0 0] 31)) from below_trans hHd5 (below_alloc _ _)) (fun hHd7 => ?_)
              clear hK K
              replace pa := pa.grow (below_alloc wd5 (.cells #[.int .i64 0, .int .i64 0, .int .u64 0, .int .i64 0, .int .i64 0, .slice none 0 0] 31))
              replace pb := pb.grow (below_alloc wd5 (.cells #[.int .i64 0, .int .i64 0, .int .u64 0, .int .i64 0, .int .i64 0, .slice none 0 0] 31))
              replace pr := pr.grow (below_alloc wd5 (.cells #[.int .i64 0, .int .i64 0, .int .u64 0, .int .i64 0, .int .i64 0, .slice none 0 0] 31))
              have qd := (show Own (wd5.alloc (.cells #[.int .i64 0, .int .i64 0, .int .u64 0, .int .i64 0, .int .i64 0, .slice none 0 0] 31)) wd5.heap.size 31 (agc 0 0 0 0 0 (.slice none 0 0)) from Own.new wd5 _ (agc 0 0 0 0 0 (.slice none 0 0)))
              (try simp only [Act.put, List.setIfInBounds_toArray, List.set_cons_zero, List.set_cons_succ])
              refine wpAnyH_ready (rs := [9]) (by kernel_rfl) (by simp) (AllReadyH.cons rfl (fun K hK => ?_) AllReadyH.nil)
              have hL : Below w15.heap.size w15 (wd5.alloc (.cells #[.int .i64 0, .int .i64 0, .int .u64 0, .int .i64 0, .int .i64 0, .slice none 0 0] 31)) := hHd7
              have hXv : w15.heap.size ≤ wd5.heap.size := by omega
              have hD := dr_sizes pr (v := w15) (X := wd5.heap.size) (by first | omega | (simp only [World.size_alloc]; omega)) (by first | omega | (simp only [World.size_alloc]; omega)) (by first | omega | (simp only [World.size_alloc]; omega))
              obtain ⟨lod, hid, rowd, hlod, hhid, hned⟩ := hD
              generalize wd5.heap.size = X at *
              generalize wd5.alloc (.cells #[.int .i64 0, .int .i64 0, .int .u64 0, .int .i64 0, .int .i64 0, .slice none 0 0] 31) = wZ at *
              obtain ⟨t0, t1, t2, t3, t4, t5⟩ := qd.six
              have ft0 := qd.free 0
              have ft1 := qd.free 1
              have ft2 := qd.free 2
              have ft3 := qd.free 3
              have ft4 := qd.free 4
              have ft5 := qd.free 5
              go_simp
              refine hK.out _ _ (below_set6 hL hXv) (fun hZ => ?_)
              clear hK K
              (try simp only [Act.put, List.setIfInBounds_toArray, List.set_cons_zero, List.set_cons_succ])
              refine wpAnyH_ready (rs := [10]) (by kernel_rfl) (by simp) (AllReadyH.cons rfl (fun K hK => ?_) AllReadyH.nil)
              go_simp
              refine hK.out _ _ hZ (fun _ => ?_)
              clear hK K
              (try simp only [Act.put, List.setIfInBounds_toArray, List.set_cons_zero, List.set_cons_succ])
              refine wpAnyH_done (by kernel_rfl) ?_ _
              clear t0 ft0 t1 ft1 t2 ft2 t3 ft3 t4 ft4 t5 ft5
              go_wp2_with fail
              go_meet
              case rel => exact ⟨_, _, _, rfl, rfl, dr_of qd hXv rowd hlod hhid hned hL⟩
            · go_simp
              refine hK.out _ _ (show Below w15.heap.size w15 (wd3.alloc (.cells #[.int .i64 0, .int .i64 0, .int .u64 0, .int .i64 0, .int .i64 0, .slice none 0 0] 31)) from below_trans hHd3 (below_alloc _ _)) (fun hHd6 => ?_)
              clear hK K
              replace pa := pa.grow (below_alloc wd3 (.cells #[.int .i64 0, .int .i64 0, .int .u64 0, .int .i64 0, .int .i64 0, .slice none 0 0] 31))
              replace pb := pb.grow (below_alloc wd3 (.cells #[.int .i64 0, .int .i64 0, .int .u64 0, .int .i64 0, .int .i64 0, .slice none 0 0] 31))
              have qd := (show Own (wd3.alloc (.cells #[.int .i64 0, .int .i64 0, .int .u64 0, .int .i64 0, .int .i64 0, .slice none 0 0] 31)) wd3.heap.size 31 (agc 0 0 0 0 0 (.slice none 0 0)) from Own.new wd3 _ (agc 0 0 0 0 0 (.slice none 0 0)))
              (try simp only [Act.put, List.setIfInBounds_toArray, List.set_cons_zero, List.set_cons_succ])
              refine wpAnyH_ready (rs := [4]) (by kernel_rfl) (by simp) (AllReadyH.cons rfl (fun K hK => ?_) AllReadyH.nil)
              go_simp
              go_at_call 15
              refine (HI.out _ _ _ pa.reads pb.reads).mono ?_
              rintro e wd8 ⟨T, ct, rfl, pr, hbd8⟩
              refine hK.out _ _ (show Below w15.heap.size w15 wd8 from below_trans hHd6 hbd8) (fun hHd8 => ?_)
              clear hK K
              have zd8 := hbd8.size
              rw [World.size_alloc] at zd8
              replace pa := pa.grow hbd8
              replace pb := pb.grow hbd8
              replace qd := qd.grow hbd8
              (try simp only [Act.put, List.setIfInBounds_toArray, List.set_cons_zero, List.set_cons_succ])
              refine wpAnyH_take (i := 5) (v := ?v5x20) rfl (by kernel_rfl) (by kernel_rfl) (by kernel_rfl) (fun _ _ _ h => h) (Or.inl ⟨by rfl, ?y5x20⟩) (by with_reducible assumption) ?_
              case y5x20 =>
                intro w0 hSw
                (try dsimp only at hSw)
                go_simp
                (try with_reducible rfl)
              (try simp only [Act.put, List.setIfInBounds_toArray])
              refine wpAnyH_take (i := 6) (v := ?v6x21) rfl (by kernel_rfl) (by kernel_rfl) (by kernel_rfl) (fun _ _ _ h => h) (Or.inl ⟨by rfl, ?y6x21⟩) (by with_reducible assumption) ?_
              case y6x21 =>
                intro w0 hSw
                (try dsimp only at hSw)
                go_simp
                (try with_reducible rfl)
              (try simp only [Act.put])
              refine wpAnyH_take (i := 7) (v := ?v7x22) rfl (by kernel_rfl) (by kernel_rfl) (by kernel_rfl) (fun _ _ _ h => h) (Or.inl ⟨by rfl, ?y7x22⟩) (by with_reducible assumption) ?_
              case y7x22 =>
                intro w0 hSw
                (try dsimp only at hSw)
                go_simp
                (try with_reducible rfl)
              (try simp only [Act.put])
              refine wpAnyH_ready (rs := [9]) (by kernel_rfl) (by simp) (AllReadyH.cons rfl (fun K hK => ?_) AllReadyH.nil)
              have hL : Below w15.heap.size w15 (wd8) := hHd8
              have hXv : w15.heap.size ≤ wd3.heap.size := by omega
              have hD := dr_sizes pr (v := w15) (X := wd3.heap.size) (by first | omega | (simp only [World.size_alloc]; omega)) (by first | omega | (simp only [World.size_alloc]; omega)) (by first | omega | (simp only [World.size_alloc]; omega))
              obtain ⟨lod, hid, rowd, hlod, hhid, hned⟩ := hD
              generalize wd3.heap.size = X at *
              obtain ⟨t0, t1, t2, t3, t4, t5⟩ := qd.six
              have ft0 := qd.free 0
              have ft1 := qd.free 1
              have ft2 := qd.free 2
              have ft3 := qd.free 3
              have ft4 := qd.free 4
              have ft5 := qd.free 5
              go_simp
              refine hK.out _ _ (below_set6 hL hXv) (fun hZ => ?_)
              clear hK K
              (try simp only [Act.put, List.setIfInBounds_toArray, List.set_cons_zero, List.set_cons_succ])
              refine wpAnyH_ready (rs := [10]) (by kernel_rfl) (by simp) (AllReadyH.cons rfl (fun K hK => ?_) AllReadyH.nil)
              go_simp
              refine hK.out _ _ hZ (fun _ => ?_)
              clear hK K
              (try simp only [Act.put, List.setIfInBounds_toArray, List.set_cons_zero, List.set_cons_succ])
              refine wpAnyH_done (by kernel_rfl) ?_ _
              clear t0 ft0 t1 ft1 t2 ft2 t3 ft3 t4 ft4 t5 ft5
              go_wp2_with fail
              go_meet
              case rel => exact ⟨_, _, _, rfl, rfl, dr_of qd hXv rowd hlod hhid hned hL⟩
          · go_simp
            refine hK.out _ _ (show Below w15.heap.size w15 (wd1.alloc (.cells #[.int .i64 0, .int .i64 0, .int .u64 0, .int .i64 0, .int .i64 0, .slice none 0 0] 31)) from below_trans hHd1 (below_alloc _ _)) (fun hHd4 => ?_)
            clear hK K
            replace pa := pa.grow (below_alloc wd1 (.cells #[.int .i64 0, .int .i64 0, .int .u64 0, .int .i64 0, .int .i64 0, .slice none 0 0] 31))
            have qd := (show Own (wd1.alloc (.cells #[.int .i64 0, .int .i64 0, .int .u64 0, .int .i64 0, .int .i64 0, .slice none 0 0] 31)) wd1.heap.size 31 (agc 0 0 0 0 0 (.slice none 0 0)) from Own.new wd1 _ (agc 0 0 0 0 0 (.slice none 0 0)))
            (try simp only [Act.put, List.setIfInBounds_toArray, List.set_cons_zero, List.set_cons_succ])
            refine wpAnyH_ready (rs := [3]) (by kernel_rfl) (by simp) (AllReadyH.cons rfl (fun K hK => ?_) AllReadyH.nil)
            go_simp
            go_at_call 30
            refine (toAgg_w Nb hc lc mnb mxb B tb.length cb tb _ (HB.out _ (below_trans hb hHd4)) rfl hp2).mono ?_
            rintro e wd9 ⟨gq, rfl, pb, hbd9⟩
            refine hK.out _ _ (show Below w15.heap.size w15 wd9 from below_trans hHd4 hbd9) (fun hHd9 => ?_)
            clear hK K
            have zd9 := hbd9.size
            rw [World.size_alloc] at zd9
            replace pa := pa.grow hbd9
            replace qd := qd.grow hbd9
            (try simp only [Act.put, List.setIfInBounds_toArray, List.set_cons_zero, List.set_cons_succ])
            refine wpAnyH_ready (rs := [4]) (by kernel_rfl) (by simp) (AllReadyH.cons rfl (fun K hK => ?_) AllReadyH.nil)
            go_simp
            go_at_call 15
            refine (HI.out _ _ _ pa.reads pb.reads).mono ?_
            rintro e wd10 ⟨T, ct, rfl, pr, hbd10⟩
            refine hK.out _ _ (show Below w15.heap.size w15 wd10 from below_trans hHd9 hbd10) (fun hHd10 => ?_)
            clear hK K
            have zd10 := hbd10.size
            replace pa := pa.grow hbd10
            replace qd := qd.grow hbd10
            replace pb := pb.grow hbd10
            (try simp only [Act.put, List.setIfInBounds_toArray, List.set_cons_zero, List.set_cons_succ])
            refine wpAnyH_take (i := 5) (v := ?v5x23) rfl (by kernel_rfl) (by kernel_rfl) (by kernel_rfl) (fun _ _ _ h => h) (Or.inl ⟨by rfl, ?y5x23⟩) (by with_reducible assumption) ?_
            case y5x23 =>
              intro w0 hSw
              (try dsimp only at hSw)
              go_simp
              (try with_reducible rfl)
            (try simp only [Act.put, List.setIfInBounds_toArray])
            refine wpAnyH_take (i := 6) (v := ?v6x24) rfl (by kernel_rfl) (by kernel_rfl) (by kernel_rfl) (fun _ _ _ h => h) (Or.inl ⟨by rfl, ?y6x24⟩) (by with_reducible assumption) ?_
            case y6x24 =>
              intro w0 hSw
              (try dsimp only at hSw)
              go_simp
              (try with_reducible rfl)
            (try simp only [Act.put])
            refine wpAnyH_take (i := 7) (v := ?v7x25) rfl (by kernel_rfl) (by kernel_rfl) (by kernel_rfl) (fun _ _ _ h => h) (Or.inl ⟨by rfl, ?y7x25⟩) (by with_reducible assumption) ?_
            case y7x25 =>
              intro w0 hSw
              (try dsimp only at hSw)
              go_simp
              (try with_reducible rfl)
            (try simp only [Act.put])
            refine wpAnyH_ready (rs := [9]) (by kernel_rfl) (by simp) (AllReadyH.cons rfl (fun K hK => ?_) AllReadyH.nil)
            have hL : Below w15.heap.size w15 (wd10) := hHd10
            have hXv : w15.heap.size ≤ wd1.heap.size := by omega
            have hD := dr_sizes pr (v := w15) (X := wd1.heap.size) (by first | omega | (simp only [World.size_alloc]; omega)) (by first | omega | (simp only [World.size_alloc]; omega)) (by first | omega | (simp only [World.size_alloc]; omega))
            obtain ⟨lod, hid, rowd, hlod, hhid, hned⟩ := hD
            generalize wd1.heap.size = X at *
            obtain ⟨t0, t1, t2, t3, t4, t5⟩ := qd.six
            have ft0 := qd.free 0
            have ft1 := qd.free 1
            have ft2 := qd.free 2
            have ft3 := qd.free 3
            have ft4 := qd.free 4
            have ft5 := qd.free 5
            go_simp
            refine hK.out _ _ (below_set6 hL hXv) (fun hZ => ?_)
            clear hK K
            (try simp only [Act.put, List.setIfInBounds_toArray, List.set_cons_zero, List.set_cons_succ])
            refine wpAnyH_ready (rs := [10]) (by kernel_rfl) (by simp) (AllReadyH.cons rfl (fun K hK => ?_) AllReadyH.nil)
            go_simp
            refine hK.out _ _ hZ (fun _ => ?_)
            clear hK K
            (try simp only [Act.put, List.setIfInBounds_toArray, List.set_cons_zero, List.set_cons_succ])
            refine wpAnyH_done (by kernel_rfl) ?_ _
            clear t0 ft0 t1 ft1 t2 ft2 t3 ft3 t4 ft4 t5 ft5
            go_wp2_with fail
            go_meet
            case rel => exact ⟨_, _, _, rfl, rfl, dr_of qd hXv rowd hlod hhid hned hL⟩
        · go_simp
          refine hK.out _ _ (show Below w15.heap.size w15 (w15.drew.alloc (.cells #[.int .i64 0, .int .i64 0, .int .u64 0, .int .i64 0, .int .i64 0, .slice none 0 0] 31)) from below_trans hHd0 (below_alloc _ _)) (fun hHd2 => ?_)
          clear hK K
          have qd := (show Own (w15.drew.alloc (.cells #[.int .i64 0, .int .i64 0, .int .u64 0, .int .i64 0, .int .i64 0, .slice none 0 0] 31)) w15.heap.size 31 (agc 0 0 0 0 0 (.slice none 0 0)) from Own.new w15.drew _ (agc 0 0 0 0 0 (.slice none 0 0)))
          (try simp only [Act.put, List.setIfInBounds_toArray, List.set_cons_zero, List.set_cons_succ])
          refine wpAnyH_ready (rs := [1]) (by kernel_rfl) (by simp) (AllReadyH.cons rfl (fun K hK => ?_) AllReadyH.nil)
          go_simp
          go_at_call 30
          refine (toAgg_w Na ha la mna mxa A ta.length ca ta _ (HA.out _ (below_trans hb hHd2)) rfl hn2).mono ?_
          rintro e wd11 ⟨gp, rfl, pa, hbd11⟩
          refine hK.out _ _ (show Below w15.heap.size w15 wd11 from below_trans hHd2 hbd11) (fun hHd11 => ?_)
          clear hK K
          have zd11 : w15.heap.size + 1 ≤ wd11.heap.size := by
            have h : (w15.alloc (.cells #[.int .i64 0, .int .i64 0, .int .u64 0, .int .i64 0, .int .i64 0, .slice none 0 0] 31)).heap.size ≤ wd11.heap.size := hbd11.size
            rwa [World.size_alloc] at h
          replace qd := qd.grow hbd11
          (try simp only [Act.put, List.setIfInBounds_toArray, List.set_cons_zero, List.set_cons_succ])
          refine wpAnyH_ready (rs := [3]) (by kernel_rfl) (by simp) (AllReadyH.cons rfl (fun K hK => ?_) AllReadyH.nil)
          go_simp
          go_at_call 30
          refine (toAgg_w Nb hc lc mnb mxb B tb.length cb tb _ (HB.out _ (below_trans hb hHd11)) rfl hp2).mono ?_
          rintro e wd12 ⟨gq, rfl, pb, hbd12⟩
          refine hK.out _ _ (show Below w15.heap.size w15 wd12 from below_trans hHd11 hbd12) (fun hHd12 => ?_)
          clear hK K
          have zd12 := hbd12.size
          replace qd := qd.grow hbd12
          replace pa := pa.grow hbd12
          (try simp only [Act.put, List.setIfInBounds_toArray, List.set_cons_zero, List.set_cons_succ])
          refine wpAnyH_ready (rs := [4]) (by kernel_rfl) (by simp) (AllReadyH.cons rfl (fun K hK => ?_) AllReadyH.nil)
          go_simp
          go_at_call 15
          refine (HI.out _ _ _ pa.reads pb.reads).mono ?_
          rintro e wd13 ⟨T, ct, rfl, pr, hbd13⟩
          refine hK.out _ _ (show Below w15.heap.size w15 wd13 from below_trans hHd12 hbd13) (fun hHd13 => ?_)
          clear hK K
          have zd13 := hbd13.size
          replace qd := qd.grow hbd13
          replace pa := pa.grow hbd13
          replace pb := pb.grow hbd13
          (try simp only [Act.put, List.setIfInBounds_toArray, List.set_cons_zero, List.set_cons_succ])
          refine wpAnyH_take (i := 5) (v := ?v5x26) rfl (by kernel_rfl) (by kernel_rfl) (by kernel_rfl) (fun _ _ _ h => h) (Or.inl ⟨by rfl, ?y5x26⟩) (by with_reducible assumption) ?_
          case y5x26 =>
            intro w0 hSw
            (try dsimp only at hSw)
            go_simp
            (try with_reducible rfl)
          (try simp only [Act.put, List.setIfInBounds_toArray])
          refine wpAnyH_take (i := 6) (v := ?v6x27) rfl (by kernel_rfl) (by kernel_rfl) (by kernel_rfl) (fun _ _ _ h => h) (Or.inl ⟨by rfl, ?y6x27⟩) (by with_reducible assumption) ?_
          case y6x27 =>
            intro w0 hSw
            (try dsimp only at hSw)
            go_simp
            (try with_reducible rfl)
          (try simp only [Act.put])
          refine wpAnyH_take (i := 7) (v := ?v7x28) rfl (by kernel_rfl) (by kernel_rfl) (by kernel_rfl) (fun _ _ _ h => h) (Or.inl ⟨by rfl, ?y7x28⟩) (by with_reducible assumption) ?_
          case y7x28 =>
            intro w0 hSw
            (try dsimp only at hSw)
            go_simp
            (try with_reducible rfl)
          (try simp only [Act.put])
          refine wpAnyH_ready (rs := [9]) (by kernel_rfl) (by simp) (AllReadyH.cons rfl (fun K hK => ?_) AllReadyH.nil)
          have hL : Below w15.heap.size w15 (wd13) := hHd13
          have hXv : w15.heap.size ≤ w15.heap.size := by omega
          have hD := dr_sizes pr (v := w15) (X := w15.heap.size) (by first | omega | (simp only [World.size_alloc]; omega)) (by first | omega | (simp only [World.size_alloc]; omega)) (by first | omega | (simp only [World.size_alloc]; omega))
          obtain ⟨lod, hid, rowd, hlod, hhid, hned⟩ := hD
          obtain ⟨t0, t1, t2, t3, t4, t5⟩ := qd.six
          have ft0 := qd.free 0
          have ft1 := qd.free 1
          have ft2 := qd.free 2
          have ft3 := qd.free 3
          have ft4 := qd.free 4
          have ft5 := qd.free 5
          go_simp
          refine hK.out _ _ (below_set6 hL hXv) (fun hZ => ?_)
          clear hK K
          (try simp only [Act.put, List.setIfInBounds_toArray, List.set_cons_zero, List.set_cons_succ])
          refine wpAnyH_ready (rs := [10]) (by kernel_rfl) (by simp) (AllReadyH.cons rfl (fun K hK => ?_) AllReadyH.nil)
          go_simp
          refine hK.out _ _ hZ (fun _ => ?_)
          clear hK K
          (try simp only [Act.put, List.setIfInBounds_toArray, List.set_cons_zero, List.set_cons_succ])
          refine wpAnyH_done (by kernel_rfl) ?_ _
          clear t0 ft0 t1 ft1 t2 ft2 t3 ft3 t4 ft4 t5 ft5
          go_wp2_with fail
          go_meet
          case rel => exact ⟨_, _, _, rfl, rfl, dr_of qd hXv rowd hlod hhid hned hL⟩
      obtain ⟨X2, A2, c2, rfl, rfl, hd⟩ := hcut
      obtain ⟨w16, rfl⟩ : ∃ W, W = wc := ⟨_, rfl⟩
      have b2 := hd.own
      obtain ⟨lor2, hir2, r2, hlor2, hhir2, hner2⟩ := hd.row
      have hXr2 := hd.hX
      have hXlr2 := b2.lt
      have hb16 := hd.hb
      have z16 := hb16.size
      replace ba := ba.grow hb16
      replace bb := bb.grow hb16
      replace r0 := r0.grow hb16
      replace b0 := b0.grow hb16
      replace bx := bx.grow hb16
      replace bu := bu.grow hb16
      replace b1 := b1.grow hb16
      replace r1m := r1m.grow hb16
      replace hb := below_trans hb hb16
      clear hb16 hd
      obtain ⟨b2c0, b2c1, b2c2, b2c3, b2c4, b2c5⟩ := b2.six
      obtain ⟨b0c0, b0c1, b0c2, b0c3, b0c4, b0c5⟩ := b0.six
      go_wp2_with fail
      clear b2c0 b2c1 b2c2 b2c3 b2c4 b2c5 b0c0 b0c1 b0c2 b0c3 b0c4 b0c5
      refine (eqAgg_same N h lw mn mx A2 A0 m c2 c0 rs _ r2.reads r0.reads HM.out hm).mono ?_
      rintro e w17 ⟨rfl, hb17⟩
      have z17 := hb17.size
      replace ba := ba.grow hb17
      replace bb := bb.grow hb17
      replace r0 := r0.grow hb17
      replace b0 := b0.grow hb17
      replace bx := bx.grow hb17
      replace bu := bu.grow hb17
      replace b1 := b1.grow hb17
      replace r1m := r1m.grow hb17
      replace r2 := r2.grow hb17
      replace b2 := b2.grow hb17
      replace hb := below_trans hb hb17
      clear hb17
      obtain ⟨b1c0, b1c1, b1c2, b1c3, b1c4, b1c5⟩ := b1.six
      go_wp2_with fail
      clear b1c0 b1c1 b1c2 b1c3 b1c4 b1c5
      refine (as_int HQ.out (heldAgg_any N h lw mn mx A1 c1 m 1 _ r1m.reads (by omega) (by omega) hm)).mono ?_
      rintro e w18 ⟨rfl, hb18⟩
      have z18 := hb18.size
      replace ba := ba.grow hb18
      replace bb := bb.grow hb18
      replace r0 := r0.grow hb18
      replace b0 := b0.grow hb18
      replace bx := bx.grow hb18
      replace bu := bu.grow hb18
      replace b1 := b1.grow hb18
      replace r1m := r1m.grow hb18
      replace r2 := r2.grow hb18
      replace b2 := b2.grow hb18
      replace hb := below_trans hb hb18
      clear hb18
      clear ba bb r0 b0 bx bu b1 r1m r2 b2
      go_wp2
      go_ret
      exact ⟨rfl, hb⟩
    · have hle' : lessF (1048576 - (ta.length : Int)) tb.length = -1 := by simp [lessF]; omega
      have hb := Below.refl w.heap.size w
      go_enter Try.func7, Try.ntmps7
      have ba := Own.new w 46 (agc Na ha la mna mxa (.slice A ta.length ca))
      replace hb := below_trans hb (below_alloc w (.cells (agc Na ha la mna mxa (.slice A ta.length ca)).toArray 46))
      have bb := new_second w (.cells (agc Na ha la mna mxa (.slice A ta.length ca)).toArray 46) 46 (agc Nb hc lc mnb mxb (.slice B tb.length cb))
      replace ba := ba.grow (below_alloc (w.alloc (.cells (agc Na ha la mna mxa (.slice A ta.length ca)).toArray 46)) (.cells (agc Nb hc lc mnb mxb (.slice B tb.length cb)).toArray 46))
      replace hb := below_trans hb (below_alloc (w.alloc (.cells (agc Na ha la mna mxa (.slice A ta.length ca)).toArray 46)) (.cells (agc Nb hc lc mnb mxb (.slice B tb.length cb)).toArray 46))
      obtain ⟨bac0, bac1, bac2, bac3, bac4, bac5⟩ := ba.six
      go_wp2_with fail
      clear bac0 bac1 bac2 bac3 bac4 bac5
      refine (hle ▸ szAgg_any Na ha la mna mxa A ta.length ca 1048576 _ (by omega) (by omega) hn).mono ?_
      rintro e w2 ⟨rfl, hb2⟩
      have z2 := hb2.size
      rw [World.size_alloc, World.size_alloc] at z2
      replace ba := ba.grow hb2
      replace bb := bb.grow hb2
      replace hb := below_trans hb hb2
      clear hb2
      obtain ⟨bbc0, bbc1, bbc2, bbc3, bbc4, bbc5⟩ := bb.six
      go_wp2_with fail
      clear bbc0 bbc1 bbc2 bbc3 bbc4 bbc5
      refine (hle' ▸ szAgg_any Nb hc lc mnb mxb B tb.length cb (1048576 - (ta.length : Int)) _ (by omega) (by omega) hp).mono ?_
      rintro e w3 ⟨rfl, hb3⟩
      have z3 := hb3.size
      replace ba := ba.grow hb3
      replace bb := bb.grow hb3
      replace hb := below_trans hb hb3
      clear hb3
      go_wp2
      go_ret
      exact ⟨rfl, hb⟩
  · have hle : lessF 1048576 ta.length = -1 := by simp [lessF]; omega
    have hb := Below.refl w.heap.size w
    go_enter Try.func7, Try.ntmps7
    have ba := Own.new w 46 (agc Na ha la mna mxa (.slice A ta.length ca))
    replace hb := below_trans hb (below_alloc w (.cells (agc Na ha la mna mxa (.slice A ta.length ca)).toArray 46))
    have bb := new_second w (.cells (agc Na ha la mna mxa (.slice A ta.length ca)).toArray 46) 46 (agc Nb hc lc mnb mxb (.slice B tb.length cb))
    replace ba := ba.grow (below_alloc (w.alloc (.cells (agc Na ha la mna mxa (.slice A ta.length ca)).toArray 46)) (.cells (agc Nb hc lc mnb mxb (.slice B tb.length cb)).toArray 46))
    replace hb := below_trans hb (below_alloc (w.alloc (.cells (agc Na ha la mna mxa (.slice A ta.length ca)).toArray 46)) (.cells (agc Nb hc lc mnb mxb (.slice B tb.length cb)).toArray 46))
    obtain ⟨bac0, bac1, bac2, bac3, bac4, bac5⟩ := ba.six
    go_wp2_with fail
    clear bac0 bac1 bac2 bac3 bac4 bac5
    refine (hle ▸ szAgg_any Na ha la mna mxa A ta.length ca 1048576 _ (by omega) (by omega) hn).mono ?_
    rintro e w2 ⟨rfl, hb2⟩
    have z2 := hb2.size
    rw [World.size_alloc, World.size_alloc] at z2
    replace ba := ba.grow hb2
    replace bb := bb.grow hb2
    replace hb := below_trans hb hb2
    clear hb2
    go_wp2
    go_ret
    exact ⟨rfl, hb⟩
end Go.Proofs.Ytkaghdkehkjdoaa
