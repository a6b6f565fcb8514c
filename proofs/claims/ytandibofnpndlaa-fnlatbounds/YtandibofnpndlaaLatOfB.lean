/-
  The program's LatOf.
-/
import Derived.Test.YtandibofnpndlaaLatOfA
import Derived.Test.YtandibofnpndlaaEdgeKitB
namespace Go.Proofs.Ytandibofnpndlaa
open Go.RowKit

def LabN (n : Nat) (a : Int) : Prop := 0 ≤ a ∧ a < (n : Int)
theorem isLabel_n (n : Nat) (a : Int) (b : Bool) (w : World) (h : tf (LabN n a) = b) :
    Calls Try.prog 61 #[.int .i64 (n : Int), .int .i64 a] w fun e w' => e = .returned (.bool b) ∧ w = w' := by
  refine as_bool (R := fun w' => w = w') ?_ (isLabel_any n a w)
  rw [← h, Bool.eq_iff_iff, tf_true]
  simp [LabN]

def ofRows (n : Nat) (es : List (Int × Int)) : List Nat := rowsOf (closTo (relTo es es.length) n) n
def OfOk (n : Int) (es : List (Int × Int)) : Prop := (1 ≤ n ∧ n ≤ 16 ∧ es.length ≤ 100) ∧ (∀ i, i < es.length → LabN n.toNat (elo es i) ∧ LabN n.toNat (ehi es i)) ∧ LatP n (ofRows n.toNat es)
noncomputable def ofN (n : Int) (es : List (Int × Int)) : Int := if tf (OfOk n es) = true then n else 0
noncomputable def ofXs (n : Int) (es : List (Int × Int)) : List Nat := if tf (OfOk n es) = true then ofRows n.toNat es else []
theorem ofN_no {n : Int} {es : List (Int × Int)} (h : ¬ OfOk n es) : ofN n es = 0 := by unfold ofN; rw [← tf_no h]; rfl
theorem ofN_yes {n : Int} {es : List (Int × Int)} (h : OfOk n es) : ofN n es = n := by unfold ofN; rw [← tf_yes h]; rfl
theorem ofXs_no {n : Int} {es : List (Int × Int)} (h : ¬ OfOk n es) : ofXs n es = [] := by unfold ofXs; rw [← tf_no h]; rfl
theorem ofXs_yes {n : Int} {es : List (Int × Int)} (h : OfOk n es) : ofXs n es = ofRows n.toNat es := by unfold ofXs; rw [← tf_yes h]; rfl
theorem ofXs_le (n : Int) (es : List (Int × Int)) : (ofXs n es).length ≤ 16 := by
  by_cases h : OfOk n es
  · rw [ofXs_yes h, ofRows, rowsOf_length]; have := h.1; omega
  · rw [ofXs_no h]; simp
theorem ofXs_u64 (n : Int) (es : List (Int × Int)) : U64 (ofXs n es) := by
  by_cases h : OfOk n es
  · rw [ofXs_yes h]; exact rowsOf_u64 (by have := h.1; omega)
  · rw [ofXs_no h]; intro a ha; simp at ha

theorem implLatOk_n (N : Int) (A : Option Addr) (n ca : Nat) (xs : List Nat) (w : World) (hx : xs.length = n) (hA : Rd w A (us xs)) (hu : U64 xs) (hn : n ≤ 1048576) :
    Calls Try.prog 21 #[.agg #[.int .i64 N, .slice A n ca]] w fun e w' => e = .returned (.bool (tf (LatP N xs))) ∧ Below w.heap.size w w' := by
  subst hx; exact implLatOk_any N A ca xs w hA hu hn

/-- The call hands back a lattice whose rows are memory of its own, and a truth value. -/
def LatRes (w : World) (N : Int) (xs : List Nat) (ok : Bool) (e : Ending) (w' : World) : Prop :=
  ∃ v, e = .returned (.tuple #[.agg #[.int .i64 N, v], .bool ok]) ∧ w'.ownsRow w.heap.size 67 1 v xs.length (us xs) ∧ Below w.heap.size w w'

theorem relTo_next {es : List (Int × Int)} {k n a b : Nat} (hk : k < es.length) (hb : b < n) (h1 : elo es k = (a : Int)) (h2 : ehi es k = (b : Int)) :
    (rowsOf (relTo es k) n).set a (row (rowsOf (relTo es k) n) a ||| 2 ^ b) = rowsOf (relTo es (k + 1)) n := by
  rw [relTo_succ hk]
  refine rowsOf_add hb ?_ ?_
  · rw [← h1]; simp [elo, hk]
  · rw [← h2]; simp [ehi, hk]

set_option maxHeartbeats 2000000 in
theorem implLatOf_any (N : Int) (E : Option Addr) (ce : Nat) (es : List (Int × Int)) (w : World) (hE : Rd w E (ez es)) (hl : es.length ≤ 1048576) :
    Calls Try.prog 19 #[.int .i64 N, .slice E es.length ce] w (LatRes w (ofN N es) (ofXs N es) (tf (OfOk N es))) := by
  by_cases h1 : N < 1
  · have hno : ¬ OfOk N es := fun h => by have := h.1; omega
    rw [ofN_no hno, ofXs_no hno, ← tf_no hno]
    go_enter Try.func19, Try.ntmps19
    go_wp2
    refine bodyPost_ret (v := .tuple #[.agg #[.int .i64 0, .slice none 0 0], .bool false]) (by simp [results, Try.results19, go_sem]) rfl ⟨_, rfl, World.ownsRow_nil _ _ _ _, ?_⟩
    exact below_alloc _ _
  by_cases h2 : 16 < N
  · have hno : ¬ OfOk N es := fun h => by have := h.1; omega
    rw [ofN_no hno, ofXs_no hno, ← tf_no hno]
    go_enter Try.func19, Try.ntmps19
    go_wp2
    refine bodyPost_ret (v := .tuple #[.agg #[.int .i64 0, .slice none 0 0], .bool false]) (by simp [results, Try.results19, go_sem]) rfl ⟨_, rfl, World.ownsRow_nil _ _ _ _, ?_⟩
    exact below_alloc _ _
  by_cases h3 : 100 < es.length
  · have hno : ¬ OfOk N es := fun h => by have := h.1; omega
    rw [ofN_no hno, ofXs_no hno, ← tf_no hno]
    have h3' : (100 : Int) < (es.length : Int) := by omega
    go_enter Try.func19, Try.ntmps19
    go_wp2
    refine bodyPost_ret (v := .tuple #[.agg #[.int .i64 0, .slice none 0 0], .bool false]) (by simp [results, Try.results19, go_sem]) rfl ⟨_, rfl, World.ownsRow_nil _ _ _ _, ?_⟩
    exact below_alloc _ _
  obtain ⟨n, rfl⟩ := Int.eq_ofNat_of_zero_le (show 0 ≤ N by omega)
  have h1n : 1 ≤ n := by omega
  have h16 : n ≤ 16 := by omega
  have hmk := make_u64 n (by omega)
  have d1 : decide ((n : Int) < 1) = false := by simp; omega
  have d2 : decide ((16 : Int) < (n : Int)) = false := by simp; omega
  have d3 : decide ((100 : Int) < (es.length : Int)) = false := by simp; omega
  have h100 : es.length ≤ 100 := by omega
  have HE := Lib.hid (fun W (h : Below w.heap.size w W) => hE.below h)
  clear h1 h2 h3 hE
  go_enter Try.func19, Try.ntmps19
  go_wp2
  clear hmk
  go_loopw [26] (fun i wr => ∃ k : Nat, k ≤ n ∧ i = .int .i64 k ∧ Own wr (w.heap.size + 1) 67 (us (idTo n k)) ∧ Own wr w.heap.size 26 [.int .i64 0, .slice none 0 0] ∧ Below w.heap.size w wr) (fun i _ => n - (intOf i).toNat)
  case atStart =>
    refine ⟨0, Nat.zero_le _, rfl, ?_, ?_, ?_⟩
    · rw [idTo_zero]
      have := Own.new (w.alloc (.cells #[.int .i64 0, .slice none 0 0] 26)) 67 (us (List.replicate n 0))
      simpa using this
    · exact (Own.new _ _ _).alloc _
    · exact below_trans (below_alloc _ _) (below_alloc _ _)
  case round =>
    obtain ⟨k, hk, rfl, ho, hr, hbel⟩ := hrel
    by_cases hlt : k < n
    · have ck : wr.cell? ⟨w.heap.size + 1, k, none⟩ = some (.int .u64 (row (idTo n k) k : Int)) := by
        rw [ho.cell, us_row (by rw [idTo_length]; exact hlt)]
      have fk := ho.free k
      have s2 := ho.set k (.int .u64 ((2 ^ k : Nat) : Int))
      rw [us_set, idTo_set] at s2
      have HS := Lib.hid (show Own (wr.setCell ⟨w.heap.size + 1, k, none⟩ (.int .u64 ((2 : Int) ^ k))) (w.heap.size + 1) 67 (us (idTo n (k + 1))) by simpa using s2)
      clear s2
      go_wp2_with (go_at_call 57; refine (labelBit_any k _ (by omega)).mono ?_; rintro e w' ⟨rfl, rfl⟩)
      go_roundw
      case rel => exact ⟨k + 1, by omega, by go_num, by first | exact HS.out | simpa using HS.out, hr.far (by simp) _, hbel.setCell (by simp) _⟩
      case measure => simp [intOf]; omega
    · obtain rfl : n = k := by omega
      rw [idTo_all] at ho
      go_wp2
      go_loopw [37] (fun i wr' => ∃ k : Nat, k ≤ es.length ∧ i = .int .i64 k ∧ Hid (∀ i, i < k → LabN n (elo es i) ∧ LabN n (ehi es i)) ∧ Own wr' (w.heap.size + 1) 67 (us (rowsOf (relTo es k) n)) ∧ Own wr' w.heap.size 26 [.int .i64 0, .slice none 0 0] ∧ Below w.heap.size w wr') (fun i _ => es.length - (intOf i).toNat)
      case atStart => exact ⟨0, Nat.zero_le _, rfl, Lib.hid (fun i hi => by omega), by rw [relTo_zero]; exact ho, hr, hbel⟩
      case round =>
        clear ho hr hbel
        obtain ⟨k, hk, rfl, hpre, ho, hr, hbel⟩ := hrel
        by_cases hlt2 : k < es.length
        · obtain ⟨b, off, rfl, hce⟩ := (HE.out _ hbel).edge hlt2
          obtain ⟨x0, x1⟩ := hce wr (Below.refl _ _)
          clear hce
          by_cases ha : LabN n (elo es k)
          · by_cases hb : LabN n (ehi es k)
            · obtain ⟨a, ea⟩ := Int.eq_ofNat_of_zero_le ha.1
              obtain ⟨c, ec⟩ := Int.eq_ofNat_of_zero_le hb.1
              have hal : a < n := by have := ha.2; omega
              have hcl : c < n := by have := hb.2; omega
              have HN := Lib.hid (relTo_next (n := n) hlt2 hcl ea ec)
              have HP := Lib.hid (all_next hpre.out ⟨ha, hb⟩)
              rw [ea] at x0 ha
              rw [ec] at x1 hb
              have Ha := Lib.hid ha
              have Hb := Lib.hid hb
              clear ha hb ea ec hpre
              go_wp2_with fail
              refine (isLabel_n n a true _ (tf_yes Ha.out).symm).mono ?_
              rintro e w' ⟨rfl, rfl⟩
              go_wp2_with fail
              refine (isLabel_n n c true _ (tf_yes Hb.out).symm).mono ?_
              rintro e w' ⟨rfl, rfl⟩
              go_wp2
              clear x0 x1
              have hoe := Own.new wr 70 [.int .i64 (a : Int), .int .i64 (c : Int)]
              have hb3 := below_alloc wr (.cells [.int .i64 (a : Int), .int .i64 (c : Int)].toArray 70)
              have ho3 := ho.grow hb3
              have hr3 := hr.grow hb3
              have hbel3 := below_trans hbel hb3
              clear hb3 ho hr hbel
              have e1 : wr.heap.size < (wr.alloc (.cells [.int .i64 (a : Int), .int .i64 (c : Int)].toArray 70)).heap.size := hoe.lt
              have er : w.heap.size + 1 < wr.heap.size := by
                have := ho3.lt
                have := hr3.lt
                rw [World.size_alloc] at *
                rcases Nat.lt_or_ge (w.heap.size + 1) wr.heap.size with h | h
                · exact h
                · exfalso
                  have hq : w.heap.size + 1 = wr.heap.size := by omega
                  have h1 := ho3
                  rw [hq] at h1
                  unfold Own at h1 hoe
                  rw [hoe] at h1
                  simp at h1
              generalize wr.alloc (.cells [.int .i64 (a : Int), .int .i64 (c : Int)].toArray 70) = w3 at *
              have g0 : ∀ u : Bel w3, u.w.cell? ⟨wr.heap.size, 0, none⟩ = some (.int .i64 (a : Int)) := fun u => (hoe.grow u.ok).two.1
              have g1 : ∀ u : Bel w3, u.w.cell? ⟨wr.heap.size, 1, none⟩ = some (.int .i64 (c : Int)) := fun u => (hoe.grow u.ok).two.2
              have gr : ∀ u : Bel w3, u.w.cell? ⟨w.heap.size + 1, a, none⟩ = some (.int .u64 (row (rowsOf (relTo es k) n) a : Int)) := fun u => by
                rw [(ho3.grow u.ok).cell, us_row (by rw [rowsOf_length]; exact hal)]
              have hrw : row (rowsOf (relTo es k) n) a < 18446744073709551616 := (rowsOf_u64 h16).at a
              have hor : bits .or .u64 (row (rowsOf (relTo es k) n) a : Int) ((2 : Int) ^ c) = ((row (rowsOf (relTo es k) n) a ||| 2 ^ c : Nat) : Int) := by
                rw [← or_nat _ (2 ^ c) hrw (show 2 ^ c < 2 ^ 64 from Nat.pow_lt_pow_right (by omega) (by omega))]; simp
              refine wp_region_belt 10 (by kernel_rfl) (by kernel_rfl) ?_
              simp only [List.take_succ_cons, List.take_zero, List.drop_succ_cons, List.drop_zero]
              repeat (go_big_quiet_step ((go_at_call 57; exact bel_of_same _ (labelBit_any _ _ (by omega)))))
              refine wpQuiet_nil ?_
              rintro _ ⟨u, rfl⟩
              have ho4 := ho3.grow u.ok
              have hr4 := hr3.grow u.ok
              have hbel4 := below_trans hbel3 u.ok
              have hfu := ho4.free a
              have hcu := gr u
              have s2 := ho4.set a (.int .u64 ((row (rowsOf (relTo es k) n) a ||| 2 ^ c : Nat) : Int))
              rw [us_set, HN.out] at s2
              have HS := Lib.hid s2
              clear s2 g0 g1 gr
              go_wp2
              go_roundw
              case rel => exact ⟨k + 1, by omega, by go_num, HP, HS.out, hr4.far (by simp) _, hbel4.setCell (by simp) _⟩
              case measure => simp [intOf]; omega
            · obtain ⟨a, ea⟩ := Int.eq_ofNat_of_zero_le ha.1
              rw [ea] at x0 ha
              have hno : ¬ OfOk (n : Int) es := fun h => hb (by have := (h.2.1 k hlt2).2; rwa [Int.toNat_natCast] at this)
              have Ha := Lib.hid ha
              have Hb := Lib.hid hb
              have HNO := Lib.hid hno
              clear ha hb hno ea
              go_wp2_with fail
              refine (isLabel_n n a true _ (tf_yes Ha.out).symm).mono ?_
              rintro e w' ⟨rfl, rfl⟩
              go_wp2_with fail
              refine (isLabel_n n (ehi es k) false _ (tf_no Hb.out).symm).mono ?_
              rintro e w' ⟨rfl, rfl⟩
              obtain ⟨r0, r1⟩ := (hr.alloc (.cells #[.int .i64 (a : Int), .int .i64 (ehi es k)] 70)).two
              have f0 := (hr.alloc (.cells #[.int .i64 (a : Int), .int .i64 (ehi es k)] 70)).free 0
              have f1 := (hr.alloc (.cells #[.int .i64 (a : Int), .int .i64 (ehi es k)] 70)).free 1
              go_wp2
              rw [ofN_no HNO.out, ofXs_no HNO.out, ← tf_no HNO.out]
              refine bodyPost_ret (v := .tuple #[.agg #[.int .i64 0, .slice none 0 0], .bool false]) (by simp [results, Try.results19, go_sem, r0, r1]) rfl ⟨_, rfl, World.ownsRow_nil _ _ _ _, ?_⟩
              exact ((below_trans hbel (below_alloc _ _)).setCell (by simp) _).setCell (by simp) _
          · have hno : ¬ OfOk (n : Int) es := fun h => ha (by have := (h.2.1 k hlt2).1; rwa [Int.toNat_natCast] at this)
            have Ha := Lib.hid ha
            have HNO := Lib.hid hno
            clear ha hno
            go_wp2_with fail
            refine (isLabel_n n (elo es k) false _ (tf_no Ha.out).symm).mono ?_
            rintro e w' ⟨rfl, rfl⟩
            obtain ⟨r0, r1⟩ := (hr.alloc (.cells #[.int .i64 (elo es k), .int .i64 (ehi es k)] 70)).two
            have f0 := (hr.alloc (.cells #[.int .i64 (elo es k), .int .i64 (ehi es k)] 70)).free 0
            have f1 := (hr.alloc (.cells #[.int .i64 (elo es k), .int .i64 (ehi es k)] 70)).free 1
            go_wp2
            rw [ofN_no HNO.out, ofXs_no HNO.out, ← tf_no HNO.out]
            refine bodyPost_ret (v := .tuple #[.agg #[.int .i64 0, .slice none 0 0], .bool false]) (by simp [results, Try.results19, go_sem, r0, r1]) rfl ⟨_, rfl, World.ownsRow_nil _ _ _ _, ?_⟩
            exact ((below_trans hbel (below_alloc _ _)).setCell (by simp) _).setCell (by simp) _
        · obtain rfl : es.length = k := by omega
          have HP := Lib.hid (show ∀ i, i < es.length → LabN ((n : Int)).toNat (elo es i) ∧ LabN ((n : Int)).toNat (ehi es i) by rw [Int.toNat_natCast]; exact hpre.out)
          go_wp2_with fail
          refine (closeRows_any (w.heap.size + 1) n (relTo es es.length) _ ho h16).mono ?_
          rintro e w2 ⟨rfl, ho2, hg2⟩
          have hr2 : Own w2 w.heap.size 26 [.int .i64 0, .slice none 0 0] := (hg2.block _ hr.lt (by simp)).trans hr
          have hbel2 : Below w.heap.size w w2 := hbel.grown hg2 (by have := hr.lt; omega) (fun k hk => by simp at hk; omega)
          clear ho hr hbel hg2
          go_wp2_with fail
          by_cases hL : LatP (n : Int) (ofRows n es)
          · refine (as_bool (tf_yes hL).symm (implLatOk_n (n : Int) (some ⟨w.heap.size + 1, 0, none⟩) n n (ofRows n es) _ (rowsOf_length _ _) (ho2.rd.below (below_alloc _ _)) (rowsOf_u64 h16) (by omega))).mono ?_
            rintro e w3 ⟨rfl, hb3⟩
            obtain ⟨hx3, hb23⟩ := box_own hb3
            have hyes : OfOk (n : Int) es := ⟨⟨by omega, by omega, h100⟩, HP.out, by rw [Int.toNat_natCast]; exact hL⟩
            have HY := Lib.hid hyes
            have ho3 := ho2.grow hb23
            have hr3 := hr2.grow hb23
            have hbel3 := below_trans hbel2 hb23
            have s2 := ho2.lt
            clear hL hyes hb3 hb23 ho2 hr2 hbel2
            obtain ⟨x0, x1⟩ := hx3.two
            obtain ⟨r0, r1⟩ := hr3.two
            have f0 := hr3.free 0
            have f1 := hr3.free 1
            go_wp2
            rw [ofN_yes HY.out, ofXs_yes HY.out, ← tf_yes HY.out, Int.toNat_natCast]
            refine bodyPost_ret (v := .tuple #[.agg #[.int .i64 (n : Int), .slice (some ⟨w.heap.size + 1, 0, none⟩) n n], .bool true]) (by simp [results, Try.results19, go_sem, r0, r1]) rfl ⟨_, rfl, ?_, ?_⟩
            · have hq := ((ho3.far (p := ⟨w.heap.size, 0, none⟩) (by simp) (.int .i64 (n : Int))).far (p := ⟨w.heap.size, 1, none⟩) (by simp) (.slice (some ⟨w.heap.size + 1, 0, none⟩) n n)).owns (base := w.heap.size) (n := n) (by omega) (by rw [us_length, rowsOf_length]) (by omega)
              rw [ofRows, rowsOf_length]
              exact hq
            · exact (hbel3.setCell (by simp) _).setCell (by simp) _
          · refine (as_bool (tf_no hL).symm (implLatOk_n (n : Int) (some ⟨w.heap.size + 1, 0, none⟩) n n (ofRows n es) _ (rowsOf_length _ _) (ho2.rd.below (below_alloc _ _)) (rowsOf_u64 h16) (by omega))).mono ?_
            rintro e w3 ⟨rfl, hb3⟩
            obtain ⟨hx3, hb23⟩ := box_own hb3
            have hno : ¬ OfOk (n : Int) es := fun h => hL (by have := h.2.2; rwa [Int.toNat_natCast] at this)
            have HNO := Lib.hid hno
            have hr3 := hr2.grow hb23
            have hbel3 := below_trans hbel2 hb23
            clear hL hno hb3 hb23 ho2 hr2 hbel2
            obtain ⟨r0, r1⟩ := hr3.two
            have f0 := hr3.free 0
            have f1 := hr3.free 1
            go_wp2
            rw [ofN_no HNO.out, ofXs_no HNO.out, ← tf_no HNO.out]
            refine bodyPost_ret (v := .tuple #[.agg #[.int .i64 0, .slice none 0 0], .bool false]) (by simp [results, Try.results19, go_sem, r0, r1]) rfl ⟨_, rfl, World.ownsRow_nil _ _ _ _, ?_⟩
            exact (hbel3.setCell (by simp) _).setCell (by simp) _
end Go.Proofs.Ytandibofnpndlaa
