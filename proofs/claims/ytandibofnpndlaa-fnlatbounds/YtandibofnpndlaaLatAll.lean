/-
  The program's and the model's LatJoinAll.
-/
import Derived.Test.YtandibofnpndlaaLatEnds
import Derived.Test.YtandibofnpndlaaLawKitD
namespace Go.Proofs.Ytandibofnpndlaa
open Go.RowKit

/-- the join of j and all labels of the list, -1 where one of them is no label -/
noncomputable def jall (xs : List Nat) : Int → List Int → Int
  | j, [] => j
  | j, a :: r => if tf (Lab xs a) = true then jall xs (bound xs true j.toNat a.toNat) r else -1
noncomputable def allV (N : Int) (xs : List Nat) (zs : List Int) : Int := if tf (LatP N xs) = true then jall xs (endOf xs false) zs else -1
theorem allV_no {N : Int} {xs : List Nat} {zs : List Int} (h : ¬ LatP N xs) : allV N xs zs = -1 := by unfold allV; rw [← tf_no h]; rfl
theorem allV_yes {N : Int} {xs : List Nat} {zs : List Int} (h : LatP N xs) : allV N xs zs = jall xs (endOf xs false) zs := by unfold allV; rw [← tf_yes h]; rfl
theorem jall_stop {xs : List Nat} {zs : List Int} {j : Int} {k : Nat} (hk : k < zs.length) (h : ¬ Lab xs (iat zs k)) : jall xs j (zs.drop k) = -1 := by
  rw [List.drop_eq_getElem_cons hk, jall, show zs[k] = iat zs k by simp [iat, hk], ← tf_no h]; rfl
theorem jall_step {xs : List Nat} {zs : List Int} {j a c : Nat} {k : Nat} (hk : k < zs.length) (he : iat zs k = (a : Int)) (ha : a < xs.length) (hc : bound xs true j a = (c : Int)) : jall xs j (zs.drop k) = jall xs c (zs.drop (k + 1)) := by
  rw [List.drop_eq_getElem_cons hk, jall, show zs[k] = (a : Int) by rw [← he]; simp [iat, hk], ← tf_yes (show Lab xs (a : Int) from ⟨by omega, by omega⟩)]
  simp only [if_true, Int.toNat_natCast, hc]

set_option maxHeartbeats 1000000 in
theorem implLatJoinAll_any (N : Int) (A : Option Addr) (ca : Nat) (xs : List Nat) (B : Option Addr) (cb : Nat) (zs : List Int) (w : World) (hA : Rd w A (us xs)) (hu : U64 xs) (hn : xs.length ≤ 1048576) (hB : Rd w B (iz zs)) (hm : zs.length ≤ 1048576) :
    Calls Try.prog 34 #[.agg #[.int .i64 N, .slice A xs.length ca], .slice B zs.length cb] w fun e w' => e = .returned (.int .i64 (allV N xs zs)) ∧ Below w.heap.size w w' := by
  have HA := Lib.hid (fun W (h : Below w.heap.size w W) => hA.below h)
  have HB := Lib.hid (fun W (h : Below w.heap.size w W) => hB.below h)
  clear hA hB
  by_cases hL : LatP N xs
  · obtain ⟨rfl, h1, h16⟩ := hL.len
    go_enter Try.func34, Try.ntmps34
    go_wp2_with fail
    refine (as_bool (tf_yes hL).symm (implLatOk_any _ A ca xs _ (HA.out _ (below_alloc _ _)) hu hn)).mono ?_
    obtain ⟨b0, hb0, eb0⟩ := hL.end_ok false (by omega)
    have HL := Lib.hid hL
    have EB := Lib.hid (show least xs (2 ^ xs.length - 1) = (b0 : Int) by rw [least_all hu h16, eb0])
    have EV := Lib.hid (show allV (xs.length : Int) xs zs = jall xs b0 (zs.drop 0) by rw [allV_yes hL, eb0]; rfl)
    clear hL eb0
    rintro e w1 ⟨rfl, hb1⟩
    obtain ⟨ho1, hB1⟩ := box_own hb1
    clear hb1
    have hp : 2 ^ xs.length - 1 < 18446744073709551616 := by
      have : 2 ^ xs.length ≤ 2 ^ 16 := Nat.pow_le_pow_right (by omega) h16
      omega
    have HP := Lib.hid hp
    clear hp
    have g0 : ∀ u : Bel w1, u.w.cell? ⟨w.heap.size, 0, none⟩ = some (.int .i64 (xs.length : Int)) := fun u => (ho1.grow u.ok).two.1
    have g1 : ∀ u : Bel w1, u.w.cell? ⟨w.heap.size, 1, none⟩ = some (.slice A xs.length ca) := fun u => (ho1.grow u.ok).two.2
    have HR := Lib.hid (fun W (h : Below w1.heap.size w1 W) => HA.out W (below_trans hB1 h))
    go_wp2
    refine wp_region_bel (by kernel_rfl) (by kernel_rfl) ?_
    repeat (go_big_quiet_step (first | (go_at_call 69; exact bel_of_same _ (allLabels_any xs.length _ (by omega))) | (go_at_call 67; exact bel_of_same _ (as_int EB.out (leastIn_any A ca xs (2 ^ xs.length - 1) _ (HR.out _ (Bel.ok _)) hu HP.out (by omega))))))
    refine wpQuiet_nil ?_
    rintro _ ⟨u, rfl⟩
    have ho2 := ho1.grow u.ok
    have hB2 := below_trans hB1 u.ok
    clear g0 g1 HR
    go_wp2
    clear ho1 hB1
    go_loopw [5, 19] (fun t i wr => ∃ k j : Nat, k ≤ zs.length ∧ j < xs.length ∧ t = .int .i64 j ∧ i = .int .i64 k ∧ Hid (allV (xs.length : Int) xs zs = jall xs j (zs.drop k)) ∧ Own wr w.heap.size 26 [.int .i64 (xs.length : Int), .slice A xs.length ca] ∧ Below w.heap.size w wr) (fun _ i _ => zs.length - (intOf i).toNat)
    case atStart => exact ⟨0, b0, Nat.zero_le _, hb0, rfl, rfl, EV, ho2, hB2⟩
    case round =>
      clear ho2 hB2
      obtain ⟨k, j, hk, hj, rfl, rfl, hV, hown, hbel⟩ := hrel
      obtain ⟨c0, c1⟩ := hown.two
      by_cases hlt : k < zs.length
      · obtain ⟨bd, e', _, hcb⟩ := HB.out _ hbel k _ (iz_iat hlt)
        subst e'
        by_cases ha : Lab xs (iat zs k)
        · obtain ⟨a, ea⟩ := Int.eq_ofNat_of_zero_le ha.1
          have hal : a < xs.length := by have := ha.2; omega
          obtain ⟨c, hc, ec, _⟩ := HL.out.bound_ok true hj hal
          have HV2 := Lib.hid (hV.out.trans (jall_step hlt ea hal ec))
          rw [ea] at hcb ha
          have Ha := Lib.hid ha
          have EC := Lib.hid (show least xs (row xs j &&& row xs a) = (c : Int) by rw [least_bound hu HL.out.2.1 j a hj, ec])
          clear ha ea ec hV
          go_wp2_with fail
          refine (isLabel_is xs.length a xs true _ rfl (tf_yes Ha.out).symm).mono ?_
          rintro e w' ⟨rfl, rfl⟩
          have hR := HA.out _ hbel
          obtain ⟨ad, e', hcs⟩ := hR.nat (by omega)
          subst e'
          have g1 : ∀ u : Bel wr, u.w.cell? ⟨w.heap.size, 1, none⟩ = some (.slice (some ad) xs.length ca) := fun u => (hown.grow u.ok).two.2
          have gj : ∀ u : Bel wr, u.w.cell? (ad.add j) = some (.int .u64 (row xs j : Int)) := fun u => hcs _ u.ok j hj
          have ga : ∀ u : Bel wr, u.w.cell? (ad.add a) = some (.int .u64 (row xs a : Int)) := fun u => hcs _ u.ok a hal
          have HR := Lib.hid (fun W (h : Below wr.heap.size wr W) => hR.below h)
          have hrj : row xs j < 18446744073709551616 := hu.at j
          have hra : row xs a < 18446744073709551616 := hu.at a
          have hand := and_nat (row xs j) (row xs a) hrj hra
          have hset : row xs j &&& row xs a < 18446744073709551616 := and_lt hrj
          clear hcs hR c0 c1 hcb
          go_wp2
          refine wp_region_bel (by kernel_rfl) (by kernel_rfl) ?_
          repeat (go_big_quiet_step ((go_at_call 67; exact bel_of_same _ (as_int EC.out (leastIn_any (some ad) ca xs (row xs j &&& row xs a) _ (HR.out _ (Bel.ok _)) hu hset (by omega))))))
          refine wpQuiet_nil ?_
          rintro _ ⟨u, rfl⟩
          go_wp2
          go_roundw
          case rel => exact ⟨k + 1, c, by omega, hc, rfl, by go_num, HV2, hown.grow u.ok, below_trans hbel u.ok⟩
          case measure => simp [intOf]; omega
        · have HV2 := Lib.hid (hV.out.trans (jall_stop hlt ha))
          have Ha := Lib.hid ha
          clear ha hV
          go_wp2_with fail
          refine (isLabel_is xs.length (iat zs k) xs false _ rfl (tf_no Ha.out).symm).mono ?_
          rintro e w' ⟨rfl, rfl⟩
          go_wp2
          go_ret
          exact ⟨ret_int HV2.out.symm, hbel⟩
      · go_wp2
        go_ret
        refine ⟨ret_int ?_, hbel⟩
        rw [hV.out, List.drop_of_length_le (by omega)]; rfl
  · go_enter Try.func34, Try.ntmps34
    go_wp2_with fail
    refine (as_bool (tf_no hL).symm (implLatOk_any N A ca xs _ (HA.out _ (below_alloc _ _)) hu hn)).mono ?_
    have HL := Lib.hid hL
    clear hL
    rintro e w1 ⟨rfl, hb1⟩
    go_wp2
    go_ret
    exact ⟨ret_int (allV_no HL.out).symm, (box_own hb1).2⟩

set_option maxHeartbeats 1000000 in
theorem specLatJoinAll_any (N : Int) (A : Option Addr) (ca : Nat) (xs : List Nat) (B : Option Addr) (cb : Nat) (zs : List Int) (w : World) (hA : Rd w A (us xs)) (hu : U64 xs) (hn : xs.length ≤ 1048576) (hB : Rd w B (iz zs)) (hm : zs.length ≤ 1048576) :
    Calls Try.prog 50 #[.agg #[.int .i64 N, .slice A xs.length ca], .slice B zs.length cb] w fun e w' => e = .returned (.int .i64 (allV N xs zs)) ∧ Below w.heap.size w w' := by
  have HA := Lib.hid (fun W (h : Below w.heap.size w W) => hA.below h)
  have HB := Lib.hid (fun W (h : Below w.heap.size w W) => hB.below h)
  clear hA hB
  go_enter Try.func50, Try.ntmps50
  go_wp2_with fail
  refine (specLatEnds_any N A ca xs _ (HA.out _ (below_alloc _ _)) hu hn).mono ?_
  rintro e w1 ⟨rfl, hb1⟩
  obtain ⟨ho1, hB1⟩ := box_own hb1
  clear hb1
  by_cases hL : LatP N xs
  · obtain ⟨rfl, h1, h16⟩ := hL.len
    obtain ⟨b0, hb0, eb0⟩ := hL.end_ok false (by omega)
    rw [endV_yes hL, eb0]
    have HL := Lib.hid hL
    have EV := Lib.hid (show allV (xs.length : Int) xs zs = jall xs b0 (zs.drop 0) by rw [allV_yes hL, eb0]; rfl)
    clear hL eb0
    go_wp2
    go_loopw [5, 7] (fun t i wr => ∃ k j : Nat, k ≤ zs.length ∧ j < xs.length ∧ t = .int .i64 j ∧ i = .int .i64 k ∧ Hid (allV (xs.length : Int) xs zs = jall xs j (zs.drop k)) ∧ Own wr w.heap.size 26 [.int .i64 (xs.length : Int), .slice A xs.length ca] ∧ Below w.heap.size w wr) (fun _ i _ => zs.length - (intOf i).toNat)
    case atStart => exact ⟨0, b0, Nat.zero_le _, hb0, rfl, rfl, EV, ho1, hB1⟩
    case round =>
      clear ho1 hB1
      obtain ⟨k, j, hk, hj, rfl, rfl, hV, hown, hbel⟩ := hrel
      by_cases hlt : k < zs.length
      · obtain ⟨bd, e', hbb, hcb⟩ := HB.out _ hbel k _ (iz_iat hlt)
        subst e'
        have g0 : ∀ u : Bel wr, u.w.cell? ⟨w.heap.size, 0, none⟩ = some (.int .i64 (xs.length : Int)) := fun u => (hown.grow u.ok).two.1
        have g1 : ∀ u : Bel wr, u.w.cell? ⟨w.heap.size, 1, none⟩ = some (.slice A xs.length ca) := fun u => (hown.grow u.ok).two.2
        have gb : ∀ u : Bel wr, u.w.cell? (bd.add k) = some (.int .i64 (iat zs k)) := fun u => (u.ok.cell (by rw [add_block]; exact hbb)).trans hcb
        have HR := Lib.hid (fun W (h : Below wr.heap.size wr W) => HA.out W (below_trans hbel h))
        by_cases ha : Lab xs (iat zs k)
        · obtain ⟨a, ea⟩ := Int.eq_ofNat_of_zero_le ha.1
          have hal : a < xs.length := by have := ha.2; omega
          obtain ⟨c, hc, ec, _⟩ := HL.out.bound_ok true hj hal
          have HV2 := Lib.hid (hV.out.trans (jall_step hlt ea hal ec))
          rw [ea] at hcb ha gb
          have Ha := Lib.hid ha
          have EC := Lib.hid ec
          clear ha ea ec hV
          go_wp2
          refine wp_region_bel (by kernel_rfl) (by kernel_rfl) ?_
          repeat (go_big_quiet_step ((go_at_call 68; exact bel_of _ (as_bool (tf_yes ⟨HL.out, Ha.out⟩).symm (l01Label_any _ A ca xs a _ (HR.out _ (Bel.ok _)) hu hn)))))
          refine wpQuiet_nil ?_
          rintro _ ⟨u, rfl⟩
          have hown2 := hown.grow u.ok
          have hbel2 := below_trans hbel u.ok
          have hcb2 : u.w.cell? (bd.add k) = some (.int .i64 (a : Int)) := (u.ok.cell (by rw [add_block]; exact hbb)).trans hcb
          have hbb2 : bd.block < u.w.heap.size := Nat.lt_of_lt_of_le hbb u.ok.size
          clear g0 g1 gb HR hown hbel hcb hbb
          go_wp2
          generalize u.w = w2 at *
          have g0 : ∀ u : Bel w2, u.w.cell? ⟨w.heap.size, 0, none⟩ = some (.int .i64 (xs.length : Int)) := fun u => (hown2.grow u.ok).two.1
          have g1 : ∀ u : Bel w2, u.w.cell? ⟨w.heap.size, 1, none⟩ = some (.slice A xs.length ca) := fun u => (hown2.grow u.ok).two.2
          have gb : ∀ u : Bel w2, u.w.cell? (bd.add k) = some (.int .i64 (a : Int)) := fun u => (u.ok.cell (by rw [add_block]; exact hbb2)).trans hcb2
          have HR := Lib.hid (fun W (h : Below w2.heap.size w2 W) => HA.out W (below_trans hbel2 h))
          refine wp_region_bel (by kernel_rfl) (by kernel_rfl) ?_
          repeat (go_big_quiet_step ((go_at_call 60; exact bel_of _ (as_int EC.out (l01Bound_any A ca xs j a true _ (HR.out _ (Bel.ok _)) hu h16 hj hal)))))
          refine wpQuiet_nil ?_
          rintro _ ⟨u2, rfl⟩
          go_wp2
          go_roundw
          case rel => exact ⟨k + 1, c, by omega, hc, rfl, by go_num, HV2, hown2.grow u2.ok, below_trans hbel2 u2.ok⟩
          case measure => simp [intOf]; omega
        · have HV2 := Lib.hid (hV.out.trans (jall_stop hlt ha))
          have Ha := Lib.hid ha
          clear ha hV
          go_wp2
          refine wp_region_bel (by kernel_rfl) (by kernel_rfl) ?_
          repeat (go_big_quiet_step ((go_at_call 68; exact bel_of _ (as_bool (tf_no (fun h => Ha.out h.2)).symm (l01Label_any _ A ca xs (iat zs k) _ (HR.out _ (Bel.ok _)) hu hn)))))
          refine wpQuiet_nil ?_
          rintro _ ⟨u, rfl⟩
          go_wp2
          go_ret
          exact ⟨ret_int HV2.out.symm, below_trans hbel u.ok⟩
      · go_wp2
        go_ret
        refine ⟨ret_int ?_, hbel⟩
        rw [hV.out, List.drop_of_length_le (by omega)]; rfl
  · rw [endV_no hL]
    have HL := Lib.hid hL
    clear hL
    go_wp2
    refine wp_loop_rounds 1 ?_
    rw [rounds_succ]
    by_cases hlt : 0 < zs.length
    · obtain ⟨bd, e', hbb, hcb⟩ := HB.out _ hB1 0 _ (iz_iat hlt)
      subst e'
      have g0 : ∀ u : Bel w1, u.w.cell? ⟨w.heap.size, 0, none⟩ = some (.int .i64 N) := fun u => (ho1.grow u.ok).two.1
      have g1 : ∀ u : Bel w1, u.w.cell? ⟨w.heap.size, 1, none⟩ = some (.slice A xs.length ca) := fun u => (ho1.grow u.ok).two.2
      rw [show bd.add 0 = bd by simp [Addr.add]] at hcb
      have gb : ∀ u : Bel w1, u.w.cell? bd = some (.int .i64 (iat zs 0)) := fun u => (u.ok.cell hbb).trans hcb
      have hlt' : (0 : Int) < (zs.length : Int) := by omega
      have HR := Lib.hid (fun W (h : Below w1.heap.size w1 W) => HA.out W (below_trans hB1 h))
      go_wp2
      refine wp_region_bel (by kernel_rfl) (by kernel_rfl) ?_
      repeat (go_big_quiet_step ((go_at_call 68; exact bel_of _ (as_bool (tf_no (fun h => HL.out h.1)).symm (l01Label_any N A ca xs (iat zs 0) _ (HR.out _ (Bel.ok _)) hu hn)))))
      refine wpQuiet_nil ?_
      rintro _ ⟨u, rfl⟩
      go_wp2
      go_ret
      exact ⟨ret_int (allV_no HL.out).symm, below_trans hB1 u.ok⟩
    · go_wp2
      go_ret
      exact ⟨ret_int (allV_no HL.out).symm, hB1⟩

end Go.Proofs.Ytandibofnpndlaa
