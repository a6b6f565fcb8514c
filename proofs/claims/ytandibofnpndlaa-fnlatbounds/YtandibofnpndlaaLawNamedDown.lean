/-
  laws.FnLatDown returns true.
-/
import Derived.Test.YtandibofnpndlaaDraw
import Derived.Test.YtandibofnpndlaaSame
import Derived.Test.YtandibofnpndlaaNamedMath
namespace Go.Proofs.Ytandibofnpndlaa
open Go.RowKit

theorem same_same (A B : Option Addr) (n ca cb : Nat) (zs : List Int) (w : World) (hA : Rd w A (iz zs)) (hB : Rd w B (iz zs)) (hl : zs.length = n) (hn : n ≤ 1048576) :
    Calls Try.prog 32 #[.slice A n ca, .slice B n cb] w fun e w' => e = .returned (.bool true) ∧ Below w.heap.size w w' := by
  subst hl
  exact as_bool (decide_eq_true rfl) (same_any A B ca cb zs zs w hA hB (by omega) (by omega))

/-- The call hands back a slice that reads as zs. -/
def ListRes (w : World) (k : Nat) (zs : List Int) (e : Ending) (w' : World) : Prop := ∃ Z cZ, e = .returned (.slice Z k cZ) ∧ Rd w' Z (iz zs) ∧ Below w.heap.size w w'
theorem listRes {w w' : World} {zs : List Int} {k : Nat} {e : Ending} (hk : zs.length = k) (h : RowOf 3 1 w zs.length (iz zs) e w') : ListRes w k zs e w' := by
  subst hk
  obtain ⟨v, rfl, hr, hb⟩ := h
  obtain ⟨Z, cZ, rfl, hR⟩ := owns_rd hr
  exact ⟨Z, cZ, rfl, hR, hb⟩
theorem implDown_at (N : Int) (R : Option Addr) (m cR k : Nat) (xs : List Nat) (a : Int) (zs : List Int) (w : World) (hR : Rd w R (us xs)) (hu : U64 xs) (hm : xs.length = m) (hn : m ≤ 9) (hz : zs = downV N xs a) (hk : zs.length = k) :
    Calls Try.prog 31 #[.agg #[.int .i64 N, .slice R m cR], .int .i64 a] w (ListRes w k zs) := by
  subst hm; subst hz
  exact (implLatDown_any N R cR xs a w hR hu (by omega)).mono fun e w' h => listRes hk h
theorem specDown_at (N : Int) (R : Option Addr) (m cR k : Nat) (xs : List Nat) (a : Int) (zs : List Int) (w : World) (hR : Rd w R (us xs)) (hu : U64 xs) (hm : xs.length = m) (hn : m ≤ 9) (hz : zs = downV N xs a) (hk : zs.length = k) :
    Calls Try.prog 33 #[.agg #[.int .i64 N, .slice R m cR], .int .i64 a] w (ListRes w k zs) := by
  subst hm; subst hz
  exact (specLatDown_any N R cR xs a w hR hu (by omega)).mono fun e w' h => listRes hk h
theorem implLe_at (N : Int) (R : Option Addr) (m cR : Nat) (xs : List Nat) (a b : Int) (t : Bool) (w : World) (hR : Rd w R (us xs)) (hu : U64 xs) (hm : xs.length = m) (hn : m ≤ 9) (ht : leV N xs a b = t) :
    Calls Try.prog 29 #[.agg #[.int .i64 N, .slice R m cR], .int .i64 a, .int .i64 b] w fun e w' => e = .returned (.bool t) ∧ Below w.heap.size w w' := by
  subst hm
  exact as_bool ht (implLatLe_any N R cR xs a b w hR hu (by omega))
theorem implAll_at (N : Int) (R : Option Addr) (m cR : Nat) (xs : List Nat) (Z : Option Addr) (k cZ : Nat) (zs : List Int) (j : Int) (w : World) (hR : Rd w R (us xs)) (hu : U64 xs) (hm : xs.length = m) (hn : m ≤ 9) (hZ : Rd w Z (iz zs)) (hk : zs.length = k) (hk9 : k ≤ 9) (hj : allV N xs zs = j) :
    Calls Try.prog 34 #[.agg #[.int .i64 N, .slice R m cR], .slice Z k cZ] w fun e w' => e = .returned (.int .i64 j) ∧ Below w.heap.size w w' := by
  subst hm; subst hk
  exact as_int hj (implLatJoinAll_any N R cR xs Z cZ zs w hR hu (by omega) hZ (by omega))

set_option maxRecDepth 100000 in
set_option maxHeartbeats 4000000 in
theorem fnLatDown_walk (A : Option Addr) (c n : Nat) (w : World) (hA : Byt w A n w.heap.size) (hn : n ≤ 9223372036854775807) :
    Calls Try.prog 5 #[.slice A n c] w fun e w' => e = .returned (.bool true) ∧ Below w.heap.size w w' := by
  by_cases hb : 1048576 < n
  · go_enter Try.func5, Try.ntmps5
    go_wp2_with fail
    refine (big_any A n c true _ (by simpa using hb) hn).mono ?_
    rintro e w' ⟨rfl, rfl⟩
    go_wp2
    go_ret
    exact ⟨rfl, Below.refl _ _⟩
  · go_enter Try.func5, Try.ntmps5
    go_wp2_with fail
    refine (big_any A n c false _ (by simpa using hb) hn).mono ?_
    rintro e w' ⟨rfl, rfl⟩
    go_wp2_with fail
    refine (drawDown_any A n c _ hA (by omega)).mono ?_
    rintro e w1 ⟨N, rr, xs, a, rfl, hu, hx9, hrow, hb1⟩
    obtain ⟨R, cR, rfl, hR⟩ := owns_rd hrow
    have HR := Lib.hid (fun W (h : Below w1.heap.size w1 W) => hR.below h)
    clear hR hrow
    have hzl := downV_le N xs a
    have hq : ∃ zs, zs = downV N xs a := ⟨_, rfl⟩
    obtain ⟨zs, hz⟩ := hq
    generalize hm : xs.length = m at hx9 hzl ⊢
    rw [← hz] at hzl
    generalize hk : zs.length = k at hzl
    have HM := Lib.hid hm
    have HK := Lib.hid hk
    have HZ := Lib.hid hz
    clear hm hk hz
    go_wp2_with fail
    refine (implDown_at N R m cR k xs a zs _ (HR.out _ (below_alloc _ _)) hu HM.out hx9 HZ.out HK.out).mono ?_
    rintro e w2 ⟨Z, cZ, rfl, hZ, hb2⟩
    obtain ⟨hO, hb2'⟩ := box_own (cs := [.int .i64 N, .slice R m cR]) hb2
    have hbw := below_trans hb1 hb2'
    have HZ2 := Lib.hid (fun W (h : Below w2.heap.size w2 W) => hZ.below h)
    have HR2 := Lib.hid (fun W (h : Below w2.heap.size w2 W) => HR.out W (below_trans hb2' h))
    have HO := Lib.hid (fun W (h : Below w2.heap.size w2 W) => hO.grow h)
    obtain ⟨c0, c1⟩ := hO.two
    clear hZ hb2 hb2' hO HR
    generalize w1.heap.size = lx at *
    go_wp2_with fail
    refine (specDown_at N R m cR k xs a zs _ (HR2.out _ (Below.refl _ _)) hu HM.out hx9 HZ.out HK.out).mono ?_
    rintro e w3 ⟨Y, cY, rfl, hY, hb3⟩
    go_wp2_with fail
    refine (same_same Z Y k cZ cY zs _ (HZ2.out _ hb3) hY HK.out (by omega)).mono ?_
    rintro e w4 ⟨rfl, hb4⟩
    have hb24 := below_trans hb3 hb4
    obtain ⟨d0, d1⟩ := (HO.out _ hb24).two
    clear hY hb3 hb4 c0 c1
    by_cases hk0 : k = 0
    · subst hk0
      go_wp2_with fail
      refine (specDown_at N R m cR 0 xs a zs _ (HR2.out _ hb24) hu HM.out hx9 HZ.out HK.out).mono ?_
      rintro e w5 ⟨Y, cY, rfl, hY, hb5⟩
      go_wp2_with fail
      refine (same_same Z Y 0 cZ cY zs _ (HZ2.out _ (below_trans hb24 hb5)) hY HK.out (by omega)).mono ?_
      rintro e w6 ⟨rfl, hb6⟩
      go_wp2
      go_ret
      exact ⟨rfl, below_trans hbw (below_trans hb24 (below_trans hb5 hb6))⟩
    · have hval : LatP N xs ∧ Lab xs a := by
        refine Classical.byContradiction fun h => hk0 ?_
        rw [← HK.out, HZ.out, downV_no h]; rfl
      obtain ⟨a, rfl⟩ := Int.eq_ofNat_of_zero_le hval.2.1
      have hal : a < xs.length := by have := hval.2.2; omega
      have ez' : zs = downTo xs a xs.length := by rw [HZ.out, downV_yes hval]
      have HL := Lib.hid hval.1
      have HA' := Lib.hid hal
      have HE := Lib.hid ez'
      clear hval hal ez'
      have hk1 : (0 : Int) < (k : Int) := by omega
      obtain ⟨zd, hzd, hzc⟩ : ∃ zd, Z = some zd ∧ ∀ W, Below w2.heap.size w2 W → ∀ j, j < k → W.cell? (zd.add j) = some (.int .i64 (iat zs j)) := by
        obtain ⟨zd, e, _, _⟩ := HZ2.out w2 (Below.refl _ _) 0 _ (iz_iat (by rw [HK.out]; omega))
        refine ⟨zd, e, fun W hW j hj => ?_⟩
        obtain ⟨zd', e', _, hc⟩ := HZ2.out W hW j _ (iz_iat (by rw [HK.out]; omega))
        obtain rfl : zd = zd' := by rw [e] at e'; injection e'
        exact hc
      subst hzd
      have HC := Lib.hid hzc
      clear hzc
      go_wp2_with fail
      go_loopw [6] (fun i wr => ∃ j : Nat, j ≤ k ∧ i = .int .i64 j ∧ Below w2.heap.size w2 wr) (fun i _ => k - (intOf i).toNat)
      case atStart => exact ⟨0, Nat.zero_le _, rfl, hb24⟩
      case round =>
        clear d0 d1
        obtain ⟨j, hj, rfl, hbr⟩ := hrel
        by_cases hlt : j < k
        · have f0 : ∀ u : Bel wr, u.w.cell? ⟨lx, 0, none⟩ = some (.int .i64 N) := fun u => (HO.out _ (below_trans hbr u.ok)).two.1
          have f1 : ∀ u : Bel wr, u.w.cell? ⟨lx, 1, none⟩ = some (.slice R m cR) := fun u => (HO.out _ (below_trans hbr u.ok)).two.2
          have f2 : ∀ u : Bel wr, u.w.cell? (zd.add j) = some (.int .i64 (iat zs j)) := fun u => HC.out _ (below_trans hbr u.ok) j hlt
          have hle := Lib.hid (show leV N xs (iat zs j) a = true by
            obtain ⟨b, e, hb, hbl⟩ := down_at (xs := xs) (c := a) (k := xs.length) (i := j) (by rw [← HE.out, HK.out]; exact hlt)
            rw [HE.out, e, ← leV_yes HL.out hb HA'.out]; exact hbl)
          have HR3 := Lib.hid (fun (u : Bel wr) => HR2.out _ (below_trans hbr u.ok))
          by_cases hj0 : j = 0
          · subst hj0
            have f4 : ∀ u : Bel wr, u.w.cell? zd = some (.int .i64 (iat zs 0)) := fun u => by simpa [Addr.add] using f2 u
            go_wp2
            refine wp_region_bel (by kernel_rfl) (by kernel_rfl) ?_
            repeat (go_big_quiet_step (first | (go_at_call 29; exact bel_of _ (implLe_at N R m cR xs _ _ true _ (HR3.out _) hu HM.out hx9 hle.out))))
            refine wpQuiet_nil ?_
            rintro _ ⟨u, rfl⟩
            have hbu := below_trans hbr u.ok
            clear f0 f1 f2 f4 HR3
            go_wp2
            go_roundw
            case rel => exact ⟨0 + 1, by omega, by go_num, hbu⟩
            case measure => simp [intOf]; omega
          · obtain ⟨i, rfl⟩ : ∃ i, j = i + 1 := ⟨j - 1, by omega⟩
            have f3 : ∀ u : Bel wr, u.w.cell? (zd.add i) = some (.int .i64 (iat zs i)) := fun u => HC.out _ (below_trans hbr u.ok) i (by omega)
            have f5 : ∀ u : Bel wr, u.w.cell? ⟨zd.block, zd.off + (i + 1), none⟩ = some (.int .i64 (iat zs (i + 1))) := fun u => by simpa [Addr.add] using f2 u
            have hasc : iat zs i < iat zs (i + 1) := by
              rw [HE.out]; exact down_asc i (i + 1) (by omega) (by rw [← HE.out, HK.out]; exact hlt)
            go_wp2
            refine wp_region_bel (by kernel_rfl) (by kernel_rfl) ?_
            repeat (go_big_quiet_step (first | (go_at_call 29; exact bel_of _ (implLe_at N R m cR xs _ _ true _ (HR3.out _) hu HM.out hx9 hle.out))))
            refine wpQuiet_nil ?_
            rintro _ ⟨u, rfl⟩
            have hbu := below_trans hbr u.ok
            clear f0 f1 f2 f3 f5 HR3
            go_wp2
            go_roundw
            case rel => exact ⟨i + 1 + 1, by omega, by go_num, hbu⟩
            case measure => simp [intOf]; omega
        · obtain ⟨d0, d1⟩ := (HO.out _ hbr).two
          go_wp2_with fail
          refine (implAll_at N R m cR xs (some zd) k cZ zs a _ (HR2.out _ hbr) hu HM.out hx9 (HZ2.out _ hbr) HK.out (by omega) (by rw [HE.out]; exact down_join HL.out HA'.out)).mono ?_
          rintro e w7 ⟨rfl, hb7⟩
          go_wp2
          go_ret
          exact ⟨ret_bool (by simp), below_trans hbw (below_trans hbr hb7)⟩

end Go.Proofs.Ytandibofnpndlaa
