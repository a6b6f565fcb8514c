/-
  The law on LatEdges: at every lattice value the program's LatEdges answers as the model's, writes into no argument, and its answer is memory of its own.
-/
import Derived.Test.YtionnalaickcjaaLatEdgesB
import Derived.Deep.RegionHeld3
namespace Go.Proofs.Ytionnalaickcjaa
open Go.RowKit

set_option maxHeartbeats 2000000 in
theorem fnExactLatEdges_walk (N : Int) (A : Option Addr) (ca : Nat) (xs : List Nat) (w : World) (hA : Rd w A (us xs)) (hu : U64 xs) (hn : xs.length ≤ 9223372036854775807) :
    Calls Try.prog 14 #[.agg #[.int .i64 N, .slice A xs.length ca]] w fun e w' => e = .returned (.bool true) ∧ Below w.heap.size w w' := by
  have HA := Lib.hid (fun W (h : Below w.heap.size w W) => hA.below h)
  clear hA
  by_cases hl : xs.length ≤ 1048576
  · have e1 : less 1048576 xs.length = 1048576 - (xs.length : Int) := by simp [less]; omega
    have E1 := Lib.hid e1
    clear e1
    have hd := edgesV_le N xs
    generalize hD : edgesV N xs = zs at hd
    have HD := Lib.hid hD
    clear hD
    generalize hm : zs.length = m at hd
    have HM := Lib.hid hm
    clear hm
    go_enter Try.func14, Try.ntmps14
    go_wp2_with fail
    refine (as_int E1.out (szLat_any N A xs.length ca 1048576 _ (by omega) (by omega) hn)).mono ?_
    rintro e w1 ⟨rfl, hb⟩
    obtain ⟨ho1, hb1⟩ := box_own hb
    clear hb
    obtain ⟨c0, c1⟩ := ho1.two
    go_wp2_with fail
    clear c0 c1
    refine (toLat_at N A ca xs _ (HA.out _ hb1) hl).mono ?_
    rintro e w2 ⟨g, rfl, hr, hb⟩
    have ho2 := ho1.grow hb
    have hb2 := below_trans hb1 hb
    clear hb hb1 ho1
    go_wp2_with fail
    obtain ⟨_, _, e', hrd⟩ := hr.rd
    obtain ⟨rfl, rfl⟩ : some (⟨g, 0, none⟩ : Addr) = _ ∧ xs.length = _ := by injection e' with e1 e2 e3; exact ⟨e1, e3⟩
    refine (specLatEdges_any N (some ⟨g, 0, none⟩) xs.length xs _ hrd hu hl).mono ?_
    clear e' hr hrd
    rintro e w3 ⟨v0, rfl, r0, hb⟩
    rw [HD.out, HM.out] at r0
    replace r0 := RowAt.of r0
    obtain ⟨A0, cc0, rfl, _⟩ := r0.rd
    have ho3 := ho2.grow hb
    have hb3 := below_trans hb2 hb
    clear hb hb2 ho2
    obtain ⟨c0, c1⟩ := ho3.two
    go_wp2_with fail
    clear c0 c1
    refine (toLat_at N A ca xs _ (HA.out _ hb3) hl).mono ?_
    rintro e w4 ⟨g2, rfl, rx, hb⟩
    have hb34 := hb
    have ho4 := ho3.grow hb
    have hb4 := below_trans hb3 hb
    replace r0 := r0.grow hb
    clear hb hb3
    have s3 := ho3.lt
    have s34 := hb34.size
    clear hb34
    go_wp2_with fail
    refine (implLatEdges_any N (some ⟨g2, 0, none⟩) xs.length xs _ (rx.reads.below (below_alloc _ _)) hu hl).mono ?_
    rintro e w5 ⟨v1, rfl, r1, hb⟩
    rw [HD.out, HM.out] at r1
    replace r1 := RowAt.of r1
    rw [World.size_alloc] at r1
    obtain ⟨A1, cc1, rfl, _⟩ := r1.rd
    obtain ⟨hx5, hb45⟩ := box_own hb
    have ho5 := ho4.grow hb45
    have hb5 := below_trans hb4 hb45
    replace r0 := r0.grow hb45
    replace rx := rx.grow hb45
    have s5 := hx5.lt
    clear hb hb45 hb4 ho4 ho3
    go_wp2_with fail
    refine (eqEdgeS_same A1 A0 m cc1 cc0 zs _ r1.reads r0.reads HM.out (by omega)).mono ?_
    rintro e w6 ⟨rfl, hb⟩
    have ho6 := ho5.grow hb
    have hx6 := hx5.grow hb
    have hb6 := below_trans hb5 hb
    have s56 := hb.size
    replace r0 := r0.grow hb
    replace rx := rx.grow hb
    replace r1 := r1.grow hb
    clear hb hb5 ho5 hx5
    have k1 : ∀ W, Below w6.heap.size w6 W → W.cell? ⟨w.heap.size, 0, none⟩ = some (.int .i64 N) := fun W h => (ho6.grow h).two.1
    have k2 : ∀ W, Below w6.heap.size w6 W → W.cell? ⟨w.heap.size, 1, none⟩ = some (.slice A xs.length ca) := fun W h => (ho6.grow h).two.2
    have k3 : ∀ W, Below w6.heap.size w6 W → W.cell? ⟨w4.heap.size, 0, none⟩ = some (.int .i64 N) := fun W h => (hx6.grow h).two.1
    have k4 : ∀ W, Below w6.heap.size w6 W → W.cell? ⟨w4.heap.size, 1, none⟩ = some (.slice (some ⟨g2, 0, none⟩) xs.length xs.length) := fun W h => (hx6.grow h).two.2
    have HR := Lib.hid (fun W (h : Below w6.heap.size w6 W) => rx.reads.below h)
    have HA6 := Lib.hid (fun W (h : Below w6.heap.size w6 W) => HA.out W (below_trans hb6 h))
    go_wp2
    go_region_held3 (fun W => Below w6.heap.size w6 W) (first | exact (Below.refl _ _).drew | exact below_trans (by assumption) (by assumption))
      (first
        | (go_at_call 44; refine (toLat_any N A ca xs _ (HA6.out _ (by assumption)) hl).mono ?_; rintro e w7 ⟨g3, rfl, hg3, hown3, hb7⟩)
        | (go_at_call 38; refine (eqLat_same N _ _ _ _ xs _ (HR.out _ (by assumption)) hown3.rd (by omega)).mono ?_; rintro e w8 ⟨rfl, hb8⟩))
    have hb : Below w6.heap.size w6 w8 := by assumption
    clear hb7 hb8 hg3 hown3 k1 k2 k3 k4 HR HA6
    have ho8 := ho6.grow hb
    have hx8 := hx6.grow hb
    have hB8 := below_trans hb6 hb
    have s68 := hb.size
    replace r0 := r0.grow hb
    replace rx := rx.grow hb
    replace r1 := r1.grow hb
    clear hb hb6 ho6 hx6
    obtain ⟨c0, c1⟩ := hx8.two
    go_wp2_with fail
    clear c0 c1
    refine (markLat_at N g2 _ _ xs 1 _ rx (by omega) (by omega) hl).mono ?_
    rintro e w9 ⟨rfl, _, hO⟩
    have ho9 := ho8.only hO (.inl (by omega))
    have hB9 := below_only hB8 hO (by omega) (by omega)
    have s89 := hO.size
    replace r0 := r0.move (hO.same (.inl (by omega)) (by omega))
    replace r1 := r1.move (hO.same (.inr (by omega)) (by omega))
    clear hO hB8 ho8 hx8 rx
    go_wp2_with fail
    refine (eqEdgeS_same A1 A0 m cc1 cc0 zs _ r1.reads r0.reads HM.out (by omega)).mono ?_
    rintro e w10 ⟨rfl, hb⟩
    have ho10 := ho9.grow hb
    have hB10 := below_trans hB9 hb
    have s910 := hb.size
    replace r0 := r0.grow hb
    replace r1 := r1.grow hb
    clear hb hB9 ho9
    go_wp2_with fail
    refine (markEdgeS_at (.slice A1 m cc1) _ _ m zs 1 _ r1 (by omega) (by omega) HM.out (by omega)).mono ?_
    rintro e w11 ⟨rfl, r1m, hO⟩
    have ho11 := ho10.only hO (.inl (by omega))
    have hB11 := below_only hB10 hO (by omega) (by omega)
    have s1011 := hO.size
    replace r0 := r0.move (hO.same (.inl (by omega)) (by omega))
    clear hO hB10 ho10 r1
    go_wp2_with fail
    refine (heldEdgeS_any A1 cc1 m 1 _ r1m.reads (by omega) (by omega) (by omega)).mono ?_
    rintro e w' ⟨rfl, rfl⟩
    have hne : ((1 + ((m * 2 : Nat) : Int)) != 1 + ((m * 2 : Nat) : Int)) = false := by simp
    obtain ⟨c0, c1⟩ := ho11.two
    go_wp2_with fail
    clear c0 c1
    refine (toLat_at N A ca xs _ (HA.out _ hB11) hl).mono ?_
    rintro e w12 ⟨g4, rfl, ry, hb⟩
    have hB12 := below_trans hB11 hb
    replace r0 := r0.grow hb
    replace r1m := r1m.grow hb
    clear hb hB11 ho11
    go_wp2_with fail
    refine (implLatEdges_any N (some ⟨g4, 0, none⟩) xs.length xs _ ry.reads hu hl).mono ?_
    rintro e w13 ⟨v2, rfl, r2, hb⟩
    rw [HD.out, HM.out] at r2
    replace r2 := RowAt.of r2
    obtain ⟨A2, cc2, rfl, _⟩ := r2.rd
    have hB13 := below_trans hB12 hb
    replace r0 := r0.grow hb
    replace r1m := r1m.grow hb
    clear hb hB12 ry
    go_wp2_with fail
    refine (eqEdgeS_same A2 A0 m cc2 cc0 zs _ r2.reads r0.reads HM.out (by omega)).mono ?_
    rintro e w14 ⟨rfl, hb⟩
    have hB14 := below_trans hB13 hb
    replace r1m := r1m.grow hb
    clear hb hB13 r2 r0
    go_wp2_with fail
    refine (heldEdgeS_any A1 cc1 m 1 _ r1m.reads (by omega) (by omega) (by omega)).mono ?_
    rintro e w' ⟨rfl, rfl⟩
    go_wp2
    go_ret
    exact ⟨rfl, hB14⟩
  · have e1 : less 1048576 xs.length = -1 := by simp [less]; omega
    go_enter Try.func14, Try.ntmps14
    go_wp2_with fail
    refine (as_int e1 (szLat_any N A xs.length ca 1048576 _ (by omega) (by omega) hn)).mono ?_
    rintro e w1 ⟨rfl, hb1⟩
    go_wp2
    go_ret
    exact ⟨rfl, (box_own hb1).2⟩
end Go.Proofs.Ytionnalaickcjaa
