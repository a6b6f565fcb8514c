/-
  The law on MarkIdle: at every marks value, int and bool the program answers as the model, writes into no argument, and its answer owns its memory. By genmark.py.
-/
import Derived.Test.YtmipieoglcefkaaMarkSetT
import Derived.Test.YtmipieoglcefkaaMarkSetK
import Derived.Test.YtmipieoglcefkaaLawMarks
namespace Go.Proofs.Ytmipieoglcefkaa
open Go.RowKit

theorem idleG_len (G : Int) (ms : List Mk) (src : Int) (i : Bool) : (idleG G ms src i).2.1.length ≤ ms.length := by
  unfold idleG
  split
  · simp [withM]
  · simp
theorem toMarks_atMarkIdle (G : Int) (A : Option Addr) (n ca : Nat) (ms : List Mk) (w : World) (hA : Rd w A (mz ms)) (hz : ms.length = n) (hn : n ≤ 1048576) :
    Calls Try.prog 27 #[msv G (.slice A n ca)] w fun e w' => ∃ g, e = .returned (msv G (.slice (some ⟨g, 0, none⟩) n n)) ∧ RowAt w.heap.size w'.heap.size w' 36 2 (.slice (some ⟨g, 0, none⟩) n n) n (mz ms) ∧ Below w.heap.size w w' :=
  (toMarks_any G A n ca ms w hA hz hn).mono fun _ _ ⟨g, he, hg, hown, hb⟩ => ⟨g, he, RowAt.of (hown.ownsS hg (by rw [mz_length, hz]) hn), hb⟩

set_option maxRecDepth 100000 in
set_option maxHeartbeats 4000000 in
theorem fnExactMarkIdle_walk (G : Int) (A : Option Addr) (ca : Nat) (ms : List Mk) (src : Int) (i : Bool) (w : World) (hA : Rd w A (mz ms)) (hn : ms.length ≤ 9223372036854775807) :
    Calls Try.prog 7 #[msv G (.slice A ms.length ca), .int .i64 src, .bool i] w fun e w' => e = .returned (.bool true) ∧ Below w.heap.size w w' := by
  have HA := Lib.hid (fun W (h : Below w.heap.size w W) => hA.below h)
  clear hA
  by_cases hl : (ms.length : Int) ≤ 1048576
  · have E1 := Lib.hid (show lessF 1048576 ms.length = 1048576 - (ms.length : Int) by simp [lessF]; omega)
    have hl2 : ms.length ≤ 1048576 := by omega
    have hlen := idleG_len G ms src i
    have HS0 := Lib.hid (fun A' ca' W (h : Rd W A' (mz ms)) => specMarkIdle_any G A' ms.length ca' ms src i W h rfl hl2)
    have HI0 := Lib.hid (fun A' ca' W (h : Rd W A' (mz ms)) => implMarkIdle_any G A' ms.length ca' ms src i W h rfl hl2)
    generalize idleG G ms src i = R at *
    obtain ⟨M, rs, q⟩ := R
    obtain ⟨m, HM⟩ : ∃ m, Hid (rs.length = m) := ⟨_, Lib.hid rfl⟩
    have hm : m ≤ 1048576 := by have := HM.out; have : rs.length ≤ ms.length := hlen; omega
    have HS := Lib.hid (show ∀ A' ca' W, Rd W A' (mz ms) → Calls Try.prog 18 #[msv G (.slice A' ms.length ca'), .int .i64 src, .bool i] W fun e w' => ∃ A c, e = .returned (.tuple #[msv M (.slice A m c), .int .i64 q]) ∧ RowAt W.heap.size w'.heap.size w' 36 2 (.slice A m c) m (mz rs) ∧ Below W.heap.size W w' from fun A' ca' W h => by have := HS0.out A' ca' W h; unfold MkRes at this; simp only [HM.out] at this; exact this)
    have HI := Lib.hid (show ∀ A' ca' W, Rd W A' (mz ms) → Calls Try.prog 17 #[msv G (.slice A' ms.length ca'), .int .i64 src, .bool i] W fun e w' => ∃ A c, e = .returned (.tuple #[msv M (.slice A m c), .int .i64 q]) ∧ RowAt W.heap.size w'.heap.size w' 36 2 (.slice A m c) m (mz rs) ∧ Below W.heap.size W w' from fun A' ca' W h => by have := HI0.out A' ca' W h; unfold MkRes at this; simp only [HM.out] at this; exact this)
    obtain ⟨q1, HQ⟩ : ∃ q1 : Int, Hid (1 + ((m * 2 : Nat) : Int) = q1) := ⟨_, Lib.hid rfl⟩
    obtain ⟨q0, HQ0⟩ : ∃ q0 : Int, Hid (1 + ((ms.length * 2 : Nat) : Int) = q0) := ⟨_, Lib.hid rfl⟩
    have hne0 : (q != q) = false := by simp
    have hne2 : (q1 != q1) = false := by simp
    have hpos2 : decide (q1 < 0) = false := by have := HQ.out; simp; omega
    have hpos0 : decide (q0 < 0) = false := by have := HQ0.out; simp; omega
    have hp2 : ¬ q1 < 0 := by have := HQ.out; omega
    have hp0 : ¬ q0 < 0 := by have := HQ0.out; omega
    clear HS0 HI0 hlen
    go_enter Try.func7, Try.ntmps7
    go_wp2_with fail
    refine (as_int E1.out (szMarks_any G A ms.length ca 1048576 _ (by omega) (by omega) hn)).mono ?_
    rintro e w1 ⟨rfl, hb1⟩
    obtain ⟨ho, hb⟩ := box_own hb1
    clear hb1
    have z1 := ho.lt
    obtain ⟨c0, c1⟩ := ho.two
    go_wp2_with fail
    clear c0 c1
    refine (toMarks_any G A ms.length ca ms _ (HA.out _ hb) rfl hl2).mono ?_
    rintro e w2 ⟨g2, rfl, hg2, hown2, hb2⟩
    have z2 := hb2.size
    replace ho := ho.grow hb2
    replace hb := below_trans hb hb2
    clear hb2 hg2
    go_wp2_with fail
    refine (HS.out _ _ _ hown2.rd).mono ?_
    rintro e w3 ⟨A0, c0, rfl, r0, hb3⟩
    have z3 := hb3.size
    replace ho := ho.grow hb3
    replace hb := below_trans hb hb3
    clear hb3 hown2
    have b8 := Own.new w3 26 [.int .i64 M, .slice A0 m c0]
    replace ho := ho.grow (below_alloc w3 (.cells #[.int .i64 M, .slice A0 m c0] 26))
    replace r0 := r0.grow (below_alloc w3 (.cells #[.int .i64 M, .slice A0 m c0] 26))
    replace hb := below_trans hb (below_alloc w3 (.cells #[.int .i64 M, .slice A0 m c0] 26))
    obtain ⟨c0', c1'⟩ := ho.two
    go_wp2_with fail
    clear c0' c1'
    refine (toMarks_atMarkIdle G A ms.length ca ms _ (HA.out _ hb) rfl hl2).mono ?_
    rintro e w4 ⟨g4, rfl, rx, hb4⟩
    rw [World.size_alloc] at rx
    have z4 := hb4.size
    rw [World.size_alloc] at z4
    replace ho := ho.grow hb4
    replace r0 := r0.grow hb4
    replace b8 := b8.grow hb4
    replace hb := below_trans hb hb4
    clear hb4
    have b10 := Own.new w4 26 [.int .i64 G, .slice (some ⟨g4, 0, none⟩) ms.length ms.length]
    replace ho := ho.grow (below_alloc w4 (.cells #[.int .i64 G, .slice (some ⟨g4, 0, none⟩) ms.length ms.length] 26))
    replace r0 := r0.grow (below_alloc w4 (.cells #[.int .i64 G, .slice (some ⟨g4, 0, none⟩) ms.length ms.length] 26))
    replace b8 := b8.grow (below_alloc w4 (.cells #[.int .i64 G, .slice (some ⟨g4, 0, none⟩) ms.length ms.length] 26))
    replace rx := rx.grow (below_alloc w4 (.cells #[.int .i64 G, .slice (some ⟨g4, 0, none⟩) ms.length ms.length] 26))
    replace hb := below_trans hb (below_alloc w4 (.cells #[.int .i64 G, .slice (some ⟨g4, 0, none⟩) ms.length ms.length] 26))
    have hrx := rx.reads
    obtain ⟨c0', c1'⟩ := b10.two
    go_wp2_with fail
    clear c0' c1'
    refine (HI.out _ _ _ hrx).mono ?_
    rintro e w5 ⟨A1, c1, rfl, r1, hb5⟩
    rw [World.size_alloc] at r1
    have z5 := hb5.size
    rw [World.size_alloc] at z5
    replace ho := ho.grow hb5
    replace r0 := r0.grow hb5
    replace b8 := b8.grow hb5
    replace rx := rx.grow hb5
    replace b10 := b10.grow hb5
    replace hb := below_trans hb hb5
    clear hb5 hrx
    have b11 := Own.new w5 26 [.int .i64 M, .slice A1 m c1]
    replace ho := ho.grow (below_alloc w5 (.cells #[.int .i64 M, .slice A1 m c1] 26))
    replace r0 := r0.grow (below_alloc w5 (.cells #[.int .i64 M, .slice A1 m c1] 26))
    replace b8 := b8.grow (below_alloc w5 (.cells #[.int .i64 M, .slice A1 m c1] 26))
    replace rx := rx.grow (below_alloc w5 (.cells #[.int .i64 M, .slice A1 m c1] 26))
    replace b10 := b10.grow (below_alloc w5 (.cells #[.int .i64 M, .slice A1 m c1] 26))
    replace r1 := r1.grow (below_alloc w5 (.cells #[.int .i64 M, .slice A1 m c1] 26))
    replace hb := below_trans hb (below_alloc w5 (.cells #[.int .i64 M, .slice A1 m c1] 26))
    obtain ⟨d0, d1⟩ := b11.two
    obtain ⟨d2, d3⟩ := b8.two
    go_wp2_with fail
    clear d0 d1 d2 d3
    refine (eqMarks_same M A1 A0 m c1 c0 rs _ r1.reads r0.reads HM.out hm).mono ?_
    rintro e w6 ⟨rfl, hb6⟩
    have z6 := hb6.size
    rw [World.size_alloc] at z6
    replace ho := ho.grow hb6
    replace r0 := r0.grow hb6
    replace b8 := b8.grow hb6
    replace rx := rx.grow hb6
    replace b10 := b10.grow hb6
    replace r1 := r1.grow hb6
    replace b11 := b11.grow hb6
    replace hb := below_trans hb hb6
    clear hb6
    have k1 : ∀ W, Below w6.heap.size w6 W → W.cell? ⟨w.heap.size, 0, none⟩ = some (.int .i64 G) := fun W h => (ho.grow h).two.1
    have k2 : ∀ W, Below w6.heap.size w6 W → W.cell? ⟨w.heap.size, 1, none⟩ = some (.slice A ms.length ca) := fun W h => (ho.grow h).two.2
    have k3 : ∀ W, Below w6.heap.size w6 W → W.cell? ⟨w4.heap.size, 0, none⟩ = some (.int .i64 G) := fun W h => (b10.grow h).two.1
    have k4 : ∀ W, Below w6.heap.size w6 W → W.cell? ⟨w4.heap.size, 1, none⟩ = some (.slice (some ⟨g4, 0, none⟩) ms.length ms.length) := fun W h => (b10.grow h).two.2
    have HRd := Lib.hid (fun W (h : Below w6.heap.size w6 W) => rx.reads.below h)
    have HA5 := Lib.hid (fun W (h : Below w6.heap.size w6 W) => HA.out W (below_trans hb h))
    go_wp2
    go_region_held3 (fun W => Below w6.heap.size w6 W) (first | exact (Below.refl _ _).drew | exact below_trans (by assumption) (by assumption))
      (first
        | (go_at_call 27; refine (toMarks_any G A ms.length ca ms _ (HA5.out _ (by assumption)) rfl hl2).mono ?_; rintro e w8 ⟨g8, rfl, hg8, hown8, hb8⟩)
        | (go_at_call 23; refine (eqMarks_same G _ _ ms.length _ _ ms _ (HRd.out _ (by assumption)) hown8.rd rfl hl2).mono ?_; rintro e w7 ⟨rfl, hb9⟩))
    have hB7 : Below w6.heap.size w6 w7 := by assumption
    clear hb8 hb9 hg8 hown8 HRd HA5 k1 k2 k3 k4
    have z7 := hB7.size
    replace ho := ho.grow hB7
    replace r0 := r0.grow hB7
    replace b8 := b8.grow hB7
    replace rx := rx.grow hB7
    replace b10 := b10.grow hB7
    replace r1 := r1.grow hB7
    replace b11 := b11.grow hB7
    replace hb := below_trans hb hB7
    clear hB7
    obtain ⟨d0, d1⟩ := b10.two
    go_wp2_with fail
    clear d0 d1
    refine (as_int HQ0.out (markMarks_at G _ _ _ _ ms.length ms 1 _ rx (by omega) (by omega) rfl hl2)).mono ?_
    rintro e w9 ⟨rfl, _, hO⟩
    have z9 := hO.size
    replace ho := ho.only hO (.inl (by omega))
    replace r0 := r0.move (hO.same (.inl (by omega)) (by omega))
    replace b8 := b8.only hO (.inl (by omega))
    replace b10 := b10.only hO (.inr (by omega))
    replace r1 := r1.move (hO.same (.inr (by omega)) (by omega))
    replace b11 := b11.only hO (.inr (by omega))
    replace hb := below_only hb hO (by omega) (by omega)
    clear hO rx b10
    obtain ⟨d0, d1⟩ := b11.two
    obtain ⟨d2, d3⟩ := b8.two
    go_wp2_with fail
    clear d0 d1 d2 d3
    refine (eqMarks_same M A1 A0 m c1 c0 rs _ r1.reads r0.reads HM.out hm).mono ?_
    rintro e w10 ⟨rfl, hb10⟩
    have z10 := hb10.size
    replace ho := ho.grow hb10
    replace r0 := r0.grow hb10
    replace b8 := b8.grow hb10
    replace r1 := r1.grow hb10
    replace b11 := b11.grow hb10
    replace hb := below_trans hb hb10
    clear hb10
    obtain ⟨d0, d1⟩ := b11.two
    go_wp2_with fail
    clear d0 d1
    refine (as_int HQ.out (markMarks_at M A1 c1 _ _ m rs 1 _ r1 (by omega) (by omega) HM.out hm)).mono ?_
    rintro e w11 ⟨rfl, r1m, hO⟩
    have z11 := hO.size
    replace ho := ho.only hO (.inl (by omega))
    replace r0 := r0.move (hO.same (.inl (by omega)) (by omega))
    replace b8 := b8.only hO (.inl (by omega))
    replace b11 := b11.only hO (.inr (by omega))
    replace hb := below_only hb hO (by omega) (by omega)
    clear hO r1
    obtain ⟨d0, d1⟩ := b11.two
    go_wp2_with fail
    clear d0 d1
    refine (as_int HQ.out (heldMarks_any M A1 c1 m 1 _ r1m.reads (by omega) (by omega) hm)).mono ?_
    rintro e w12 ⟨rfl, hb12⟩
    have z12 := hb12.size
    replace ho := ho.grow hb12
    replace r0 := r0.grow hb12
    replace b8 := b8.grow hb12
    replace b11 := b11.grow hb12
    replace r1m := r1m.grow hb12
    replace hb := below_trans hb hb12
    clear hb12
    obtain ⟨d0, d1⟩ := ho.two
    go_wp2_with fail
    clear d0 d1
    refine (toMarks_any G A ms.length ca ms _ (HA.out _ hb) rfl hl2).mono ?_
    rintro e w13 ⟨g13, rfl, hg13, hown13, hb13⟩
    have z13 := hb13.size
    replace ho := ho.grow hb13
    replace r0 := r0.grow hb13
    replace b8 := b8.grow hb13
    replace b11 := b11.grow hb13
    replace r1m := r1m.grow hb13
    replace hb := below_trans hb hb13
    clear hb13 hg13
    go_wp2_with fail
    refine (HI.out _ _ _ hown13.rd).mono ?_
    rintro e w14 ⟨A2, c2, rfl, r2, hb14⟩
    have z14 := hb14.size
    replace ho := ho.grow hb14
    replace r0 := r0.grow hb14
    replace b8 := b8.grow hb14
    replace b11 := b11.grow hb14
    replace r1m := r1m.grow hb14
    replace hb := below_trans hb hb14
    clear hb14 hown13
    have b16 := Own.new w14 26 [.int .i64 M, .slice A2 m c2]
    replace ho := ho.grow (below_alloc w14 (.cells #[.int .i64 M, .slice A2 m c2] 26))
    replace r0 := r0.grow (below_alloc w14 (.cells #[.int .i64 M, .slice A2 m c2] 26))
    replace b8 := b8.grow (below_alloc w14 (.cells #[.int .i64 M, .slice A2 m c2] 26))
    replace b11 := b11.grow (below_alloc w14 (.cells #[.int .i64 M, .slice A2 m c2] 26))
    replace r1m := r1m.grow (below_alloc w14 (.cells #[.int .i64 M, .slice A2 m c2] 26))
    replace r2 := r2.grow (below_alloc w14 (.cells #[.int .i64 M, .slice A2 m c2] 26))
    replace hb := below_trans hb (below_alloc w14 (.cells #[.int .i64 M, .slice A2 m c2] 26))
    obtain ⟨d0, d1⟩ := b16.two
    obtain ⟨d2, d3⟩ := b8.two
    go_wp2_with fail
    clear d0 d1 d2 d3
    refine (eqMarks_same M A2 A0 m c2 c0 rs _ r2.reads r0.reads HM.out hm).mono ?_
    rintro e w15 ⟨rfl, hb15⟩
    have z15 := hb15.size
    rw [World.size_alloc] at z15
    replace ho := ho.grow hb15
    replace r0 := r0.grow hb15
    replace b8 := b8.grow hb15
    replace b11 := b11.grow hb15
    replace r1m := r1m.grow hb15
    replace r2 := r2.grow hb15
    replace b16 := b16.grow hb15
    replace hb := below_trans hb hb15
    clear hb15
    obtain ⟨d0, d1⟩ := b11.two
    go_wp2_with fail
    clear d0 d1
    refine (as_int HQ.out (heldMarks_any M A1 c1 m 1 _ r1m.reads (by omega) (by omega) hm)).mono ?_
    rintro e w16 ⟨rfl, hb16⟩
    have z16 := hb16.size
    replace ho := ho.grow hb16
    replace r0 := r0.grow hb16
    replace b8 := b8.grow hb16
    replace b11 := b11.grow hb16
    replace r1m := r1m.grow hb16
    replace r2 := r2.grow hb16
    replace b16 := b16.grow hb16
    replace hb := below_trans hb hb16
    clear hb16
    clear ho r0 b8 b11 r1m r2 b16
    go_wp2
    go_ret
    exact ⟨rfl, hb⟩
  · have e1 : lessF 1048576 ms.length = -1 := by simp [lessF]; omega
    go_enter Try.func7, Try.ntmps7
    go_wp2_with fail
    refine (as_int e1 (szMarks_any G A ms.length ca 1048576 _ (by omega) (by omega) hn)).mono ?_
    rintro e w1 ⟨rfl, hb1⟩
    go_wp2
    go_ret
    exact ⟨rfl, (box_own hb1).2⟩
end Go.Proofs.Ytmipieoglcefkaa
