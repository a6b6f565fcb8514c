/-
  The model's WideText.
-/
import Derived.Test.YtmkfmohahfaemaaDoorTextDec
import Derived.Test.YtmkfmohahfaemaaDoorByteInfo
import Derived.Test.YtmkfmohahfaemaaDoorWideBitsB
import Derived.Laws.BytesArg
namespace Go.Proofs.YtmkfmohahfaemaaDoor
open Go.RowKit

theorem l02Bits_z (ah al x : Int) (Z : Nat) (w : World) (e1 : ah = hi x) (e2 : al = lo x) (hx : x = (Z : Int)) (hZ : Z < 2 ^ 128) :
    Calls Tryd.prog 64 #[.agg #[.int .i64 ah, .int .u64 al]] w (BitsRes w Z) := by
  have := l02Bits_any ah al (Z / 18446744073709551616) (Z % 18446744073709551616) w (by rw [e1, hx, wrapU]; unfold hi; omega) (by rw [e2, hx]; unfold lo; omega) (by omega) (by omega)
  rwa [show Z / 18446744073709551616 * 18446744073709551616 + Z % 18446744073709551616 = Z by omega] at this

/-- some bit of Q below j is set -/
def mr (Q j : Nat) : Bool := decide (Q % 2 ^ j ≠ 0)
theorem mr_zero (Q : Nat) : mr Q 0 = false := by simp [mr, Nat.mod_one]
theorem mod_step (Q j : Nat) : Q % 2 ^ (j + 1) = bit Q j * 2 ^ j + Q % 2 ^ j := by
  unfold bit
  rw [Nat.pow_succ, Nat.mod_mul, Nat.mul_comm, Nat.add_comm]
theorem mr_old {Q j : Nat} (h : mr Q j = true) : mr Q (j + 1) = true := by
  unfold mr at *
  rw [mod_step]
  simp at h ⊢
  omega
theorem mr_bit {Q j : Nat} (h : mr Q j = false) : mr Q (j + 1) = ((bit Q j : Int) == 1) := by
  have hb := bitN_lt Q j
  unfold mr at *
  rw [mod_step]
  have hp : 0 < 2 ^ j := Nat.pow_pos (by omega)
  simp at h
  rw [h]
  rcases (show bit Q j = 0 ∨ bit Q j = 1 by omega) with e | e <;> rw [e] <;> simp <;> omega
theorem mr_end {Q : Nat} (h : Q < 2 ^ 128) : mr Q 128 = decide (Q ≠ 0) := by
  unfold mr; rw [Nat.mod_eq_of_lt h]

theorem text_step {Z0 Z : Nat} {out : List UInt8} (h : dec Z0 = dec Z ++ out) : (Z / 10 ≠ 0 → dec Z0 = dec (Z / 10) ++ (dby (Z % 10) :: out)) ∧ (Z / 10 = 0 → dec Z0 = dby (Z % 10) :: out) := by
  constructor
  · intro h1
    rw [h, dec_big (by omega)]; simp
  · intro h1
    rw [h, dec_small (by omega), show Z % 10 = Z by omega]; simp

theorem add_flat (g i : Nat) : (⟨g, 0, none⟩ : Addr).add i = ⟨g, 0 + i, none⟩ := by unfold Addr.add; split <;> simp_all
theorem convert_text {W : World} {B g n c : Nat} {out : List UInt8} (h : W.ownsRow B 5 1 (.slice (some ⟨g, 0, none⟩) n c) n (Lib.byteCells out)) :
    (convert 22 9 (.slice (some ⟨g, 0, none⟩) n c)).run Tryd.prog W = .ok (.string ⟨out.toArray⟩) W := by
  have hl := h.1
  simp [Lib.byteCells] at hl
  obtain ⟨A, c', e, hr⟩ := owns_rd h
  obtain ⟨rfl, -, rfl⟩ : some (⟨g, 0, none⟩ : Addr) = A ∧ n = n ∧ c = c' := by simpa using e
  have := run_convert_bytes_arg (P := Tryd.prog) W 22 5 Tryd.underlying22 Tryd.underlying5 g 0 n c (out.map fun b => (b.toNat : Int)) (by simpa using hl) (by
    intro i hi
    have hio : i < out.length := by omega
    obtain ⟨ad, e', _, hc⟩ := hr i (.int .u8 ((out[i]).toNat : Int)) (by simp [Lib.byteCells, hio])
    obtain rfl : (⟨g, 0, none⟩ : Addr) = ad := by injection e'
    rw [add_flat] at hc; simpa [hio] using hc) 9 Tryd.underlying9
  rw [this]
  simp [strOfNums, Function.comp_def]

theorem dec_len' {Z : Nat} (h : Z < 2 ^ 128) : (dec Z).length ≤ 39 := by
  by_cases h0 : Z = 0
  · subst h0; rw [dec_small (by omega)]; simp
  · exact dec_len (by omega) h0
theorem row_news {wr W : World} {B g n c : Nat} {out : List UInt8} (h : wr.ownsRow B 5 1 (.slice (some ⟨g, 0, none⟩) n c) n (Lib.byteCells out)) (hb : Below wr.heap.size wr W) : ∀ j u, (Lib.byteCells out)[j]? = some u → W.cell? ((⟨g, 0, none⟩ : Addr).add j) = some u := by
  obtain ⟨A, c', e, hr⟩ := owns_rd h
  obtain ⟨rfl, -, rfl⟩ : some (⟨g, 0, none⟩ : Addr) = A ∧ n = n ∧ c = c' := by simpa using e
  intro j u hu
  obtain ⟨ad, e', _, hc⟩ := (hr.below hb) j u hu
  obtain rfl : (⟨g, 0, none⟩ : Addr) = ad := by injection e'
  exact hc
theorem bytes_one (out : List UInt8) : ∀ u ∈ Lib.byteCells out, u.oneCell' = true := by
  intro u hu
  simp only [Lib.byteCells, List.mem_map] at hu
  obtain ⟨_, _, rfl⟩ := hu
  rfl
theorem row_some {W : World} {B n : Nat} {e : TypeId} {v : Value} {cs : List Value} (h : W.ownsRow B e 1 v n cs) (hne : v ≠ .slice none 0 0) : ∃ g c, v = .slice (some ⟨g, 0, none⟩) n c := by
  rcases h.2 with ⟨rfl, _⟩ | ⟨g, cap, _, rfl, _⟩
  · exact absurd rfl hne
  · exact ⟨g, cap, rfl⟩
theorem own_nil {base : Nat} (W : World) (h : base ≤ W.heap.size) : (W.alloc (.cells #[] 5)).ownsRow base 5 1 (.slice (some ⟨W.heap.size, 0, none⟩) 0 0) 0 (Lib.byteCells []) :=
  (Own.new W 5 []).owns h rfl (by omega)

def rlen : Value → Nat
  | .slice _ n _ => n
  | _ => 0

set_option maxRecDepth 100000 in
set_option maxHeartbeats 1000000 in
theorem specWideText_pos (ah al : Int) (Z0 : Nat) (w : World) (hZ : Z0 < 2 ^ 128) (hn0 : ¬ ah < 0) (HB : Hid (∀ W, Calls Tryd.prog 64 #[.agg #[.int .i64 ah, .int .u64 al]] W (BitsRes W Z0))) :
    Calls Tryd.prog 56 #[.agg #[.int .i64 ah, .int .u64 al]] w fun e w' => e = .returned (.string ⟨(dec Z0).toArray⟩) ∧ Below w.heap.size w w' := by
  obtain ⟨i0, hi, hz0, hz1, hz2⟩ := info_parts info_byte
  have HI := Lib.hid (And.intro hi (And.intro hz0 (And.intro hz1 hz2)))
  have HZ := Lib.hid hZ
  clear hi hz0 hz1 hz2 hZ
  go_enter Tryd.func56, Tryd.ntmps56
  go_wp2_with fail
  refine (HB.out _).mono ?_
  rintro e w1 ⟨A, cc, rfl, hrd, hb1⟩
  have o1 := (Own.new w 63 [.int .i64 ah, .int .u64 al]).grow hb1
  replace hb1 := below_trans (below1 _ _) hb1
  obtain ⟨c0, c1⟩ := o1.two
  go_wp2
  clear c0 c1
  go_loopw [3, 4, 5] (fun b o m wr => ∃ (A : Option Addr) (cb Z g n c : Nat) (out : List UInt8) (mb : Bool), b = .slice A 128 cb ∧ o = .slice (some ⟨g, 0, none⟩) n c ∧ m = .bool mb ∧ n ≤ 39 ∧ Rd wr A (iz (bitsTo Z 128)) ∧ wr.ownsRow w.heap.size 5 1 (.slice (some ⟨g, 0, none⟩) n c) n (Lib.byteCells out) ∧ Own wr w.heap.size 63 [.int .i64 ah, .int .u64 al] ∧ Hid (Z < 2 ^ 128 ∧ (mb = true → dec Z0 = dec Z ++ out) ∧ (mb = false → dec Z0 = out)) ∧ Below w.heap.size w wr) (fun _ o _ _ => 50 - rlen o)
  case atStart => exact ⟨A, cc, Z0, _, 0, 0, [], true, rfl, rfl, rfl, by omega, hrd.below (below_alloc _ _), own_nil _ hb1.size, o1.alloc _, Lib.hid ⟨HZ.out, fun _ => by simp, fun h => by cases h⟩, hb1.alloc hb1.size _⟩
  case round =>
    clear hrd o1 hb1 HB
    obtain ⟨A, cb, Z, g, n, c, out, mb, rfl, rfl, rfl, hn, hrd, hrow, hown, hnum, hbel⟩ := hrel
    cases mb
    · have hcv := convert_text hrow
      obtain ⟨c0, c1⟩ := hown.two
      go_wp2
      go_ret
      exact ⟨by rw [hnum.out.2.2 trivial]; rfl, hbel⟩
    · have HD := Lib.hid (fun W (h : Below wr.heap.size wr W) => l02Divide_any A cb Z 10 W (hrd.below h) hnum.out.1 (by omega) (by omega))
      have HN := Lib.hid (And.intro (show Z / 10 < 2 ^ 128 by have := hnum.out.1; omega) (text_step (hnum.out.2.1 rfl)))
      have hdb := dby_nat (show Z % 10 < 10 by omega)
      have hr0 : (0 : Int) ≤ ((Z % 10 : Nat) : Int) := by omega
      have hr1 : ((Z % 10 : Nat) : Int) ≤ 9 := by omega
      have hwr : IntKind.u8.wrap (48 + ((Z % 10 : Nat) : Int)) = ((dby (Z % 10)).toNat : Int) := by rw [hdb, IntKind.wrap_u8]; omega
      clear hnum hdb hrd
      generalize dby (Z % 10) = d at *
      revert HD HN
      generalize Z / 10 = Q
      revert hr0 hr1 hwr
      generalize Z % 10 = rn
      intro hr0 hr1 hwr HD HN
      go_wp2_with fail
      refine (HD.out _ (Below.refl _ _)).mono ?_
      clear HD
      rintro e w2 ⟨gq, rfl, hgq, hq, hb2⟩
      generalize (rn : Int) = r at *
      have hB2 : w.heap.size ≤ w2.heap.size := Nat.le_trans hbel.size hb2.size
      have hnew := (Own.new w2 5 [.int .u8 (d.toNat : Int)]).owns (n := 1) hB2 rfl (by omega)
      go_wp2_with (at_builtin; refine wpList_append_own _ rfl _ _ 22 rfl w.heap.size 5 i0 (.int .u8 0) 1 1 Tryd.underlying22 HI.out.1 HI.out.2.1 HI.out.2.2.1 HI.out.2.2.2 rfl (by decide) (.slice (some ⟨w2.heap.size, 0, none⟩) 1 1) 1 [.int .u8 (d.toNat : Int)] rfl hnew ⟨g, 0, none⟩ n c (Lib.byteCells out) rfl ?c6 ?c1 ?c2 ?c3 ?c4 ?c5 ?_)
      case c6 => simpa using hrow.1
      case c1 => exact row_news hrow (below_trans hb2 (below_alloc _ _))
      case c2 => exact bytes_one out
      case c3 => unfold maxLen; omega
      case c4 => omega
      case c5 => simp; omega
      have hlen : out.length = n := by have := hrow.1; simpa [Lib.byteCells] using this
      intro v' w3 hrow' hgrow hnil
      have hb3 : Below w2.heap.size w2 w3 := (below_alloc w2 _).grown hgrow (by simp) (fun k hk => by simp [Value.ownBlock] at hk; omega)
      have hne : v' ≠ .slice none 0 0 := by simpa using hnil
      obtain ⟨g', c', rfl⟩ := row_some hrow' hne
      have hq3 := hq.grow hb3
      have hb13 := below_trans hb2 hb3
      have hown3 := hown.grow hb13
      have hbel3 : Below w.heap.size w w3 := below_trans hbel hb13
      clear hnil hne hgrow hb3 hb2 hq hnew hown hrow hwr hbel hB2 hb13
      go_wp2
      go_loopw [5, 8] (fun m i wq => ∃ j : Nat, j ≤ 128 ∧ i = .int .i64 (j : Int) ∧ m = .bool (mr Q j) ∧ w3 = wq) (fun _ i _ => (128 - intOf i).toNat)
      case atStart => exact ⟨0, by omega, rfl, by rw [mr_zero], rfl⟩
      case round =>
        obtain ⟨j, hj, rfl, rfl, rfl⟩ := hrel
        rcases Nat.lt_or_ge j 128 with hl | hl
        · have hc : w3.cell? ⟨gq, j, none⟩ = some (.int .i64 (bit Q j : Int)) := by
            rw [hq3.cell, iz_at (by rw [bitsTo_length]; exact hl)]; exact congrArg (fun z => some (Value.int .i64 z)) (bitsTo_at hl)
          cases hm : mr Q j
          · have HM := Lib.hid (mr_bit hm)
            revert HM hc
            generalize (bit Q j : Int) = bj
            intro hc HM
            clear hm
            go_wp2
            go_roundw
            case rel => exact ⟨j + 1, by omega, rfl, by rw [HM.out], trivial⟩
            case measure => simp [intOf]; omega
          · have HM := Lib.hid (mr_old hm)
            revert HM hc
            generalize (bit Q j : Int) = bj
            intro hc HM
            clear hm
            go_wp2
            go_roundw
            case rel => exact ⟨j + 1, by omega, rfl, by rw [HM.out], trivial⟩
            case measure => simp [intOf]; omega
        · obtain rfl : j = 128 := by omega
          have HM := Lib.hid (mr_end HN.out.1)
          clear hl hj
          go_wp2
          go_roundw
          case rel =>
            refine ⟨some ⟨gq, 0, none⟩, 128, Q, g', 1 + n, c', d :: out, decide (Q ≠ 0), rfl, rfl, by rw [HM.out], ?_, hq3.rd, hrow', hown3, Lib.hid ⟨HN.out.1, fun h => HN.out.2.1 (by simpa using h), fun h => HN.out.2.2 (by simpa using h)⟩, hbel3⟩
            have h39 := dec_len' HZ.out
            by_cases h0 : Q = 0
            · have h1 := congrArg List.length (HN.out.2.2 h0)
              simp only [List.length_cons] at h1
              omega
            · have h1 := congrArg List.length (HN.out.2.1 h0)
              simp only [List.length_cons, List.length_append] at h1
              omega
          case measure => simp [rlen]; omega

set_option maxRecDepth 100000 in
set_option maxHeartbeats 1000000 in
theorem specWideText_neg (ah al bh bl : Int) (Z0 Z1 : Nat) (w : World) (hZ : Z0 < 2 ^ 128) (hn0 : ah < 0) (HA : Hid (∀ W, Calls Tryd.prog 64 #[.agg #[.int .i64 ah, .int .u64 al]] W (BitsRes W Z1))) (HN0 : Hid (∀ W, Calls Tryd.prog 54 #[.agg #[.int .i64 ah, .int .u64 al]] W (WideRes W bh bl))) (HB : Hid (∀ W, Calls Tryd.prog 64 #[.agg #[.int .i64 bh, .int .u64 bl]] W (BitsRes W Z0))) :
    Calls Tryd.prog 56 #[.agg #[.int .i64 ah, .int .u64 al]] w fun e w' => e = .returned (.string ⟨(45 :: dec Z0).toArray⟩) ∧ Below w.heap.size w w' := by
  obtain ⟨i0, hi, hz0, hz1, hz2⟩ := info_parts info_byte
  have HI := Lib.hid (And.intro hi (And.intro hz0 (And.intro hz1 hz2)))
  have HZ := Lib.hid hZ
  clear hi hz0 hz1 hz2 hZ
  go_enter Tryd.func56, Tryd.ntmps56
  go_wp2_with fail
  refine (HA.out _).mono ?_
  rintro e w1 ⟨A1, c1, rfl, -, hb1⟩
  have o1 := (Own.new w 63 [.int .i64 ah, .int .u64 al]).grow hb1
  replace hb1 := below_trans (below1 _ _) hb1
  obtain ⟨c0, c1⟩ := o1.two
  go_wp2_with fail
  refine (HN0.out _).mono ?_
  rintro e w2 ⟨rfl, hb2⟩
  replace o1 := o1.grow hb2
  replace hb1 := below_trans hb1 hb2
  clear c0 c1 hb2
  go_wp2_with fail
  refine (HB.out _).mono ?_
  rintro e w3 ⟨A, cc, rfl, hrd, hb2⟩
  replace o1 := o1.grow hb2
  replace hb1 := below_trans hb1 hb2
  clear hb2
  go_wp2
  go_loopw [3, 4, 5] (fun b o m wr => ∃ (A : Option Addr) (cb Z g n c : Nat) (out : List UInt8) (mb : Bool), b = .slice A 128 cb ∧ o = .slice (some ⟨g, 0, none⟩) n c ∧ m = .bool mb ∧ n ≤ 39 ∧ Rd wr A (iz (bitsTo Z 128)) ∧ wr.ownsRow w.heap.size 5 1 (.slice (some ⟨g, 0, none⟩) n c) n (Lib.byteCells out) ∧ Own wr w.heap.size 63 [.int .i64 ah, .int .u64 al] ∧ Hid (Z < 2 ^ 128 ∧ (mb = true → dec Z0 = dec Z ++ out) ∧ (mb = false → dec Z0 = out)) ∧ Below w.heap.size w wr) (fun _ o _ _ => 50 - rlen o)
  case atStart => exact ⟨A, cc, Z0, _, 0, 0, [], true, rfl, rfl, rfl, by omega, hrd.below (below_alloc _ _), own_nil _ hb1.size, o1.alloc _, Lib.hid ⟨HZ.out, fun _ => by simp, fun h => by cases h⟩, hb1.alloc hb1.size _⟩
  case round =>
    clear hrd o1 hb1 HB HA HN0
    obtain ⟨A, cb, Z, g, n, c, out, mb, rfl, rfl, rfl, hn, hrd, hrow, hown, hnum, hbel⟩ := hrel
    cases mb
    · obtain ⟨c0, c1⟩ := hown.two
      have hnew := (Own.new wr 5 [.int .u8 45]).owns (n := 1) hbel.size rfl (by omega)
      go_wp2_with (at_builtin; refine wpList_append_own _ rfl _ _ 22 rfl w.heap.size 5 i0 (.int .u8 0) 1 1 Tryd.underlying22 HI.out.1 HI.out.2.1 HI.out.2.2.1 HI.out.2.2.2 rfl (by decide) (.slice (some ⟨wr.heap.size, 0, none⟩) 1 1) 1 [.int .u8 45] rfl hnew ⟨g, 0, none⟩ n c (Lib.byteCells out) rfl ?c6 ?c1 ?c2 ?c3 ?c4 ?c5 ?_)
      case c6 => simpa using hrow.1
      case c1 => intro j u hu; have := row_news hrow (below_alloc wr (.cells #[.int .u8 45] 5)) j u hu; rw [add_flat] at this; simpa using this
      case c2 => exact bytes_one out
      case c3 => unfold maxLen; omega
      case c4 => omega
      case c5 => have := hbel.size; (try simp); omega
      intro v' w3 hrow' hgrow hnil
      have hb3 : Below wr.heap.size wr w3 := (below_alloc wr _).grown hgrow (by simp) (fun k hk => by simp [Value.ownBlock] at hk; omega)
      have hne : v' ≠ .slice none 0 0 := by simpa using hnil
      obtain ⟨g', c', rfl⟩ := row_some hrow' hne
      have hcv := convert_text (out := 45 :: out) hrow'
      have hbel3 := below_trans hbel hb3
      clear c0 c1 hnew hrow hown hgrow hb3 hne hnil
      go_wp2
      go_ret
      exact ⟨by rw [hnum.out.2.2 trivial]; rfl, hbel3⟩
    · have HD := Lib.hid (fun W (h : Below wr.heap.size wr W) => l02Divide_any A cb Z 10 W (hrd.below h) hnum.out.1 (by omega) (by omega))
      have HN := Lib.hid (And.intro (show Z / 10 < 2 ^ 128 by have := hnum.out.1; omega) (text_step (hnum.out.2.1 rfl)))
      have hdb := dby_nat (show Z % 10 < 10 by omega)
      have hr0 : (0 : Int) ≤ ((Z % 10 : Nat) : Int) := by omega
      have hr1 : ((Z % 10 : Nat) : Int) ≤ 9 := by omega
      have hwr : IntKind.u8.wrap (48 + ((Z % 10 : Nat) : Int)) = ((dby (Z % 10)).toNat : Int) := by rw [hdb, IntKind.wrap_u8]; omega
      clear hnum hdb hrd
      generalize dby (Z % 10) = d at *
      revert HD HN
      generalize Z / 10 = Q
      revert hr0 hr1 hwr
      generalize Z % 10 = rn
      intro hr0 hr1 hwr HD HN
      go_wp2_with fail
      refine (HD.out _ (Below.refl _ _)).mono ?_
      clear HD
      rintro e w2 ⟨gq, rfl, hgq, hq, hb2⟩
      generalize (rn : Int) = r at *
      have hB2 : w.heap.size ≤ w2.heap.size := Nat.le_trans hbel.size hb2.size
      have hnew := (Own.new w2 5 [.int .u8 (d.toNat : Int)]).owns (n := 1) hB2 rfl (by omega)
      go_wp2_with (at_builtin; refine wpList_append_own _ rfl _ _ 22 rfl w.heap.size 5 i0 (.int .u8 0) 1 1 Tryd.underlying22 HI.out.1 HI.out.2.1 HI.out.2.2.1 HI.out.2.2.2 rfl (by decide) (.slice (some ⟨w2.heap.size, 0, none⟩) 1 1) 1 [.int .u8 (d.toNat : Int)] rfl hnew ⟨g, 0, none⟩ n c (Lib.byteCells out) rfl ?c6 ?c1 ?c2 ?c3 ?c4 ?c5 ?_)
      case c6 => simpa using hrow.1
      case c1 => exact row_news hrow (below_trans hb2 (below_alloc _ _))
      case c2 => exact bytes_one out
      case c3 => unfold maxLen; omega
      case c4 => omega
      case c5 => simp; omega
      have hlen : out.length = n := by have := hrow.1; simpa [Lib.byteCells] using this
      intro v' w3 hrow' hgrow hnil
      have hb3 : Below w2.heap.size w2 w3 := (below_alloc w2 _).grown hgrow (by simp) (fun k hk => by simp [Value.ownBlock] at hk; omega)
      have hne : v' ≠ .slice none 0 0 := by simpa using hnil
      obtain ⟨g', c', rfl⟩ := row_some hrow' hne
      have hq3 := hq.grow hb3
      have hb13 := below_trans hb2 hb3
      have hown3 := hown.grow hb13
      have hbel3 : Below w.heap.size w w3 := below_trans hbel hb13
      clear hnil hne hgrow hb3 hb2 hq hnew hown hrow hwr hbel hB2 hb13
      go_wp2
      go_loopw [5, 8] (fun m i wq => ∃ j : Nat, j ≤ 128 ∧ i = .int .i64 (j : Int) ∧ m = .bool (mr Q j) ∧ w3 = wq) (fun _ i _ => (128 - intOf i).toNat)
      case atStart => exact ⟨0, by omega, rfl, by rw [mr_zero], rfl⟩
      case round =>
        obtain ⟨j, hj, rfl, rfl, rfl⟩ := hrel
        rcases Nat.lt_or_ge j 128 with hl | hl
        · have hc : w3.cell? ⟨gq, j, none⟩ = some (.int .i64 (bit Q j : Int)) := by
            rw [hq3.cell, iz_at (by rw [bitsTo_length]; exact hl)]; exact congrArg (fun z => some (Value.int .i64 z)) (bitsTo_at hl)
          cases hm : mr Q j
          · have HM := Lib.hid (mr_bit hm)
            revert HM hc
            generalize (bit Q j : Int) = bj
            intro hc HM
            clear hm
            go_wp2
            go_roundw
            case rel => exact ⟨j + 1, by omega, rfl, by rw [HM.out], trivial⟩
            case measure => simp [intOf]; omega
          · have HM := Lib.hid (mr_old hm)
            revert HM hc
            generalize (bit Q j : Int) = bj
            intro hc HM
            clear hm
            go_wp2
            go_roundw
            case rel => exact ⟨j + 1, by omega, rfl, by rw [HM.out], trivial⟩
            case measure => simp [intOf]; omega
        · obtain rfl : j = 128 := by omega
          have HM := Lib.hid (mr_end HN.out.1)
          clear hl hj
          go_wp2
          go_roundw
          case rel =>
            refine ⟨some ⟨gq, 0, none⟩, 128, Q, g', 1 + n, c', d :: out, decide (Q ≠ 0), rfl, rfl, by rw [HM.out], ?_, hq3.rd, hrow', hown3, Lib.hid ⟨HN.out.1, fun h => HN.out.2.1 (by simpa using h), fun h => HN.out.2.2 (by simpa using h)⟩, hbel3⟩
            have h39 := dec_len' HZ.out
            by_cases h0 : Q = 0
            · have h1 := congrArg List.length (HN.out.2.2 h0)
              simp only [List.length_cons] at h1
              omega
            · have h1 := congrArg List.length (HN.out.2.1 h0)
              simp only [List.length_cons, List.length_append] at h1
              omega
          case measure => simp [rlen]; omega

theorem specWideText_any (ah al x : Int) (w : World) (hx : Wr x) (e1 : ah = hi x) (e2 : al = lo x) :
    Calls Tryd.prog 56 #[.agg #[.int .i64 ah, .int .u64 al]] w fun e w' => e = .returned (.string ⟨(decS x).toArray⟩) ∧ Below w.heap.size w w' := by
  have hsg : ah < 0 ↔ x < 0 := by rw [e1]; exact hi_neg hx
  unfold decS
  by_cases h0 : x < 0
  · rw [if_pos h0]
    refine specWideText_neg ah al (hi (-x)) (lo (-x)) x.natAbs (x + 340282366920938463463374607431768211456).toNat w (by unfold Wr at hx; omega) (hsg.2 h0) (Lib.hid fun W => l02Bits_z ah al (x + 340282366920938463463374607431768211456) _ W ?_ ?_ ?_ ?_) (Lib.hid fun W => specWideNeg_any ah al x W e1 e2) (Lib.hid fun W => l02Bits_z _ _ (-x) _ W rfl rfl (by omega) (by unfold Wr at hx; omega))
    · rw [e1]; unfold Wr at hx; unfold hi; omega
    · rw [e2]; unfold lo; omega
    · unfold Wr at hx; omega
    · unfold Wr at hx; omega
  · rw [if_neg h0]
    exact specWideText_pos ah al x.natAbs w (by unfold Wr at hx; omega) (fun h => h0 (hsg.1 h)) (Lib.hid fun W => l02Bits_z ah al x _ W e1 e2 (by omega) (by unfold Wr at hx; omega))
end Go.Proofs.YtmkfmohahfaemaaDoor
