/-
  math/bits: LeadingZeros64 (off the library's shelf) and Div64.
-/
import Derived.Test.YtlmlckgnmkjkdaaBase
import Derived.Test.YtlmlckgnmkjkdaaWideMath
import Derived.Shelf.Small.Bits
import Derived.Laws.BitsAllLaws
import Derived.Deep.DeepCutAuto
import Derived.Deep.CutBlock
namespace Go.Proofs.Ytlmlckgnmkjkdaa
open Go.RowKit

def renLz : Go.Shelf.Ren := ⟨fun | 134 => 147 | 129 => 148 | n => n, fun | 53 => 60 | 3 => 3 | 4 => 4 | 46 => 152 | 5 => 5 | 9 => 9 | n => n, fun | n => n⟩
theorem laysLz : Go.Proofs.Lays.n134 Try.prog renLz := {
  mixed := by kernel_rfl
  f129 := Try.func148.trans (congrArg some (by kernel_rfl))
  f134 := Try.func147.trans (congrArg some (by kernel_rfl))
  t3 := Try.underlying3
  a3 := Try.isAgg3
  z3 := Try.sizeOf3
  v3 := Try.zeroValue3
  t4 := Try.underlying4
  a4 := Try.isAgg4
  z4 := Try.sizeOf4
  v4 := Try.zeroValue4
  t5 := Try.underlying5
  a5 := Try.isAgg5
  z5 := Try.sizeOf5
  v5 := Try.zeroValue5
  t9 := Try.underlying9
  a9 := Try.isAgg9
  z9 := Try.sizeOf9
  v9 := Try.zeroValue9
  t46 := Try.underlying152
  a46 := Try.isAgg152
  z46 := Try.sizeOf152
  v46 := Try.zeroValue152
  t53 := Try.underlying60
  a53 := Try.isAgg60
  z53 := Try.sizeOf60
  v53 := Try.zeroValue60 }
theorem lz_any (y s : Nat) (w : World) (hy : y < 18446744073709551616) (hs : Lib.bitLen y + s = 64) :
    Calls Try.prog 147 #[.int .u64 (y : Int)] w fun e w' => e = .returned (.int .i64 (s : Int)) ∧ w = w' :=
  (Any.bits_LeadingZeros64 laysLz (y : Int) w (by omega) (by omega)).mono fun e w' ⟨he, hw⟩ => ⟨by rw [he]; exact ret_int (by simp; omega), hw.symm⟩

/-- The call hands back two words. -/
def TwoRes (w : World) (a b : Nat) (e : Ending) (w' : World) : Prop := e = .returned (.tuple #[.int .u64 (a : Int), .int .u64 (b : Int)]) ∧ Below w.heap.size w w'

theorem wrapN {a : Nat} (h : a < 18446744073709551616) : IntKind.u64.wrap (a : Int) = (a : Int) := by rw [IntKind.wrap_u64]; omega
theorem wrap_mul {a b : Nat} (h : a * b < 18446744073709551616) : IntKind.u64.wrap ((a : Int) * (b : Int)) = ((a * b : Nat) : Int) := by rw [← Int.natCast_mul]; exact wrapN h
theorem mask32 (a : Nat) (h : a < 18446744073709551616) : bits .and .u64 (a : Int) 4294967295 = ((a % 4294967296 : Nat) : Int) := by
  have := u64_and_nat a 4294967295 h (by decide)
  rw [show ((4294967295 : Nat) : Int) = 4294967295 from rfl] at this
  rw [this, show (4294967295 : Nat) = 2 ^ 32 - 1 from rfl, Nat.and_two_pow_sub_one_eq_mod]

theorem guess_q {U y : Nat} (hU : U < 18446744073709551616) : IntKind.u64.wrap ((U : Int) / (y : Int)) = ((U / y : Nat) : Int) := by
  rw [← Int.natCast_ediv]; exact wrapN (Nat.lt_of_le_of_lt (Nat.div_le_self _ _) hU)
theorem guess_r {U y : Nat} (hU : U < 18446744073709551616) : IntKind.u64.wrap ((U : Int) - IntKind.u64.wrap (((U / y : Nat) : Int) * (y : Int))) = ((U % y : Nat) : Int) := by
  have e := Nat.div_add_mod U y
  rw [Nat.mul_comm] at e
  rw [wrap_mul (by omega), ← wrapN (show U % y < 18446744073709551616 by have := Nat.mod_le U y; omega)]
  congr 1
  generalize U / y * y = z at *
  omega
/-- the rest of a digit, in words that wrap -/
theorem rest_words {U d q Y r : Nat} (e : Y * q + r = U * 4294967296 + d) (hr : r < 18446744073709551616) :
    IntKind.u64.wrap (IntKind.u64.wrap (IntKind.u64.wrap ((U : Int) * 4294967296) + (d : Int)) - IntKind.u64.wrap ((q : Int) * (Y : Int))) = (r : Int) := by
  have e' : (q : Int) * (Y : Int) + (r : Int) = (U : Int) * 4294967296 + (d : Int) := by
    rw [← Int.natCast_mul, Nat.mul_comm]; omega
  simp only [IntKind.wrap_u64]
  generalize (q : Int) * (Y : Int) = z at *
  omega

set_option maxHeartbeats 1000000 in
theorem div64_zero (l y : Nat) (w : World) (hy : 0 < y) (hy2 : y < 18446744073709551616) (hl : l < 18446744073709551616) :
    Calls Try.prog 144 #[.int .u64 0, .int .u64 (l : Int), .int .u64 (y : Int)] w (TwoRes w (l / y) (l % y)) := by
  have hy0 : ((y : Int) == 0) = false := by simp; omega
  have hy3 : ¬ y = 0 := by omega
  go_enter Try.func144, Try.ntmps144
  go_wp2
  refine wp_region_bel (by kernel_rfl) (by kernel_rfl) ?_
  repeat (go_big_quiet_step (fail))
  refine wpQuiet_nil ?_
  rintro _ ⟨u, rfl⟩
  go_wp2
  go_ret2
  refine ⟨?_, u.ok⟩
  rw [guess_q hl]
  rfl

theorem digit_next_int {y1 y0 u d : Nat} {q r a1 : Int} (ha : (y1 : Int) = a1) (hq : 0 ≤ q) (hr : 0 ≤ r) (h : Digit y1 y0 u d q.toNat r.toNat) (ht : (u * 4294967296 + d) / (y1 * 4294967296 + y0) < q.toNat) : 1 ≤ q ∧ Digit y1 y0 u d (q - 1).toNat (r + a1).toNat := by
  have := digit_next h ht
  have h1 : 0 < q.toNat := Nat.lt_of_le_of_lt (Nat.zero_le _) ht
  refine ⟨by omega, ?_⟩
  rw [show (q - 1).toNat = q.toNat - 1 by omega, show (r + a1).toNat = r.toNat + y1 by omega]; exact this
theorem mul_words {y0 : Nat} {q a0 : Int} (ha : (y0 : Int) = a0) (hq : 0 ≤ q) (hq2 : q < 4294967296) (ha2 : a0 < 4294967296) : ∃ p : Int, q * a0 = p ∧ IntKind.u64.wrap (q * a0) = p ∧ 0 ≤ p ∧ p ≤ 18446744073709551615 ∧ ((q.toNat * y0 : Nat) : Int) = p := by
  obtain ⟨n, rfl⟩ := Int.eq_ofNat_of_zero_le hq
  subst ha
  have : n * y0 ≤ 4294967295 * 4294967295 := Nat.mul_le_mul (by omega) (by omega)
  refine ⟨((n * y0 : Nat) : Int), by rw [Int.natCast_mul], wrap_mul (by omega), by omega, by omega, by simp⟩

structure DivNums (Y U V y1 y0 d1 d0 R1 : Nat) : Prop where
  y1a : 2147483648 ≤ y1
  y1b : y1 < 4294967296
  y0a : y0 < 4294967296
  d1a : d1 < 4294967296
  d0a : d0 < 4294967296
  uy : U < y1 * 4294967296 + y0
  u : U < 18446744073709551616
  r1 : R1 < Y
  yy : Y < 18446744073709551616
  ey : Y = y1 * 4294967296 + y0
  ev : V = d1 * 4294967296 + d0

set_option maxRecDepth 100000 in
set_option maxHeartbeats 4000000 in
theorem div64_more (h l y : Nat) (w : World) (h0 : 0 < h) (hy : h < y) (hy2 : y < 18446744073709551616) (hl : l < 18446744073709551616) :
    Calls Try.prog 144 #[.int .u64 (h : Int), .int .u64 (l : Int), .int .u64 (y : Int)] w (TwoRes w ((h * 18446744073709551616 + l) / y) ((h * 18446744073709551616 + l) % y)) := by
  obtain ⟨s, hs, hbl, hY1, hY2⟩ := shift_of (show y ≠ 0 by omega) hy2
  have hp : 0 < 2 ^ s := Nat.pos_of_ne_zero (by simp)
  have hhY : h * 2 ^ s + 2 ^ s ≤ y * 2 ^ s := by
    have := Nat.mul_le_mul_right (2 ^ s) (show h + 1 ≤ y by omega)
    rw [Nat.add_mul] at this; omega
  have hlt : l / 2 ^ (64 - s) < 2 ^ s := by
    rw [Nat.div_lt_iff_lt_mul (Nat.pos_of_ne_zero (by simp)), ← Nat.pow_add, show s + (64 - s) = 64 by omega]; exact hl
  have eU : bits .or .u64 ((h * 2 ^ s : Nat) : Int) ((l / 2 ^ (64 - s) : Nat) : Int) = ((h * 2 ^ s + l / 2 ^ (64 - s) : Nat) : Int) := by
    rw [u64_or_nat _ _ (by omega) (by omega), nat_join s _ _ (by simp) hlt]
  have hw := shifted_words (h := h) (l := l) hs
  have hd := div_shifted (h * 18446744073709551616 + l) y s
  rw [← hw] at hd
  rw [← hd.1, ← hd.2]
  have hUY : h * 2 ^ s + l / 2 ^ (64 - s) < y * 2 ^ s := by omega
  have eY : IntKind.u64.wrap ((y : Int) * 2 ^ s) = ((y * 2 ^ s : Nat) : Int) := by
    rw [show (2 : Int) ^ s = ((2 ^ s : Nat) : Int) by simp]; exact wrap_mul hY2
  have eH : IntKind.u64.wrap ((h : Int) * 2 ^ s) = ((h * 2 ^ s : Nat) : Int) := by
    rw [show (2 : Int) ^ s = ((2 ^ s : Nat) : Int) by simp]; exact wrap_mul (by omega)
  have eL : IntKind.u64.wrap ((l : Int) * 2 ^ s) = ((l * 2 ^ s % 18446744073709551616 : Nat) : Int) := by
    rw [IntKind.wrap_u64, show (2 : Int) ^ s = ((2 ^ s : Nat) : Int) by simp, ← Int.natCast_mul]; omega
  have eD : (l : Int) / 2 ^ (64 - s) = ((l / 2 ^ (64 - s) : Nat) : Int) := by simp
  have hV : l * 2 ^ s % 18446744073709551616 < 18446744073709551616 := Nat.mod_lt _ (by decide)
  generalize y * 2 ^ s = Y at *
  generalize h * 2 ^ s = H at *
  generalize l / 2 ^ (64 - s) = D at *
  generalize l * 2 ^ s % 18446744073709551616 = V at *
  have hU2 : H + D < 18446744073709551616 := by omega
  generalize H + D = U at *
  clear hw hd hhY hlt hp
  obtain ⟨y1, y0, eYd, hy0'⟩ : ∃ y1 y0, Y = y1 * 4294967296 + y0 ∧ y0 < 4294967296 := ⟨Y / 4294967296, Y % 4294967296, by omega, by omega⟩
  obtain ⟨d1, d0, eVd, hd0⟩ : ∃ d1 d0, V = d1 * 4294967296 + d0 ∧ d0 < 4294967296 := ⟨V / 4294967296, V % 4294967296, by omega, by omega⟩
  have eY1 : (Y : Int) / 4294967296 = (y1 : Int) := by omega
  have eY0 : bits .and .u64 (Y : Int) 4294967295 = (y0 : Int) := by rw [mask32 Y hY2]; omega
  have eV1 : (V : Int) / 4294967296 = (d1 : Int) := by omega
  have eV0 : bits .and .u64 (V : Int) 4294967295 = (d0 : Int) := by rw [mask32 V hV]; omega
  have by1 : 2147483648 ≤ y1 := by omega
  have by1' : y1 < 4294967296 := by omega
  have bd1 : d1 < 4294967296 := by omega
  have hy1 : ¬ y1 = 0 := by omega
  have hy0 : ((y : Int) == 0) = false := by simp; omega
  have hh0 : ((h : Int) == 0) = false := by simp; omega
  have hyh : ¬ y ≤ h := by omega
  have HYd := Lib.hid eYd
  have HVd := Lib.hid eVd
  clear eYd eVd
  go_enter Try.func144, Try.ntmps144
  go_upto_block 0 with (go_at_call 147; refine (lz_any y s _ hy2 hbl).mono ?_; rintro e w' ⟨rfl, rfl⟩)
  obtain ⟨Q1, R1, eQR, hQ1, hR1⟩ : ∃ Q1 R1, Y * Q1 + R1 = U * 4294967296 + d1 ∧ Q1 = (U * 4294967296 + d1) / (y1 * 4294967296 + y0) ∧ R1 < Y :=
    ⟨_, _, Nat.div_add_mod (U * 4294967296 + d1) Y, by rw [HYd.out], Nat.mod_lt _ (by omega)⟩
  have HQ := Lib.hid hQ1
  have HE := Lib.hid eQR
  clear hQ1 eQR
  have hUY' : U < y1 * 4294967296 + y0 := by rw [← HYd.out]; exact hUY
  clear eY eH eD eL eU hbl eY1 eY0 eV1 eV0 hy0 hh0 hyh hl hy2 hy h0
  have HS := Lib.hid hs
  clear hs
  have HF := Lib.hid (DivNums.mk by1 by1' hy0' bd1 hd0 hUY' hU2 hR1 hY2 HYd.out HVd.out)
  clear hY1 hY2 hV hUY hU2 hy0' hd0 by1 by1' bd1 hy1 HYd HVd hR1 hUY'
  generalize ha1 : (y1 : Int) = a1
  generalize ha0 : (y0 : Int) = a0
  generalize hb1 : (d1 : Int) = b1
  generalize hb0 : (d0 : Int) = b0
  generalize hyi : (Y : Int) = yi
  generalize hui : (U : Int) = ui
  generalize hvi : (V : Int) = vi
  have i1 : a1 < 4294967296 := by have := HF.out.y1b; omega
  have i2 : 2147483648 ≤ a1 := by have := HF.out.y1a; omega
  have i3 : 0 ≤ a0 := by omega
  have i4 : a0 < 4294967296 := by have := HF.out.y0a; omega
  have i5 : 0 ≤ b1 := by omega
  have i6 : b1 < 4294967296 := by have := HF.out.d1a; omega
  have i7 : 0 ≤ b0 := by omega
  have i8 : b0 < 4294967296 := by have := HF.out.d0a; omega
  have HC := Lib.hid (And.intro ha1 (And.intro ha0 (And.intro hb1 (And.intro hb0 (And.intro hyi (And.intro hui hvi))))))
  clear ha1 ha0 hb1 hb0 hyi hui hvi
  go_cut [15] (fun s15 wx => s15 = .int .u64 (Q1 : Int) ∧ w = wx)
  case first =>
    go_wp2_with fail
    go_loop [15, 16] (fun q r => ∃ q' r' : Int, q = .int .u64 q' ∧ r = .int .u64 r' ∧ 0 ≤ q' ∧ 0 ≤ r' ∧ r' < 4294967296 ∧ Hid (Digit y1 y0 U d1 q'.toNat r'.toNat)) (fun q _ => (intOf q).toNat)
    case atStart =>
      have := HF.out
      have hc := HC.out
      exact ⟨(U / y1 : Nat), (U % y1 : Nat), by rw [← hc.1, ← hc.2.2.2.2.2.1, guess_q this.u], by rw [← hc.1, ← hc.2.2.2.2.2.1, guess_q this.u, guess_r this.u], Int.natCast_nonneg _, Int.natCast_nonneg _, by have := Nat.mod_lt U (show 0 < y1 by omega); omega, Lib.hid (digit_start this.y1a this.y0a this.uy this.d1a)⟩
    case round =>
      obtain ⟨q, r, rfl, rfl, hq0, hr0, hr, hD⟩ := hrel
      by_cases t1 : 4294967296 ≤ q
      · obtain ⟨_, hn⟩ := digit_next_int HC.out.1 hq0 hr0 hD.out (digit_test HF.out.uy HF.out.d1a hD.out (.inl (by omega)))
        have HN := Lib.hid hn
        have ht : q ≤ 4294967297 := by have := hD.out.top; omega
        clear hn
        by_cases t3 : r + a1 < 4294967296
        · go_wp2
          go_round
          case rel => exact ⟨q - 1, r + a1, rfl, rfl, by omega, by omega, t3, HN⟩
          case measure => simp [intOf]; omega
        · go_wp2
          go_meet
          case rel => exact ⟨by rw [HQ.out, ← digit_break HF.out.y1a HF.out.y0a HN.out (by omega) (by omega), Int.toNat_of_nonneg (by omega)], rfl⟩
      · obtain ⟨p, _, ep, hp0, hp1, hpn⟩ := mul_words HC.out.2.1 hq0 (by omega) i4
        have HP := Lib.hid hpn
        clear hpn
        by_cases t2 : 4294967296 * r + b1 < p
        · obtain ⟨hq1, hn⟩ := digit_next_int HC.out.1 hq0 hr0 hD.out (digit_test HF.out.uy HF.out.d1a hD.out (.inr (by have h1 := HP.out; have h2 := HC.out.2.2.1; generalize q.toNat * y0 = z at *; omega)))
          have HN := Lib.hid hn
          clear hn
          by_cases t3 : r + a1 < 4294967296
          · go_wp2
            go_round
            case rel => exact ⟨q - 1, r + a1, rfl, rfl, by omega, by omega, t3, HN⟩
            case measure => simp [intOf]; omega
          · go_wp2
            go_meet
            case rel => exact ⟨by rw [HQ.out, ← digit_break HF.out.y1a HF.out.y0a HN.out (by omega) (by omega), Int.toNat_of_nonneg (by omega)], rfl⟩
        · have hdn := Lib.hid (digit_done HF.out.y1a hD.out (by have h1 := HP.out; have h2 := HC.out.2.2.1; generalize q.toNat * y0 = z at *; omega))
          go_wp2
          go_meet
          case rel => exact ⟨by rw [HQ.out, ← hdn.out, Int.toNat_of_nonneg hq0], rfl⟩
  case rest =>
    obtain ⟨rfl, rfl⟩ := hcut
    have e21 : IntKind.u64.wrap (IntKind.u64.wrap (IntKind.u64.wrap (ui * 4294967296) + b1) - IntKind.u64.wrap ((Q1 : Int) * yi)) = (R1 : Int) := by
      have hc := HC.out
      rw [← hc.2.2.1, ← hc.2.2.2.2.1, ← hc.2.2.2.2.2.1]
      exact rest_words HE.out (by have h1 := HF.out.r1; have h2 := HF.out.yy; omega)
    go_upto_block 2 with (fail)
    have hr1 : R1 < y1 * 4294967296 + y0 := by rw [← HF.out.ey]; exact HF.out.r1
    obtain ⟨Q0, R0, eQR, hQ0, hR0⟩ : ∃ Q0 R0, Y * Q0 + R0 = R1 * 4294967296 + d0 ∧ Q0 = (R1 * 4294967296 + d0) / (y1 * 4294967296 + y0) ∧ R0 < Y :=
      ⟨_, _, Nat.div_add_mod (R1 * 4294967296 + d0) Y, by rw [HF.out.ey], Nat.mod_lt _ (by have := HF.out.r1; omega)⟩
    have HQ0 := Lib.hid hQ0
    have HE0 := Lib.hid (And.intro eQR hR0)
    have hr2 : R1 < 18446744073709551616 := by have h1 := HF.out.r1; have h2 := HF.out.yy; omega
    have HR := Lib.hid (And.intro hr1 hr2)
    clear hQ0 eQR hR0 e21 hr1 hr2
    generalize hr1i : (R1 : Int) = r1
    have HR1 := Lib.hid hr1i
    clear hr1i
    go_cut [18] (fun s18 wx => s18 = .int .u64 (Q0 : Int) ∧ w = wx)
    case first =>
      go_wp2_with fail
      go_loop [18, 16] (fun q r => ∃ q' r' : Int, q = .int .u64 q' ∧ r = .int .u64 r' ∧ 0 ≤ q' ∧ 0 ≤ r' ∧ r' < 4294967296 ∧ Hid (Digit y1 y0 R1 d0 q'.toNat r'.toNat)) (fun q _ => (intOf q).toNat)
      case atStart =>
        have := HF.out
        have hc := HC.out
        exact ⟨(R1 / y1 : Nat), (R1 % y1 : Nat), by rw [← hc.1, ← HR1.out, guess_q HR.out.2], by rw [← hc.1, ← HR1.out, guess_q HR.out.2, guess_r HR.out.2], Int.natCast_nonneg _, Int.natCast_nonneg _, by have := Nat.mod_lt R1 (show 0 < y1 by omega); omega, Lib.hid (digit_start this.y1a this.y0a HR.out.1 this.d0a)⟩
      case round =>
        obtain ⟨q, r, rfl, rfl, hq0, hr0, hr, hD⟩ := hrel
        by_cases t1 : 4294967296 ≤ q
        · obtain ⟨_, hn⟩ := digit_next_int HC.out.1 hq0 hr0 hD.out (digit_test HR.out.1 HF.out.d0a hD.out (.inl (by omega)))
          have HN := Lib.hid hn
          have ht : q ≤ 4294967297 := by have := hD.out.top; omega
          clear hn
          by_cases t3 : r + a1 < 4294967296
          · go_wp2
            go_round
            case rel => exact ⟨q - 1, r + a1, rfl, rfl, by omega, by omega, t3, HN⟩
            case measure => simp [intOf]; omega
          · go_wp2
            go_meet
            case rel => exact ⟨by rw [HQ0.out, ← digit_break HF.out.y1a HF.out.y0a HN.out (by omega) (by omega), Int.toNat_of_nonneg (by omega)], rfl⟩
        · obtain ⟨p, _, ep, hp0, hp1, hpn⟩ := mul_words HC.out.2.1 hq0 (by omega) i4
          have HP := Lib.hid hpn
          clear hpn
          by_cases t2 : 4294967296 * r + b0 < p
          · obtain ⟨hq1, hn⟩ := digit_next_int HC.out.1 hq0 hr0 hD.out (digit_test HR.out.1 HF.out.d0a hD.out (.inr (by have h1 := HP.out; have h2 := HC.out.2.2.2.1; generalize q.toNat * y0 = z at *; omega)))
            have HN := Lib.hid hn
            clear hn
            by_cases t3 : r + a1 < 4294967296
            · go_wp2
              go_round
              case rel => exact ⟨q - 1, r + a1, rfl, rfl, by omega, by omega, t3, HN⟩
              case measure => simp [intOf]; omega
            · go_wp2
              go_meet
              case rel => exact ⟨by rw [HQ0.out, ← digit_break HF.out.y1a HF.out.y0a HN.out (by omega) (by omega), Int.toNat_of_nonneg (by omega)], rfl⟩
          · have hdn := Lib.hid (digit_done HF.out.y1a hD.out (by have h1 := HP.out; have h2 := HC.out.2.2.2.1; generalize q.toNat * y0 = z at *; omega))
            go_wp2
            go_meet
            case rel => exact ⟨by rw [HQ0.out, ← hdn.out, Int.toNat_of_nonneg hq0], rfl⟩
    case rest =>
      obtain ⟨rfl, rfl⟩ := hcut
      have e20 : IntKind.u64.wrap (IntKind.u64.wrap (IntKind.u64.wrap (r1 * 4294967296) + b0) - IntKind.u64.wrap ((Q0 : Int) * yi)) = (R0 : Int) := by
        have hc := HC.out
        rw [← hc.2.2.2.1, ← hc.2.2.2.2.1, ← HR1.out]
        exact rest_words HE0.out.1 (by have h1 := HE0.out.2; have h2 := HF.out.yy; omega)
      have E := Lib.hid (show IntKind.u64.wrap (IntKind.u64.wrap ((Q1 : Int) * 4294967296) + (Q0 : Int)) = (((U * 18446744073709551616 + V) / Y : Nat) : Int) ∧ (R0 : Int) / 2 ^ min s 64 = (((U * 18446744073709551616 + V) % Y / 2 ^ s : Nat) : Int) by
        have hf := HF.out
        have h2 := two_words HE.out HE0.out.1 HE0.out.2
        rw [← hf.ev] at h2
        rw [← h2.1, ← h2.2, Nat.min_eq_left (by have := HS.out; omega)]
        have b1 : Q1 < 4294967296 := by rw [HQ.out]; exact digit_lt hf.uy hf.d1a
        have b0 : Q0 < 4294967296 := by rw [HQ0.out]; exact digit_lt HR.out.1 hf.d0a
        refine ⟨?_, by simp⟩
        simp only [IntKind.wrap_u64]
        omega)
      go_wp2
      go_ret2
      refine ⟨?_, Below.refl _ _⟩
      rw [E.out.1, E.out.2]
      rfl

theorem div64_any (h l y : Nat) (w : World) (hy : h < y) (hy2 : y < 18446744073709551616) (hl : l < 18446744073709551616) :
    Calls Try.prog 144 #[.int .u64 (h : Int), .int .u64 (l : Int), .int .u64 (y : Int)] w (TwoRes w ((h * 18446744073709551616 + l) / y) ((h * 18446744073709551616 + l) % y)) := by
  rcases Nat.eq_zero_or_pos h with rfl | h0
  · simpa using div64_zero l y w (by omega) hy2 hl
  · exact div64_more h l y w h0 hy hy2 hl

/-- The call hands back three words. -/
def ThreeRes (w : World) (a b c : Nat) (e : Ending) (w' : World) : Prop := e = .returned (.tuple #[.int .u64 (a : Int), .int .u64 (b : Int), .int .u64 (c : Int)]) ∧ Below w.heap.size w w'

set_option maxHeartbeats 1000000 in
theorem divideHalves_any (h l n : Nat) (w : World) (hn : 0 < n) (hn2 : n < 18446744073709551616) (hh : h < 18446744073709551616) (hl : l < 18446744073709551616) :
    Calls Try.prog 138 #[.int .u64 (h : Int), .int .u64 (l : Int), .int .u64 (n : Int)] w (ThreeRes w (h / n) ((h % n * 18446744073709551616 + l) / n) ((h % n * 18446744073709551616 + l) % n)) := by
  have hn0 : ¬ n = 0 := by omega
  have HM := Lib.hid (show (h : Int) % (n : Int) = ((h % n : Nat) : Int) by simp)
  have HN := Lib.hid (Nat.mod_lt h hn)
  have HG := Lib.hid (guess_q (y := n) hh)
  have HD := Lib.hid (fun w => div64_any (h % n) l n w HN.out hn2 hl)
  revert HD
  generalize (h % n * 18446744073709551616 + l) / n = q
  generalize (h % n * 18446744073709551616 + l) % n = r
  intro HD
  go_enter Try.func138, Try.ntmps138
  go_wp2_with fail
  rw [HM.out]
  refine (HD.out _).mono ?_
  rintro e w1 ⟨rfl, hb1⟩
  go_wp2
  go_ret3
  refine ⟨?_, hb1⟩
  rw [HG.out]
  rfl
end Go.Proofs.Ytlmlckgnmkjkdaa
