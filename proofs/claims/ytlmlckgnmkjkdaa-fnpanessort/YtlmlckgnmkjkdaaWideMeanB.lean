/-
  The model's WideMean.
-/
import Derived.Test.YtlmlckgnmkjkdaaWideBitsC
import Derived.Test.YtlmlckgnmkjkdaaWideMeanA
import Derived.Test.YtlmlckgnmkjkdaaWideS
namespace Go.Proofs.Ytlmlckgnmkjkdaa
open Go.RowKit

set_option maxHeartbeats 1000000 in
theorem specWideMean_bad (ah al n : Int) (w : World) (hn : ¬ (1 ≤ n ∧ n ≤ 1000000)) :
    Calls Try.prog 108 #[.agg #[.int .i64 ah, .int .u64 al], .int .i64 n] w (IntRes w 0 false) := by
  by_cases h1 : n < 1
  · go_enter Try.func108, Try.ntmps108
    go_wp2
    go_ret2
    exact ⟨rfl, below1 _ _⟩
  · have h2 : 1000000 < n := by omega
    go_enter Try.func108, Try.ntmps108
    go_wp2
    go_ret2
    exact ⟨rfl, below1 _ _⟩

/-- the bits of a number that is not negative -/
theorem l02Bits_z (ah al x : Int) (Z : Nat) (w : World) (e1 : ah = hi x) (e2 : al = lo x) (hx : x = (Z : Int)) (hZ : Z < 2 ^ 128) :
    Calls Try.prog 122 #[.agg #[.int .i64 ah, .int .u64 al]] w (BitsRes w Z) := by
  have := l02Bits_any ah al (Z / 18446744073709551616) (Z % 18446744073709551616) w (by rw [e1, hx, wrapU]; unfold hi; omega) (by rw [e2, hx]; unfold lo; omega) (by omega) (by omega)
  rwa [show Z / 18446744073709551616 * 18446744073709551616 + Z % 18446744073709551616 = Z by omega] at this

/-- What WideInt hands back of a number. -/
def IntOf (w : World) (x : Int) (e : Ending) (w' : World) : Prop := (I64 x → IntRes w x true e w') ∧ (¬ I64 x → IntRes w 0 false e w')
theorem specWideInt_any (ah al x : Int) (w : World) (hw : Wr x) (e1 : ah = hi x) (e2 : al = lo x) :
    ∃ n ok, (I64 x → n = x ∧ ok = true) ∧ (¬ I64 x → n = 0 ∧ ok = false) ∧ Calls Try.prog 107 #[.agg #[.int .i64 ah, .int .u64 al]] w (IntRes w n ok) := by
  by_cases h : I64 x
  · exact ⟨x, true, fun _ => ⟨rfl, rfl⟩, fun h' => absurd h h', specWideInt_yes ah al x w h e1 e2⟩
  · exact ⟨0, false, fun h' => absurd h' h, fun _ => ⟨rfl, rfl⟩, specWideInt_no ah al x w hw h e1 e2⟩

set_option maxHeartbeats 1000000 in
theorem specWideMean_pos (ah al x : Int) (n : Nat) (w : World) (m : Int) (ok : Bool) (hn1 : 1 ≤ n) (hn2 : n ≤ 1000000) (hx : Wr x) (hx0 : 0 ≤ x) (e1 : ah = hi x) (e2 : al = lo x)
    (hI : ∀ W, Calls Try.prog 107 #[.agg #[.int .i64 (hi (x / n)), .int .u64 (lo (x / n))]] W (IntRes W m ok)) :
    Calls Try.prog 108 #[.agg #[.int .i64 ah, .int .u64 al], .int .i64 (n : Int)] w (IntRes w m ok) := by
  obtain ⟨Z, hZ⟩ := Int.eq_ofNat_of_zero_le hx0
  have hZ2 : Z < 2 ^ 128 := by unfold Wr at hx; omega
  have HB := Lib.hid (fun W => l02Bits_z ah al x Z W e1 e2 hZ hZ2)
  have HQ : Z / n < 2 ^ 128 := Nat.lt_of_le_of_lt (Nat.div_le_self _ _) hZ2
  have hn0 : ¬ ah < 0 := by rw [e1, hi_neg hx]; omega
  rw [hZ, ← Int.natCast_ediv] at hI
  have HI := Lib.hid hI
  have H2 := Lib.hid (And.intro hZ2 HQ)
  clear hI e1 e2 hZ hZ2 HQ hx hx0
  go_enter Try.func108, Try.ntmps108
  go_wp2_with fail
  refine (HB.out _).mono ?_
  rintro e w1 ⟨A, c, rfl, hR, hb1⟩
  replace hb1 := below_trans (below1 _ _) hb1
  go_wp2_with fail
  refine (l02Divide_any A c Z n _ hR H2.out.1 hn1 hn2).mono ?_
  rintro e w2 ⟨g, rfl, hg, hown, hb2⟩
  replace hb2 := below_trans hb1 hb2
  clear hR
  go_wp2_with fail
  refine (l02Wide_any _ 128 (Z / n) _ hown.rd H2.out.2).mono ?_
  rintro e w3 ⟨rfl, hb3⟩
  replace hb3 := below_trans hb2 hb3
  go_wp2_with fail
  refine (HI.out _).mono ?_
  rintro e w4 ⟨rfl, hb4⟩
  replace hb4 := below_trans hb3 hb4
  go_wp2
  go_ret2
  exact ⟨rfl, hb4⟩

theorem floor_neg (Z n : Nat) (hn : 1 ≤ n) : (-(Z : Int)) / (n : Int) = if Z % n = 0 then -((Z / n : Nat) : Int) else -((Z / n : Nat) : Int) + -1 := by
  have e := Nat.div_add_mod Z n
  have h1 := Nat.mod_lt Z (show 0 < n by omega)
  have e' : (n : Int) * ((Z / n : Nat) : Int) + ((Z % n : Nat) : Int) = (Z : Int) := by rw [← Int.natCast_mul]; omega
  generalize Z / n = q at *
  generalize Z % n = r at *
  split
  · refine ((Int.ediv_emod_unique (r := 0) (show (0 : Int) < n by omega)).2 ⟨?_, by omega, by omega⟩).1
    rw [Int.mul_neg]
    generalize (n : Int) * (q : Int) = z at *
    omega
  · refine ((Int.ediv_emod_unique (r := (n : Int) - r) (show (0 : Int) < n by omega)).2 ⟨?_, by omega, by omega⟩).1
    rw [Int.mul_add, Int.mul_neg]
    generalize (n : Int) * (q : Int) = z at *
    omega

set_option maxHeartbeats 1000000 in
theorem specWideMean_neg (ah al x : Int) (n : Nat) (w : World) (m : Int) (ok : Bool) (hn1 : 1 ≤ n) (hn2 : n ≤ 1000000) (hx : Wr x) (hx0 : x < 0) (e1 : ah = hi x) (e2 : al = lo x)
    (hI : ∀ W, Calls Try.prog 107 #[.agg #[.int .i64 (hi (x / n)), .int .u64 (lo (x / n))]] W (IntRes W m ok)) :
    Calls Try.prog 108 #[.agg #[.int .i64 ah, .int .u64 al], .int .i64 (n : Int)] w (IntRes w m ok) := by
  obtain ⟨Z, hZ⟩ := Int.eq_ofNat_of_zero_le (show 0 ≤ -x by omega)
  have hZ2 : Z < 2 ^ 128 := by unfold Wr at hx; omega
  have hZ3 : Z ≤ 2 ^ 127 := by unfold Wr at hx; omega
  have HB := Lib.hid (fun W => l02Bits_z (hi (-x)) (lo (-x)) (-x) Z W rfl rfl hZ hZ2)
  have HQ : Z / n < 2 ^ 128 := Nat.lt_of_le_of_lt (Nat.div_le_self _ _) hZ2
  have hn0 : ah < 0 := by rw [e1, hi_neg hx]; omega
  have hF := floor_neg Z n hn1
  rw [show -(Z : Int) = x by omega] at hF
  have HI := Lib.hid hI
  have H2 := Lib.hid (And.intro hZ2 HQ)
  have HE := Lib.hid (And.intro e1 e2)
  have HF := Lib.hid hF
  have HR := Lib.hid (Nat.mod_lt Z (show 0 < n by omega))
  clear hI e1 e2 hZ hZ2 hZ3 HQ hx hx0 hF
  generalize hQ : Z / n = Q at H2 HF
  generalize hR : Z % n = R at HF HR
  have HD := Lib.hid (show ∀ (A : Option Addr) (c : Nat) W, Rd W A (iz (bitsTo Z 128)) → Calls Try.prog 121 #[.slice A 128 c, .int .i64 (n : Int)] W (DivRes W Q R) from fun A c W h => by rw [← hQ, ← hR]; exact l02Divide_any A c Z n W h H2.out.1 hn1 hn2)
  have r1 : (R : Int) < 1000000 := by have := HR.out; omega
  have r0 : (0 : Int) ≤ (R : Int) := by omega
  have n1 : (1 : Int) ≤ (n : Int) := by omega
  have n2 : (n : Int) ≤ 1000000 := by omega
  clear hQ hR hn1 hn2
  generalize (n : Int) = ni at *
  unfold DivRes at HD
  generalize hri : (R : Int) = ri at *
  have HRi := Lib.hid hri
  clear hri
  go_enter Try.func108, Try.ntmps108
  go_wp2_with fail
  refine (specWideNeg_any ah al x _ HE.out.1 HE.out.2).mono ?_
  rintro e w0 ⟨rfl, hb0⟩
  replace hb0 := below_trans (below1 _ _) hb0
  go_wp2_with fail
  refine (HB.out _).mono ?_
  rintro e w1 ⟨A, c, rfl, hRd, hb1⟩
  replace hb1 := below_trans hb0 hb1
  go_wp2_with fail
  refine (HD.out A c _ hRd).mono ?_
  rintro e w2 ⟨g, rfl, hg, hown, hb2⟩
  replace hb2 := below_trans hb1 hb2
  clear hRd
  go_wp2_with fail
  refine (l02Wide_any _ 128 Q _ hown.rd H2.out.2).mono ?_
  rintro e w3 ⟨rfl, hb3⟩
  replace hb3 := below_trans hb2 hb3
  clear hown
  go_wp2_with fail
  refine (specWideNeg_any _ _ (Q : Int) _ rfl rfl).mono ?_
  rintro e w4 ⟨rfl, hb4⟩
  replace hb4 := below_trans hb3 hb4
  by_cases hr : ri = 0
  · subst hr
    have hR0 : R = 0 := by have := HRi.out; omega
    have hE := Lib.hid (show -(Q : Int) = x / ni by rw [HF.out, if_pos hR0])
    clear hR0
    go_wp2_with fail
    rw [hE.out]
    refine (HI.out _).mono ?_
    rintro e w5 ⟨rfl, hb5⟩
    replace hb5 := below_trans (grow_keep hb4 _) hb5
    go_wp2
    go_ret2
    exact ⟨rfl, hb5⟩
  · have hr' : 0 < ri := by omega
    have hE := Lib.hid (show -(Q : Int) + -1 = x / ni by rw [HF.out, if_neg (by have := HRi.out; omega)])
    have oD := Own.new w4 70 [.int .i64 (hi (-(Q : Int))), .int .u64 (lo (-(Q : Int)))]
    have hb5 := grow_keep hb4 (.cells #[.int .i64 (hi (-(Q : Int))), .int .u64 (lo (-(Q : Int)))] 70)
    go_wp2
    revert oD hb5
    generalize hd4 : w4.heap.size = d
    generalize w4.alloc (.cells #[.int .i64 (hi (-(Q : Int))), .int .u64 (lo (-(Q : Int)))] 70) = w5
    intro oD hb5
    have hd : w.heap.size ≤ d := by rw [← hd4]; exact hb4.size
    clear hd4
    have f0 : ∀ u : Bel w5, u.w.cell? ⟨d, 0, none⟩ = some (.int .i64 (hi (-(Q : Int)))) := fun u => (oD.grow u.ok).two.1
    have f1 : ∀ u : Bel w5, u.w.cell? ⟨d, 1, none⟩ = some (.int .u64 (lo (-(Q : Int)))) := fun u => (oD.grow u.ok).two.2
    refine wp_region_belt 3 (by kernel_rfl) (by kernel_rfl) ?_
    show wpQuiet _ _ _ _ [_, _, _] _
    repeat (go_big_quiet_step (first | (go_at_call 104; exact bel_of _ (specWideOf_any (-1) _ (by unfold I64; omega))) | (go_at_call 103; exact bel_of _ (specWideAdd_any _ _ _ _ (-(Q : Int)) (-1) _ rfl rfl rfl rfl))))
    refine wpQuiet_nil ?_
    rintro _ ⟨u, rfl⟩
    clear f0 f1
    have oE := oD.grow u.ok
    have hb6 := below_trans hb5 u.ok
    show wpList _ _ _ [_] _ _
    rw [hE.out]
    have ff0 := oE.free 0
    have ff1 := oE.free 1
    obtain ⟨c0, c1⟩ := oE.two
    have hS := own_set2 oE (.int .i64 (hi (x / ni))) (.int .u64 (lo (x / ni)))
    have hT := below_set2 hb6 hd (.int .i64 (hi (x / ni))) (.int .u64 (lo (x / ni)))
    obtain ⟨d0, d1⟩ := hS.two
    go_wp2_with fail
    clear ff0 ff1 c0 c1 d0 d1 hS oE
    refine (HI.out _).mono ?_
    rintro e w7 ⟨rfl, hb7⟩
    replace hb7 := below_trans hT hb7
    clear hT
    go_wp2
    go_ret2
    exact ⟨rfl, hb7⟩
end Go.Proofs.Ytlmlckgnmkjkdaa
