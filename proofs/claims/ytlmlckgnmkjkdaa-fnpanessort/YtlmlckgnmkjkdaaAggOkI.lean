/-
  AggOk of the program, and what it calls.
-/
import Derived.Test.YtlmlckgnmkjkdaaAggOkMath
import Derived.Test.YtlmlckgnmkjkdaaAggI
import Derived.Test.YtlmlckgnmkjkdaaCmpInt
import Derived.Test.YtlmlckgnmkjkdaaWideCmpI
import Derived.Test.YtlmlckgnmkjkdaaBoxTail
import Derived.Shelf.Bits.Mul64
namespace Go.Proofs.Ytlmlckgnmkjkdaa
open Go.RowKit

theorem compareDown_any (v u : Int) (w : World) : Calls Try.prog 126 #[.int .i64 v, .int .i64 u] w fun e w' => e = .returned (.int .i64 (cmpI u v)) ∧ w = w' := by
  have HC := Lib.hid (fun W => compare_any u v W)
  generalize cmpI u v = r at *
  go_enter Try.func126, Try.ntmps126
  go_wp2_with (go_at_call 53; refine (HC.out _).mono ?_; rintro e w' ⟨rfl, rfl⟩)
  go_ret
  exact ⟨rfl, rfl⟩

set_option maxRecDepth 100000 in
set_option maxHeartbeats 2000000 in
theorem isSorted_any (A : Option Addr) (n ca : Nat) (ts : List Int) (w : World) (hA : Rd w A (iz ts)) (hz : ts.length = n) (hn : n ≤ 1048576) :
    Calls Try.prog 125 #[.slice A n ca, .func (.func 126) #[] #[]] w fun e w' => e = .returned (.bool (tf (Desc ts))) ∧ Below w.heap.size w w' := by
  have HA := Lib.hid hA
  have HZ := Lib.hid hz
  clear hA hz
  go_enter Try.func125, Try.ntmps125
  go_wp2_with fail
  go_loopw [5] (fun s5 wr => ∃ z : Int, -1 ≤ z ∧ z ≤ (n : Int) - 1 ∧ s5 = .int .i64 z ∧ Hid (∀ i : Nat, z ≤ i → i + 1 < n → iat ts (i + 1) ≤ iat ts i) ∧ Below w.heap.size w wr) (fun s5 _ => (intOf s5 + 1).toNat)
  case atStart => exact ⟨(n : Int) - 1, by omega, Int.le_refl _, rfl, Lib.hid (fun i h1 h2 => by omega), Below.refl _ _⟩
  case round =>
    obtain ⟨z, hz1, hz2, rfl, HT, hbel⟩ := hrel
    by_cases hp : 0 < z
    · obtain ⟨j, rfl⟩ : ∃ j : Nat, z = (j : Int) + 1 := ⟨(z - 1).toNat, by omega⟩
      have hj1 : j + 1 < ts.length := by rw [HZ.out]; omega
      obtain ⟨ad, rfl, hc0⟩ := rd_int HA.out (by omega)
      obtain ⟨b, off, rfl⟩ := plain_of (hc0 w (Below.refl _ _) 0 (by omega))
      simp only [plain_add'] at hc0
      have k1 : ∀ u : Bel wr, u.w.cell? ⟨b, off + (j + 1), none⟩ = some (.int .i64 (iat ts (j + 1))) := fun u => hc0 _ (below_trans hbel u.ok) _ hj1
      have k2 : ∀ u : Bel wr, u.w.cell? ⟨b, off + j, none⟩ = some (.int .i64 (iat ts j)) := fun u => hc0 _ (below_trans hbel u.ok) _ (by omega)
      have hjn : (j : Int) + 1 < (n : Int) := by omega
      have hjn2 : (j : Int) < (n : Int) := by omega
      clear hc0
      have HNO := Lib.hid (show iat ts j < iat ts (j + 1) → ¬ Desc ts from fun h hd => by have := desc_iff.1 hd j hj1; omega)
      have HYES := Lib.hid (show ¬ iat ts j < iat ts (j + 1) → ∀ i : Nat, (j : Int) ≤ i → i + 1 < n → iat ts (i + 1) ≤ iat ts i from fun h i h1 h2 => by
        by_cases e : i = j
        · subst e; omega
        · exact HT.out i (by omega) h2)
      generalize iat ts (j + 1) = x at *
      generalize iat ts j = y at *
      have ht1 : ((j : Int) + 1).toNat = j + 1 := by omega
      go_wp2_with fail
      refine wp_region_bel (by kernel_rfl) (by kernel_rfl) ?_
      repeat (go_big_quiet_step ((go_at_call 126; exact bel_of_same _ (compareDown_any x y _))))
      refine wpQuiet_nil ?_
      rintro _ ⟨u, rfl⟩
      clear k1 k2
      by_cases hlt : y < x
      · have hc : (cmpI y x) = -1 := by unfold cmpI; rw [if_pos hlt]
        rw [hc]
        have HN := Lib.hid (HNO.out hlt)
        go_wp2_with fail
        go_ret
        exact ⟨ret_bool (tf_no HN.out), below_trans hbel u.ok⟩
      · have hc : 0 ≤ cmpI y x := by unfold cmpI; rw [if_neg hlt]; split <;> omega
        have HY := Lib.hid (HYES.out (by omega))
        have hc2 : decide (cmpI y x < 0) = false := by simp; omega
        generalize cmpI y x = r at *
        go_wp2_with fail
        go_roundw
        case rel => exact ⟨j, by omega, by omega, rfl, HY, below_trans hbel u.ok⟩
        case measure => simp [intOf]; omega
    · have HD := Lib.hid (show Desc ts from desc_iff.2 (fun i hi => HT.out i (by omega) (by rw [← HZ.out]; exact hi)))
      go_wp2_with fail
      go_ret
      exact ⟨ret_bool (tf_yes HD.out), hbel⟩

def renMul : Go.Shelf.Ren := ⟨fun | 264 => 143 | n => n, fun | 53 => 60 | 46 => 152 | n => n, fun | n => n⟩
theorem laysMul : Go.Proofs.Lays.n264 Try.prog renMul := {
  mixed := by kernel_rfl
  f264 := Try.func143.trans (congrArg some (by kernel_rfl))
  t46 := Try.underlying152
  a46 := Try.isAgg152
  z46 := Try.sizeOf152
  v46 := Try.zeroValue152
  t53 := Try.underlying60
  a53 := Try.isAgg60
  z53 := Try.sizeOf60
  v53 := Try.zeroValue60 }
theorem mul64_any (x y : Nat) (w : World) (hx : x < 18446744073709551616) (hy : y < 18446744073709551616) :
    Calls Try.prog 143 #[.int .u64 (x : Int), .int .u64 (y : Int)] w fun e w' => e = .returned (.tuple #[.int .u64 ((x * y / 18446744073709551616 : Nat) : Int), .int .u64 ((x * y % 18446744073709551616 : Nat) : Int)]) ∧ w = w' :=
  (Any.bits_Mul64 laysMul x y hx hy w).mono fun _ _ ⟨he, hw⟩ => ⟨he, hw.symm⟩

theorem times_words {n : Int} {f P : Nat} (hn : I64 n) (hf : f ≤ 1000000) (hP : (P : Int) = n * f + (if n < 0 then 18446744073709551616 * (f : Int) else 0)) :
    ((P % 18446744073709551616 : Nat) : Int) = lo (n * f) ∧ (¬ n < 0 → wrap64 ((P / 18446744073709551616 : Nat) : Int) = hi (n * f)) ∧ (n < 0 → wrap64 (IntKind.u64.wrap (((P / 18446744073709551616 : Nat) : Int) - (f : Int))) = hi (n * f)) := by
  have hb := mul_bound (a := n) (f := (f : Int)) hn (by omega) (by omega)
  simp only [wrapU]
  generalize n * (f : Int) = q at *
  unfold hi lo wrap64
  by_cases h : n < 0
  · rw [if_pos h] at hP
    refine ⟨by omega, fun h' => absurd h h', fun _ => by omega⟩
  · rw [if_neg h] at hP
    refine ⟨by omega, fun _ => by omega, fun h' => absurd h' h⟩
theorem times_prod {n : Int} {nU f : Nat} (e : (nU : Int) = n % 18446744073709551616) (hn : I64 n) : ((nU * f : Nat) : Int) = n * f + (if n < 0 then 18446744073709551616 * (f : Int) else 0) := by
  unfold I64 at hn
  rw [Int.natCast_mul]
  split
  · rename_i h
    rw [show (nU : Int) = n + 18446744073709551616 by omega, Int.add_mul]
  · rename_i h
    rw [show (nU : Int) = n by omega]; omega

set_option maxHeartbeats 1000000 in
theorem wideTimes_any (n : Int) (f : Nat) (w : World) (hn : I64 n) (hf : f ≤ 1000000) :
    Calls Try.prog 135 #[.int .i64 n, .int .i64 (f : Int)] w (WideRes w (hi (n * f)) (lo (n * f))) := by
  obtain ⟨nU, e⟩ : ∃ nU : Nat, (nU : Int) = n % 18446744073709551616 := ⟨(n % 18446744073709551616).toNat, by omega⟩
  have hnU : nU < 18446744073709551616 := by omega
  have hw1 : IntKind.u64.wrap n = (nU : Int) := by rw [wrapU, e]
  have hw2 : IntKind.u64.wrap (f : Int) = (f : Int) := by rw [wrapU]; omega
  obtain ⟨E1, E2, E3⟩ := times_words hn hf (times_prod (f := f) e hn)
  have HM := Lib.hid (fun W => mul64_any nU f W hnU (by omega))
  generalize nU * f / 18446744073709551616 = H at *
  generalize nU * f % 18446744073709551616 = L at *
  rw [← E1]
  clear E1 e hnU
  by_cases h : n < 0
  · rw [← E3 h]
    clear E2 E3 hn hf
    go_enter Try.func135, Try.ntmps135
    go_wp2_with (go_at_call 143; refine (HM.out _).mono ?_; rintro e w' ⟨rfl, rfl⟩)
    exact bodyPost_ret (v := .agg #[.int .i64 (wrap64 (IntKind.u64.wrap ((H : Int) - (f : Int)))), .int .u64 (L : Int)]) (by simp [results, Try.results135, go_sem]) rfl ⟨rfl, below1 _ _⟩
  · rw [← E2 h]
    clear E2 E3 hn hf
    go_enter Try.func135, Try.ntmps135
    go_wp2_with (go_at_call 143; refine (HM.out _).mono ?_; rintro e w' ⟨rfl, rfl⟩)
    exact bodyPost_ret (v := .agg #[.int .i64 (wrap64 (H : Int)), .int .u64 (L : Int)]) (by simp [results, Try.results135, go_sem]) rfl ⟨rfl, below1 _ _⟩
theorem wideTimes_int (n c : Int) (w : World) (hn : I64 n) (h0 : 0 ≤ c) (h1 : c ≤ 1000000) :
    Calls Try.prog 135 #[.int .i64 n, .int .i64 c] w (WideRes w (hi (n * c)) (lo (n * c))) := by
  obtain ⟨f, rfl⟩ : ∃ f : Nat, c = (f : Int) := ⟨c.toNat, by omega⟩
  exact wideTimes_any n f w hn (by omega)

theorem field_sum (N h l mn mx : Int) (v : Value) (w : World) : (Instr.field 72 (agv N h l mn mx v) 1).run Try.prog w = .ok (.agg #[.int .i64 h, .int .u64 l]) w := by
  kernel_rfl

set_option maxRecDepth 100000 in
set_option maxHeartbeats 4000000 in
theorem restFits_any (N z mn mx h lw : Int) (A : Option Addr) (n ca : Nat) (top : List Int) (w : World) (hN : 0 < N ∧ N ≤ 1000000) (hn : 1 ≤ n ∧ n ≤ 4) (hNn : (n : Int) ≤ N) (hA : Rd w A (iz top)) (hz : top.length = n)
    (h64 : ∀ x ∈ top, I64 x) (hm : I64 mn) (hw : Wr z) (eh : h = hi z) (el : lw = lo z) :
    Calls Try.prog 127 #[agv N h lw mn mx (.slice A n ca)] w fun e w' => e = .returned (.bool (tf (restOk N z mn top))) ∧ Below w.heap.size w w' := by
  obtain ⟨k, rfl⟩ : ∃ k, n = k + 1 := ⟨n - 1, by omega⟩
  have hk : k ≤ 3 := by omega
  obtain ⟨ad, rfl, hc0⟩ := rd_int hA (by omega)
  obtain ⟨b, off, rfl⟩ := plain_of (hc0 w (Below.refl _ _) 0 (by omega))
  simp only [plain_add'] at hc0
  have HC := Lib.hid (fun W (h : Below w.heap.size w W) => hc0 W h k (by omega))
  have hlast : iat top k = lastOf top := by unfold lastOf; rw [hz]; rfl
  have hL64 := lastOf_in h64 (by omega)
  have HAG := Lib.hid (fun W (hb : Below w.heap.size w W) => implAggOf_any (some ⟨b, off, none⟩) (k + 1) ca top W (hA.below hb) hz (by omega) h64)
  have hagg : aggL top = top := by unfold aggL; rw [if_pos (by omega)]
  have hfree : 0 ≤ N - ((k + 1 : Nat) : Int) - 1 ∨ N = ((k + 1 : Nat) : Int) := by omega
  have HREST := Lib.hid (show restOk N z mn top ↔ if N = ((k + 1 : Nat) : Int) then mn = lastOf top ∧ z = top.sum else mn ≤ lastOf top ∧ top.sum + mn + mn * (N - ((k + 1 : Nat) : Int) - 1) ≤ z ∧ z ≤ top.sum + mn + lastOf top * (N - ((k + 1 : Nat) : Int) - 1) by unfold restOk; rw [hz])
  have HWR := Lib.hid (fun (c : Int) (h0 : 0 ≤ c) (h1 : c ≤ 1000000) => And.intro (wr_ends (a := mn) h64 (by omega) rfl hm hm h0 h1) (wr_ends (a := lastOf top) h64 (by omega) rfl hm hL64 h0 h1))
  have HB1 := Lib.hid (Own.new w 72 (agc N h lw mn mx (.slice (some ⟨b, off, none⟩) (k + 1) ca)))
  have hb := below_alloc w (.cells (agc N h lw mn mx (.slice (some ⟨b, off, none⟩) (k + 1) ca)).toArray 72)
  have HM := Lib.hid (And.intro hm (And.intro hL64 hw))
  have HE := Lib.hid (And.intro eh el)
  have c1 := HC.out _ hb
  rw [hlast] at c1
  rw [hlast] at HC
  unfold AggOfRes at HAG
  rw [hagg] at HAG
  generalize lastOf top = last at *
  generalize top.sum = S at *
  generalize mnOf top = q1 at *
  generalize mxOf top = q2 at *
  generalize topOf top = q3 at *
  generalize (top.length : Int) = q4 at *
  clear hA hz h64 hm hw eh el hc0 hlast hL64 hagg
  obtain ⟨hN1, hN2⟩ := hN
  go_enter Try.func127, Try.ntmps127
  go_wp2_with fail
  refine (HAG.out _ hb).mono ?_
  rintro e w2 ⟨A2, c2, rfl, -, hb2⟩
  have o1 := (HB1.out.grow hb2).alloc (.cells #[.int .i64 (hi S), .int .u64 (lo S)] 70)
  have o4 := Own.new w2 70 [.int .i64 (hi S), .int .u64 (lo S)]
  replace hb := below_trans (below_trans hb hb2) (below_alloc w2 (.cells #[.int .i64 (hi S), .int .u64 (lo S)] 70))
  have hlt14 : w.heap.size < w2.heap.size := by have := (HB1.out.grow hb2).lt; omega
  have hfs := fun W => field_sum q4 (hi S) (lo S) q1 q2 (.slice A2 q3.length c2) W
  clear HB1 hb2 c1 HAG
  go_upto_region 3 with (fail)
  clear hfs
  generalize w2.alloc (.cells #[.int .i64 (hi S), .int .u64 (lo S)] 70) = w3 at *
  generalize w2.heap.size = B4 at *
  obtain ⟨a0, a1, a2, a3, a4, a5⟩ := o1.six
  by_cases hNk : N = ((k + 1 : Nat) : Int)
  · have HR := Lib.hid (HREST.out.trans (by rw [if_pos hNk]))
    have hNk' : (N == (k : Int) + 1) = true := by simp; omega
    obtain ⟨b0, b1⟩ := o4.two
    have HWS := Lib.hid (HWR.out 0 (by omega) (by omega)).1.2.2.2
    clear HREST HWR hfree hNk
    by_cases hml : mn = last
    · have hml' : (mn == last) = true := by simp [hml]
      have HEQ := Lib.hid (show z = S ↔ h = hi S ∧ lw = lo S by rw [HE.out.1, HE.out.2]; exact eq_words HM.out.2.2 HWS.out)
      have HML := Lib.hid hml
      clear hml
      go_wp2
      all_goals
        go_ret
        refine ⟨ret_bool ?_, hb⟩
        first
          | exact tf_yes (HR.out.2 ⟨HML.out, HEQ.out.2 ⟨by assumption, by assumption⟩⟩)
          | exact tf_no (fun q => absurd (HEQ.out.1 (HR.out.1 q).2).1 (by assumption))
          | exact tf_no (fun q => absurd (HEQ.out.1 (HR.out.1 q).2).2 (by assumption))
    · have hml' : (mn == last) = false := by simp [hml]
      have HN := Lib.hid (tf_no (show ¬ restOk N z mn top from fun q => hml (HR.out.1 q).1))
      clear hml
      go_wp2
      go_ret
      exact ⟨ret_bool HN.out, hb⟩
  · have HR := Lib.hid (HREST.out.trans (by rw [if_neg hNk]))
    have hNk' : (N == (k : Int) + 1) = false := by simp; omega
    obtain ⟨f, HF⟩ : ∃ f : Int, Hid (N - ((k + 1 : Nat) : Int) - 1 = f) := ⟨_, Lib.hid rfl⟩
    have hf0 : 0 ≤ f := by have := HF.out; omega
    have hf1 : f ≤ 1000000 := by have := HF.out; omega
    have hff : N - ((k : Int) + 1) - 1 = f := by have := HF.out; omega
    rw [HF.out] at HR
    have HW := Lib.hid (HWR.out f hf0 hf1)
    have HM1 := Lib.hid (HM.out.1)
    clear HREST HWR hfree hNk
    go_upto_region 5 with (fail)
    have HO1 := Lib.hid o1
    have HO4 := Lib.hid o4
    have k3 : ∀ u : Bel w3, u.w.cell? ⟨w.heap.size, 3, none⟩ = some (.int .i64 mn) := fun u => (HO1.out.grow u.ok).six.2.2.2.1
    have k0 : ∀ u : Bel w3, u.w.cell? ⟨B4, 0, none⟩ = some (.int .i64 (hi S)) := fun u => (HO4.out.grow u.ok).two.1
    have k1 : ∀ u : Bel w3, u.w.cell? ⟨B4, 1, none⟩ = some (.int .u64 (lo S)) := fun u => (HO4.out.grow u.ok).two.2
    clear a0 a1 a2 a3 a4 a5 o1 o4
    refine wp_region_belt 5 (by kernel_rfl) (by kernel_rfl) ?_
    simp only [List.take_succ_cons, List.take_zero, List.drop_succ_cons, List.drop_zero]
    repeat (go_big_quiet_step (first | (go_at_call 134; exact bel_of _ (implWideOf_any mn _ HM1.out)) | (go_at_call 133; exact bel_of _ (implWideAdd_any _ _ _ _ S mn _ rfl rfl rfl rfl))))
    refine wpQuiet_nil ?_
    rintro _ ⟨u, rfl⟩
    clear k0 k1 k3
    have o4 := HO4.out.grow u.ok
    have o1 := HO1.out.grow u.ok
    have hb4 := below_trans hb u.ok
    clear HO1 HO4
    generalize u.w = w4 at *
    obtain ⟨d0, d1⟩ := o4.two
    have f0 := o4.free 0
    have f1 := o4.free 1
    have HO4 := Lib.hid (own_set2 o4 (.int .i64 (hi (S + mn))) (.int .u64 (lo (S + mn))))
    have HO1 := Lib.hid ((o1.far (p := ⟨B4, 0, none⟩) (show w.heap.size ≠ B4 by omega) (.int .i64 (hi (S + mn)))).far (p := ⟨B4, 1, none⟩) (show w.heap.size ≠ B4 by omega) (.int .u64 (lo (S + mn))))
    have HB := Lib.hid (below_set2 hb4 (Nat.le_of_lt hlt14) (.int .i64 (hi (S + mn))) (.int .u64 (lo (S + mn))))
    obtain ⟨a0, -, -, -, -, a5⟩ := o1.six
    clear o1 o4 hb4 hb
    go_upto_region 7 with (fail)
    clear d0 d1 f0 f1 a0 a5
    generalize (w4.setCell ⟨B4, 0, none⟩ (.int .i64 (hi (S + mn)))).setCell ⟨B4, 1, none⟩ (.int .u64 (lo (S + mn))) = w5 at *
    refine wp_region_box 6 6 70 [.int .i64 0, .int .u64 0] (by kernel_rfl) (by kernel_rfl) rfl rfl rfl rfl (by kernel_rfl) (fun a w => by simp [execOp, go_sem, ptr]) ?_
    apply Exists.intro
    refine And.intro ?walk6 ?rest6
    case walk6 =>
      intro w6 hb6
      have f0 : ∀ u : Bel w6, u.w.cell? ⟨B4, 0, none⟩ = some (.int .i64 (hi (S + mn))) := fun u => ((HO4.out.grow hb6).grow u.ok).two.1
      have f1 : ∀ u : Bel w6, u.w.cell? ⟨B4, 1, none⟩ = some (.int .u64 (lo (S + mn))) := fun u => ((HO4.out.grow hb6).grow u.ok).two.2
      have f3 : ∀ u : Bel w6, u.w.cell? ⟨w.heap.size, 3, none⟩ = some (.int .i64 mn) := fun u => ((HO1.out.grow hb6).grow u.ok).six.2.2.2.1
      show wpQuiet _ _ _ _ [_, _, _, _, _, _] _
      repeat (go_big_quiet_step (first | (go_at_call 135; exact bel_of _ (wideTimes_int mn f _ HM.out.1 hf0 hf1)) | (go_at_call 133; exact bel_of _ (implWideAdd_any _ _ _ _ (S + mn) (mn * f) _ rfl rfl rfl rfl))))
      exact wpQuiet_nil rfl
    case rest6 =>
    intro X6 w6 hbb hO6 hw6
    show wpList _ _ _ [_] _ _
    simp only [Act.put, ptr]
    have ff0 := hO6.free 0
    have ff1 := hO6.free 1
    obtain ⟨c0, c1⟩ := hO6.two
    have HX6 := Lib.hid (own_set2 hO6 (.int .i64 (hi (S + mn + mn * f))) (.int .u64 (lo (S + mn + mn * f))))
    have hT := below_set2 hw6 hbb (.int .i64 (hi (S + mn + mn * f))) (.int .u64 (lo (S + mn + mn * f)))
    have HO4' := Lib.hid (HO4.out.grow hT)
    have HO1' := Lib.hid (HO1.out.grow hT)
    have HB' := Lib.hid (below_trans HB.out hT)
    clear HO4 HO1 HB hT hO6 hw6 hbb
    go_upto_region 8 with (fail)
    clear ff0 ff1 c0 c1
    generalize (w6.setCell ⟨X6, 0, none⟩ (.int .i64 (hi (S + mn + mn * f)))).setCell ⟨X6, 1, none⟩ (.int .u64 (lo (S + mn + mn * f))) = w7 at *

    refine wp_region_box 5 7 70 [.int .i64 0, .int .u64 0] (by kernel_rfl) (by kernel_rfl) rfl rfl rfl rfl (by kernel_rfl) (fun a w => by simp [execOp, go_sem, ptr]) ?_
    apply Exists.intro
    refine And.intro ?walk7 ?rest7
    case walk7 =>
      intro w6 hb6
      have f0 : ∀ u : Bel w6, u.w.cell? ⟨B4, 0, none⟩ = some (.int .i64 (hi (S + mn))) := fun u => ((HO4'.out.grow hb6).grow u.ok).two.1
      have f1 : ∀ u : Bel w6, u.w.cell? ⟨B4, 1, none⟩ = some (.int .u64 (lo (S + mn))) := fun u => ((HO4'.out.grow hb6).grow u.ok).two.2
      show wpQuiet _ _ _ _ [_, _, _, _, _] _
      repeat (go_big_quiet_step (first | (go_at_call 135; exact bel_of _ (wideTimes_int last f _ HM.out.2.1 hf0 hf1)) | (go_at_call 133; exact bel_of _ (implWideAdd_any _ _ _ _ (S + mn) (last * f) _ rfl rfl rfl rfl))))
      exact wpQuiet_nil rfl
    case rest7 =>
    intro X7 w6 hbb hO6 hw6
    show wpList _ _ _ [_] _ _
    simp only [Act.put, ptr]
    have ff0 := hO6.free 0
    have ff1 := hO6.free 1
    obtain ⟨c0, c1⟩ := hO6.two
    have HX7 := Lib.hid (own_set2 hO6 (.int .i64 (hi (S + mn + last * f))) (.int .u64 (lo (S + mn + last * f))))
    have hT := below_set2 hw6 hbb (.int .i64 (hi (S + mn + last * f))) (.int .u64 (lo (S + mn + last * f)))
    have HX6' := Lib.hid (HX6.out.grow hT)
    have HO1 := Lib.hid (HO1'.out.grow hT)
    have HB := Lib.hid (below_trans HB'.out hT)
    clear HO4' HO1' HB' hT hO6 hw6 hbb HX6
    go_upto_region 9 with (fail)
    clear ff0 ff1 c0 c1
    generalize (w6.setCell ⟨X7, 0, none⟩ (.int .i64 (hi (S + mn + last * f)))).setCell ⟨X7, 1, none⟩ (.int .u64 (lo (S + mn + last * f))) = w8 at *

    obtain ⟨x0, x1⟩ := HX6'.out.two
    obtain ⟨y0, y1⟩ := HX7.out.two
    obtain ⟨a0, a1, a2, a3, a4, a5⟩ := HO1.out.six
    by_cases hml : mn ≤ last
    · have hd1 : decide (mn ≤ last) = true := by simp [hml]
      have HML := Lib.hid hml
      clear hml
      have HC1 := Lib.hid (fun W => implWideCmp_any (hi (S + mn + mn * f)) (lo (S + mn + mn * f)) h lw (S + mn + mn * f) z W HW.out.1.2.2.1 HM.out.2.2 rfl rfl HE.out.1 HE.out.2)
      have HC2 := Lib.hid (fun W => implWideCmp_any h lw (hi (S + mn + last * f)) (lo (S + mn + last * f)) z (S + mn + last * f) W HM.out.2.2 HW.out.2.2.2.1 HE.out.1 HE.out.2 rfl rfl)
      have h1 := cmp3_le (S + mn + mn * f) z
      have h2 := cmp3_le z (S + mn + last * f)
      generalize cmp3 (S + mn + mn * f) z = r1 at *
      generalize cmp3 z (S + mn + last * f) = r2 at *
      by_cases hr1 : r1 ≤ 0
      · have hd2 : decide (r1 ≤ 0) = true := by simp [hr1]
        have H1 := Lib.hid (h1.1 hr1)
        have H2 := Lib.hid h2
        clear h1 h2 hr1
        go_wp2_with fail
        refine (HC1.out _).mono ?_
        rintro e w9 ⟨rfl, hb9⟩
        obtain ⟨y0, y1⟩ := (HX7.out.grow hb9).two
        obtain ⟨a0, a1, a2, a3, a4, a5⟩ := (HO1.out.grow hb9).six
        have hb10 := below_trans HB.out hb9
        clear hb9
        go_wp2_with fail
        refine (HC2.out _).mono ?_
        rintro e w10 ⟨rfl, hb11⟩
        replace hb10 := below_trans hb10 hb11
        go_wp2
        go_ret
        refine ⟨ret_bool ?_, hb10⟩
        by_cases hr2 : r2 ≤ 0
        · rw [← tf_yes (HR.out.2 ⟨HML.out, H1.out, H2.out.1 hr2⟩)]; simp [hr2]
        · rw [← tf_no (fun q => hr2 (H2.out.2 (HR.out.1 q).2.2))]; simp; omega
      · have hd2 : decide (r1 ≤ 0) = false := by simp; omega
        have HN := Lib.hid (tf_no (show ¬ restOk N z mn top from fun q => hr1 (h1.2 (HR.out.1 q).2.1)))
        clear h1 h2 hr1
        go_wp2_with fail
        refine (HC1.out _).mono ?_
        rintro e w9 ⟨rfl, hb9⟩
        have hb10 := below_trans HB.out hb9
        go_wp2
        go_ret
        exact ⟨ret_bool HN.out, hb10⟩
    · have hd1 : decide (mn ≤ last) = false := by simp; omega
      have HN := Lib.hid (tf_no (show ¬ restOk N z mn top from fun q => hml (HR.out.1 q).1))
      clear hml
      go_wp2
      go_ret
      exact ⟨ret_bool HN.out, HB.out⟩

set_option maxRecDepth 100000 in
set_option maxHeartbeats 4000000 in
theorem implAggOk_any (N z mn mx h lw : Int) (A : Option Addr) (n ca : Nat) (top : List Int) (w : World) (hA : Rd w A (iz top)) (hz : top.length = n) (hn : n ≤ 1048576)
    (h64 : ∀ x ∈ top, I64 x) (hm : I64 mn) (hw : Wr z) (eh : h = hi z) (el : lw = lo z) :
    Calls Try.prog 109 #[agv N h lw mn mx (.slice A n ca)] w fun e w' => e = .returned (.bool (tf (aggOk N z mn mx top))) ∧ Below w.heap.size w w' := by
  have hb := below_alloc w (.cells (agc N h lw mn mx (.slice A n ca)).toArray 72)
  by_cases hN0 : N = 0
  · subst hN0
    have hzw := zero_words hw eh el
    have HZ := Lib.hid (show aggOk 0 z mn mx top ↔ (h = 0 ∧ lw = 0) ∧ mn = 0 ∧ mx = 0 ∧ n = 0 by rw [aggOk_zero, hzw, ← hz, List.length_eq_zero_iff])
    clear hA hz h64 hm hw eh el hzw
    by_cases e1 : h = 0
    · by_cases e2 : lw = 0
      · by_cases e3 : mn = 0
        · by_cases e4 : mx = 0
          · have HY := Lib.hid (show n = 0 → aggOk 0 z mn mx top from fun q => HZ.out.2 ⟨⟨e1, e2⟩, e3, e4, q⟩)
            subst e1 e2 e3 e4
            go_enter Try.func109, Try.ntmps109
            go_wp2
            go_ret
            refine ⟨ret_bool ?_, hb⟩
            by_cases hl : n = 0
            · rw [← tf_yes (HY.out hl)]; simp [hl]
            · rw [← tf_no (fun q => hl (HZ.out.1 q).2.2.2)]; simp; omega
          · have HN := Lib.hid (tf_no (show ¬ aggOk 0 z mn mx top from fun q => e4 (HZ.out.1 q).2.2.1))
            have e4' : (mx == 0) = false := by simp [e4]
            subst e1 e2 e3
            go_enter Try.func109, Try.ntmps109
            go_wp2
            go_ret
            exact ⟨ret_bool HN.out, hb⟩
        · have HN := Lib.hid (tf_no (show ¬ aggOk 0 z mn mx top from fun q => e3 (HZ.out.1 q).2.1))
          have e3' : (mn == 0) = false := by simp [e3]
          subst e1 e2
          go_enter Try.func109, Try.ntmps109
          go_wp2
          go_ret
          exact ⟨ret_bool HN.out, hb⟩
      · have HN := Lib.hid (tf_no (show ¬ aggOk 0 z mn mx top from fun q => e2 (HZ.out.1 q).1.2))
        subst e1
        go_enter Try.func109, Try.ntmps109
        go_wp2
        go_ret
        exact ⟨ret_bool HN.out, hb⟩
    · have HN := Lib.hid (tf_no (show ¬ aggOk 0 z mn mx top from fun q => e1 (HZ.out.1 q).1.1))
      go_enter Try.func109, Try.ntmps109
      go_wp2
      go_ret
      exact ⟨ret_bool HN.out, hb⟩
  · have hN0' : (N == 0) = false := by simp [hN0]
    have HS := Lib.hid (aggOk_some (z := z) (mn := mn) (mx := mx) (top := top) hN0)
    by_cases hp : N < 0
    · have hp1 : decide (N < 0) = true := by simp [hp]
      have HN := Lib.hid (tf_no (show ¬ aggOk N z mn mx top from fun q => by have := (HS.out.1 q).1; omega))
      clear hA hz h64 hm hw eh el
      go_enter Try.func109, Try.ntmps109
      go_wp2
      go_ret
      exact ⟨ret_bool HN.out, hb⟩
    · have hp1 : decide (N < 0) = false := by simp; omega
      by_cases hM : 1000000 < N
      · have hM1 : decide (1000000 < N) = true := by simp [hM]
        have HN := Lib.hid (tf_no (show ¬ aggOk N z mn mx top from fun q => by have := (HS.out.1 q).2.1; omega))
        clear hA hz h64 hm hw eh el
        go_enter Try.func109, Try.ntmps109
        go_wp2
        go_ret
        exact ⟨ret_bool HN.out, hb⟩
      · have hM1 : decide (1000000 < N) = false := by simp; omega
        obtain ⟨M4, hM4, hM5⟩ : ∃ M4 : Int, (if 4 < N then 4 else N) = M4 ∧ 1 ≤ M4 ∧ M4 ≤ 4 ∧ M4 ≤ N := ⟨_, rfl, by split <;> omega⟩
        by_cases hl : (n : Int) = M4
        · have hl1 : ((n : Int) != M4) = false := by simp [hl]
          have hn1 : 1 ≤ n ∧ n ≤ 4 ∧ (n : Int) ≤ N := by omega
          obtain ⟨ad, rfl, hc0⟩ := rd_int hA (by omega)
          obtain ⟨b, off, rfl⟩ := plain_of (hc0 w (Below.refl _ _) 0 (by omega))
          simp only [plain_add'] at hc0
          have HO := Lib.hid (Own.new w 72 (agc N h lw mn mx (.slice (some ⟨b, off, none⟩) n ca)))
          have HRF := Lib.hid (fun W (hb : Below w.heap.size w W) => restFits_any N z mn mx h lw (some ⟨b, off, none⟩) n ca top W (by omega) (by omega) hn1.2.2 (hA.below hb) hz h64 hm hw eh el)
          have HSO := Lib.hid (fun W (hb : Below w.heap.size w W) => isSorted_any (some ⟨b, off, none⟩) n ca top W (hA.below hb) hz hn)
          have HC := Lib.hid (fun W (h : Below w.heap.size w W) => hc0 W h 0 (by omega))
          have HEND := Lib.hid (show aggOk N z mn mx top ↔ mx = iat top 0 ∧ Desc top ∧ restOk N z mn top from HS.out.trans ⟨fun q => q.2.2.2, fun q => ⟨by omega, by omega, by rw [hz, hM4]; exact hl, q⟩⟩)
          generalize iat top 0 = t0 at *
          clear hA hz h64 hm hw eh el hl HS hc0 hM5
          have hn0 : (0 : Int) < (n : Int) := by omega
          go_enter Try.func109, Try.ntmps109
          simp only [Nat.add_zero] at HC
          go_upto_region 5 with (fail)
          have hbb := hb
          generalize w.alloc (.cells (agc N h lw mn mx (.slice (some ⟨b, off, none⟩) n ca)).toArray 72) = v at *
          have k0 : ∀ u : Bel v, u.w.cell? ⟨w.heap.size, 0, none⟩ = some (.int .i64 N) := fun u => (HO.out.grow u.ok).six.1
          have k1 : ∀ u : Bel v, u.w.cell? ⟨w.heap.size, 1, none⟩ = some (.int .i64 h) := fun u => (HO.out.grow u.ok).six.2.1
          have k2 : ∀ u : Bel v, u.w.cell? ⟨w.heap.size, 2, none⟩ = some (.int .u64 lw) := fun u => (HO.out.grow u.ok).six.2.2.1
          have k3 : ∀ u : Bel v, u.w.cell? ⟨w.heap.size, 3, none⟩ = some (.int .i64 mn) := fun u => (HO.out.grow u.ok).six.2.2.2.1
          have k4 : ∀ u : Bel v, u.w.cell? ⟨w.heap.size, 4, none⟩ = some (.int .i64 mx) := fun u => (HO.out.grow u.ok).six.2.2.2.2.1
          have k5 : ∀ u : Bel v, u.w.cell? ⟨w.heap.size, 5, none⟩ = some (.slice (some ⟨b, off, none⟩) n ca) := fun u => (HO.out.grow u.ok).six.2.2.2.2.2
          have kc : ∀ u : Bel v, u.w.cell? ⟨b, off, none⟩ = some (.int .i64 t0) := fun u => HC.out _ (below_trans hb u.ok)
          by_cases e1 : mx = t0
          · have e1' : (mx == t0) = true := by simp [e1]
            have HMX := Lib.hid e1
            clear e1
            by_cases e2 : Desc top
            · have HT := Lib.hid (tf_yes e2).symm
              have HD := Lib.hid e2
              clear e2
              obtain ⟨r, HR⟩ : ∃ r, Hid (tf (restOk N z mn top) = r) := ⟨_, Lib.hid rfl⟩
              refine wp_region_bel (by kernel_rfl) (by kernel_rfl) ?_
              repeat (go_big_quiet_step (first | (go_at_call 125; exact bel_of _ (as_bool HT.out (HSO.out _ (below_trans hbb (Bel.ok _))))) | (go_at_call 127; exact bel_of _ (as_bool HR.out (HRF.out _ (below_trans hbb (Bel.ok _)))))))
              refine wpQuiet_nil ?_
              rintro _ ⟨u, rfl⟩
              clear k0 k1 k2 k3 k4 k5 kc
              go_wp2
              go_ret
              refine ⟨ret_bool ?_, below_trans hbb u.ok⟩
              rw [← HR.out]
              exact tf_iff ⟨fun q => HEND.out.2 ⟨HMX.out, HD.out, q⟩, fun q => (HEND.out.1 q).2.2⟩
            · have HT := Lib.hid (tf_no e2).symm
              have HN := Lib.hid (tf_no (show ¬ aggOk N z mn mx top from fun q => e2 (HEND.out.1 q).2.1))
              clear e2
              refine wp_region_bel (by kernel_rfl) (by kernel_rfl) ?_
              repeat (go_big_quiet_step (first | (go_at_call 125; exact bel_of _ (as_bool HT.out (HSO.out _ (below_trans hbb (Bel.ok _)))))))
              refine wpQuiet_nil ?_
              rintro _ ⟨u, rfl⟩
              clear k0 k1 k2 k3 k4 k5 kc
              go_wp2
              go_ret
              exact ⟨ret_bool HN.out, below_trans hbb u.ok⟩
          · have e1' : (mx == t0) = false := by simp [e1]
            have HN := Lib.hid (tf_no (show ¬ aggOk N z mn mx top from fun q => e1 (HEND.out.1 q).1))
            clear e1
            refine wp_region_bel (by kernel_rfl) (by kernel_rfl) ?_
            repeat (go_big_quiet_step (fail))
            refine wpQuiet_nil ?_
            rintro _ ⟨u, rfl⟩
            clear k0 k1 k2 k3 k4 k5 kc
            go_wp2
            go_ret
            exact ⟨ret_bool HN.out, below_trans hbb u.ok⟩
        · have hl1 : ((n : Int) != M4) = true := by simp [hl]
          have HN := Lib.hid (tf_no (show ¬ aggOk N z mn mx top from fun q => hl (by have := (HS.out.1 q).2.2.1; rwa [hz, hM4] at this)))
          clear hA hz h64 hm hw eh el
          go_enter Try.func109, Try.ntmps109
          go_wp2
          go_ret
          exact ⟨ret_bool HN.out, hb⟩
end Go.Proofs.Ytlmlckgnmkjkdaa
