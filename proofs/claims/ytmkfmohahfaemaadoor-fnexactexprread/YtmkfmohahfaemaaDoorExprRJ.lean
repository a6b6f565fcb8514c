/-
  The program's readTok at words that are no operation's.
-/
import Derived.Test.YtmkfmohahfaemaaDoorExprRI
import Derived.Lib.AtoiErrMem
namespace Go.Proofs.YtmkfmohahfaemaaDoor
open Go.RowKit Go.Sort

theorem atoi_ok (D : ByteArray) (n : Int) (h : Lib.atoiAll D.data.toList = .ok n) (hs : D.size ≤ 2097152) (w : World) :
    Calls Tryd.prog 62 #[.string D] w fun e w' => e = .returned (.tuple #[.int .i64 n, .nilIface]) ∧ Below w.heap.size w w' :=
  (Any.strconv_Atoi_ok S.laysC172 D (by omega) n h w).mono fun e w' ⟨he, hw⟩ => ⟨he, by
    rcases hw with rfl | ⟨t, rfl⟩
    · exact Below.refl _ _
    · exact Lib.bytesWorld_below _ _ _⟩
theorem atoi_bad (D : ByteArray) (h : ∀ n, Lib.atoiAll D.data.toList ≠ .ok n) (hs : D.size ≤ 2097152) (w : World) (he : Errs w) :
    Calls Tryd.prog 62 #[.string D] w fun e w' => ∃ m N, e = .returned (.tuple #[.int .i64 m, .iface 146 (.pointer (some ⟨N, 0, none⟩))]) ∧ Below w.heap.size w w' := by
  obtain ⟨⟨a, b, h1⟩, ⟨c, d, h2⟩, _⟩ := he
  cases hx : Lib.atoiAll D.data.toList with
  | ok v => exact absurd hx (h v)
  | range => exact (Any.strconv_Atoi_range_var S.laysC172 D (by omega) hx c d w h2).mono fun e w' ⟨N, he, _, _, hb⟩ => ⟨_, N, he, hb⟩
  | _ => exact (Any.strconv_Atoi_syntax_var S.laysC172 D (by omega) hx a b w h1).mono fun e w' ⟨N, he, _, _, hb⟩ => ⟨_, N, he, hb⟩
theorem list_ne {a b : ByteArray} (h : a ≠ b) : (a.toList == b.toList) = false := by
  rw [beq_eq_false_iff_ne, ByteArray.toList_eq, ByteArray.toList_eq]; intro e; exact h (ByteArray.ext (Array.toList_inj.1 e))

set_option maxRecDepth 100000 in
set_option maxHeartbeats 2000000 in
theorem readTok_num (D : ByteArray) (w : World) (ht : Tabs w) (hs : D.size ≤ 2097152) (hno : ∀ k, 1 ≤ k → k < 12 → (⟨(sign k).toArray⟩ : ByteArray) ≠ D) (n : Int) (hn : I64 n) (ha : Lib.atoiAll D.data.toList = .ok n) (hd : (⟨(decS n).toArray⟩ : ByteArray) = D) :
    Calls Tryd.prog 44 #[.string D] w fun e w' => e = .returned (.tuple #[.agg #[.int .i64 0, .int .i64 n], .bool true]) ∧ Below w.heap.size w w' := by
  have hc : ∀ k, k < 12 → ∀ o, (w.alloc o).cell? ⟨2, k, none⟩ = some (.string ⟨(sign k).toArray⟩) := fun k hk o => (ht.below (below_alloc w o)).ops k hk
  generalize hf : (fun k => (⟨(sign k).toArray⟩ : ByteArray)) = f at *
  have e : ∀ k, (⟨(sign k).toArray⟩ : ByteArray) = f k := fun k => by rw [← hf]
  simp only [e] at hc hno
  clear e hf
  have c0 := hc 0 (by omega)
  have c1 := hc 1 (by omega)
  have c2 := hc 2 (by omega)
  have c3 := hc 3 (by omega)
  have c4 := hc 4 (by omega)
  have c5 := hc 5 (by omega)
  have c6 := hc 6 (by omega)
  have c7 := hc 7 (by omega)
  have c8 := hc 8 (by omega)
  have c9 := hc 9 (by omega)
  have c10 := hc 10 (by omega)
  have c11 := hc 11 (by omega)
  have HP := Lib.hid hno
  have HT := Lib.hid ht
  clear hc hno ht
  go_enter Tryd.func44, Tryd.ntmps44
  go_wp2
  clear c0 c1 c2 c3 c4 c5 c6 c7 c8 c9 c10 c11
  go_loop [9] (fun i => ∃ k : Nat, k ≤ 12 ∧ i = .int .i64 k) (fun i => 12 - (intOf i).toNat)
  case atStart => exact ⟨0, Nat.zero_le _, rfl⟩
  case round =>
    obtain ⟨k, hk, rfl⟩ := hrel
    by_cases hlt : k < 12
    · have ha := idx12 f (k := k) hlt
      by_cases hk0 : k = 0
      · subst hk0
        have ha' : ∀ W, (Instr.index 100 (.agg #[.string (f 0), .string (f 1), .string (f 2), .string (f 3), .string (f 4), .string (f 5), .string (f 6), .string (f 7), .string (f 8), .string (f 9), .string (f 10), .string (f 11)]) (.int .i64 0)).run Tryd.prog W = .ok (.string (f 0)) W := ha
        clear ha
        go_wp2
        go_round
        case rel => exact ⟨0 + 1, by omega, by go_num⟩
        case measure => simp [intOf]
      · have t1 : ((k : Int) != 0) = true := by simp; omega
        have tA := list_ne (HP.out k (by omega) hlt)
        go_wp2
        go_round
        case rel => exact ⟨k + 1, by omega, by go_num⟩
        case measure => simp [intOf]; omega
    · obtain rfl : k = 12 := by omega
      clear hlt hk
      have CA := Lib.hid (atoi_ok D n ha hs (w.alloc (.cells #[.int .i64 0, .int .i64 0] 31)))
      have CI := Lib.hid (fun W (h : Below (w.alloc (.cells #[.int .i64 0, .int .i64 0] 31)).heap.size (w.alloc (.cells #[.int .i64 0, .int .i64 0] 31)) W) => hd ▸ itoa_any n W hn (HT.out.below (below_trans (below_alloc _ _) h)))
      have tD : (D.toList != D.toList) = false := by simp
      clear ha hd hs
      go_wp2_with (first | (go_at_call 62; refine CA.out.mono ?_; rintro e w1 ⟨rfl, hb1⟩) | (go_at_call 57; refine (CI.out _ hb1).mono ?_; rintro e w2 ⟨rfl, hb2⟩; have hb3 := below_trans hb1 hb2; have o3 := box_own hb3; have f0 := o3.1.free 0; have f1 := o3.1.free 1; have z0 := o3.1.two.1; have z1 := o3.1.two.2))
      have hset := own_set2 o3.1 (.int .i64 0) (.int .i64 n)
      have z2 := hset.two.1
      have z3 := hset.two.2
      refine bodyPost_ret (v := .tuple #[.agg #[.int .i64 0, .int .i64 n], .bool true]) (by simp [results, Tryd.results44, go_sem, z2, z3]) rfl ⟨rfl, ?_⟩
      exact below_set2 o3.2 (Nat.le_refl _) _ _

set_option maxRecDepth 100000 in
set_option maxHeartbeats 2000000 in
theorem readTok_differ (D : ByteArray) (w : World) (ht : Tabs w) (hs : D.size ≤ 2097152) (hno : ∀ k, 1 ≤ k → k < 12 → (⟨(sign k).toArray⟩ : ByteArray) ≠ D) (n : Int) (hn : I64 n) (ha : Lib.atoiAll D.data.toList = .ok n) (hd : (⟨(decS n).toArray⟩ : ByteArray) ≠ D) :
    Calls Tryd.prog 44 #[.string D] w fun e w' => e = .returned (.tuple #[.agg #[.int .i64 0, .int .i64 0], .bool false]) ∧ Below w.heap.size w w' := by
  have hc : ∀ k, k < 12 → ∀ o, (w.alloc o).cell? ⟨2, k, none⟩ = some (.string ⟨(sign k).toArray⟩) := fun k hk o => (ht.below (below_alloc w o)).ops k hk
  generalize hf : (fun k => (⟨(sign k).toArray⟩ : ByteArray)) = f at *
  have e : ∀ k, (⟨(sign k).toArray⟩ : ByteArray) = f k := fun k => by rw [← hf]
  simp only [e] at hc hno
  clear e hf
  have c0 := hc 0 (by omega)
  have c1 := hc 1 (by omega)
  have c2 := hc 2 (by omega)
  have c3 := hc 3 (by omega)
  have c4 := hc 4 (by omega)
  have c5 := hc 5 (by omega)
  have c6 := hc 6 (by omega)
  have c7 := hc 7 (by omega)
  have c8 := hc 8 (by omega)
  have c9 := hc 9 (by omega)
  have c10 := hc 10 (by omega)
  have c11 := hc 11 (by omega)
  have HP := Lib.hid hno
  have HT := Lib.hid ht
  clear hc hno ht
  go_enter Tryd.func44, Tryd.ntmps44
  go_wp2
  clear c0 c1 c2 c3 c4 c5 c6 c7 c8 c9 c10 c11
  go_loop [9] (fun i => ∃ k : Nat, k ≤ 12 ∧ i = .int .i64 k) (fun i => 12 - (intOf i).toNat)
  case atStart => exact ⟨0, Nat.zero_le _, rfl⟩
  case round =>
    obtain ⟨k, hk, rfl⟩ := hrel
    by_cases hlt : k < 12
    · have ha := idx12 f (k := k) hlt
      by_cases hk0 : k = 0
      · subst hk0
        have ha' : ∀ W, (Instr.index 100 (.agg #[.string (f 0), .string (f 1), .string (f 2), .string (f 3), .string (f 4), .string (f 5), .string (f 6), .string (f 7), .string (f 8), .string (f 9), .string (f 10), .string (f 11)]) (.int .i64 0)).run Tryd.prog W = .ok (.string (f 0)) W := ha
        clear ha
        go_wp2
        go_round
        case rel => exact ⟨0 + 1, by omega, by go_num⟩
        case measure => simp [intOf]
      · have t1 : ((k : Int) != 0) = true := by simp; omega
        have tA := list_ne (HP.out k (by omega) hlt)
        go_wp2
        go_round
        case rel => exact ⟨k + 1, by omega, by go_num⟩
        case measure => simp [intOf]; omega
    · obtain rfl : k = 12 := by omega
      clear hlt hk
      have CA := Lib.hid (atoi_ok D n ha hs (w.alloc (.cells #[.int .i64 0, .int .i64 0] 31)))
      have CI := Lib.hid (fun W (h : Below (w.alloc (.cells #[.int .i64 0, .int .i64 0] 31)).heap.size (w.alloc (.cells #[.int .i64 0, .int .i64 0] 31)) W) => itoa_any n W hn (HT.out.below (below_trans (below_alloc _ _) h)))
      generalize (⟨(decS n).toArray⟩ : ByteArray) = E at *
      have tD := list_ne hd
      clear ha hd hs
      go_wp2_with (first | (go_at_call 62; refine CA.out.mono ?_; rintro e w1 ⟨rfl, hb1⟩) | (go_at_call 57; refine (CI.out _ hb1).mono ?_; rintro e w2 ⟨rfl, hb2⟩; have hb3 := below_trans hb1 hb2; have o3 := box_own hb3; have f0 := o3.1.free 0; have f1 := o3.1.free 1; have z0 := o3.1.two.1; have z1 := o3.1.two.2))
      have hset := own_set2 o3.1 (.int .i64 0) (.int .i64 0)
      have z2 := hset.two.1
      have z3 := hset.two.2
      refine bodyPost_ret (v := .tuple #[.agg #[.int .i64 0, .int .i64 0], .bool false]) (by simp [results, Tryd.results44, go_sem, z2, z3]) rfl ⟨rfl, ?_⟩
      exact below_set2 o3.2 (Nat.le_refl _) _ _

set_option maxRecDepth 100000 in
set_option maxHeartbeats 2000000 in
theorem readTok_bad (D : ByteArray) (w : World) (ht : Tabs w) (hs : D.size ≤ 2097152) (hno : ∀ k, 1 ≤ k → k < 12 → (⟨(sign k).toArray⟩ : ByteArray) ≠ D) (hE : Errs w) (ha : ∀ n, Lib.atoiAll D.data.toList ≠ .ok n) :
    Calls Tryd.prog 44 #[.string D] w fun e w' => e = .returned (.tuple #[.agg #[.int .i64 0, .int .i64 0], .bool false]) ∧ Below w.heap.size w w' := by
  have hc : ∀ k, k < 12 → ∀ o, (w.alloc o).cell? ⟨2, k, none⟩ = some (.string ⟨(sign k).toArray⟩) := fun k hk o => (ht.below (below_alloc w o)).ops k hk
  generalize hf : (fun k => (⟨(sign k).toArray⟩ : ByteArray)) = f at *
  have e : ∀ k, (⟨(sign k).toArray⟩ : ByteArray) = f k := fun k => by rw [← hf]
  simp only [e] at hc hno
  clear e hf
  have c0 := hc 0 (by omega)
  have c1 := hc 1 (by omega)
  have c2 := hc 2 (by omega)
  have c3 := hc 3 (by omega)
  have c4 := hc 4 (by omega)
  have c5 := hc 5 (by omega)
  have c6 := hc 6 (by omega)
  have c7 := hc 7 (by omega)
  have c8 := hc 8 (by omega)
  have c9 := hc 9 (by omega)
  have c10 := hc 10 (by omega)
  have c11 := hc 11 (by omega)
  have HP := Lib.hid hno
  have HT := Lib.hid ht
  clear hc hno ht
  go_enter Tryd.func44, Tryd.ntmps44
  go_wp2
  clear c0 c1 c2 c3 c4 c5 c6 c7 c8 c9 c10 c11
  go_loop [9] (fun i => ∃ k : Nat, k ≤ 12 ∧ i = .int .i64 k) (fun i => 12 - (intOf i).toNat)
  case atStart => exact ⟨0, Nat.zero_le _, rfl⟩
  case round =>
    obtain ⟨k, hk, rfl⟩ := hrel
    by_cases hlt : k < 12
    · have ha := idx12 f (k := k) hlt
      by_cases hk0 : k = 0
      · subst hk0
        have ha' : ∀ W, (Instr.index 100 (.agg #[.string (f 0), .string (f 1), .string (f 2), .string (f 3), .string (f 4), .string (f 5), .string (f 6), .string (f 7), .string (f 8), .string (f 9), .string (f 10), .string (f 11)]) (.int .i64 0)).run Tryd.prog W = .ok (.string (f 0)) W := ha
        clear ha
        go_wp2
        go_round
        case rel => exact ⟨0 + 1, by omega, by go_num⟩
        case measure => simp [intOf]
      · have t1 : ((k : Int) != 0) = true := by simp; omega
        have tA := list_ne (HP.out k (by omega) hlt)
        go_wp2
        go_round
        case rel => exact ⟨k + 1, by omega, by go_num⟩
        case measure => simp [intOf]; omega
    · obtain rfl : k = 12 := by omega
      clear hlt hk
      have CA := Lib.hid (atoi_bad D ha hs (w.alloc (.cells #[.int .i64 0, .int .i64 0] 31)) (hE.below (below_alloc _ _)))
      clear ha hs hE
      go_wp2_with (go_at_call 62; refine CA.out.mono ?_; rintro e w1 ⟨m, N, rfl, hb1⟩; have o3 := box_own hb1; have f0 := o3.1.free 0; have f1 := o3.1.free 1; have z0 := o3.1.two.1; have z1 := o3.1.two.2)
      have hset := own_set2 o3.1 (.int .i64 0) (.int .i64 0)
      have z2 := hset.two.1
      have z3 := hset.two.2
      refine bodyPost_ret (v := .tuple #[.agg #[.int .i64 0, .int .i64 0], .bool false]) (by simp [results, Tryd.results44, go_sem, z2, z3]) rfl ⟨rfl, ?_⟩
      exact below_set2 o3.2 (Nat.le_refl _) _ _

theorem bytes_eq {a b : List UInt8} (h : (⟨a.toArray⟩ : ByteArray) = ⟨b.toArray⟩) : a = b := by
  have := congrArg (fun x : ByteArray => x.data.toList) h; simpa using this
theorem atoi_range {l : List UInt8} {n : Int} (h : Lib.atoiAll l = .ok n) : I64 n := by
  unfold Lib.atoiAll at h
  split at h
  · cases h
  · simp only at h
    split at h
    · cases h
    · cases h
    · rename_i u hu
      have := Lib.parseMag_lt hu
      split at h
      · cases h
      · split at h
        · cases h
        · injection h with h
          subst h
          unfold I64
          split <;> omega

/-- a word that is a token's -/
theorem readTok_yes (t : Int × Int) (hg : tokGood t) (hi : I64 t.2) (w : World) (ht : Tabs w) :
    Calls Tryd.prog 44 #[.string ⟨(word t).toArray⟩] w fun e w' => e = .returned (.tuple #[.agg #[.int .i64 t.1, .int .i64 t.2], .bool true]) ∧ Below w.heap.size w w' := by
  obtain ⟨a, b⟩ := t
  by_cases h : a = 0
  · subst h
    have hw : word (0, b) = decS b := rfl
    replace hi : I64 b := hi
    rw [hw]
    exact readTok_num ⟨(decS b).toArray⟩ w ht (by rw [size_text]; have := decS_le hi.1 hi.2; omega) (fun k h0 h1 e => decS_sign b h1 (bytes_eq e).symm) b hi (by simpa using atoi_decS hi.1 hi.2) rfl
  · have hgg : 0 < a ∧ a ≤ 11 ∧ b = 0 := by unfold tokGood at hg; simp only at hg; omega
    obtain ⟨j, rfl⟩ : ∃ j : Nat, a = (j : Int) := ⟨a.toNat, by omega⟩
    obtain rfl : b = 0 := hgg.2.2
    have hw : word ((j : Int), 0) = sign j := by unfold word; simp only; rw [if_neg h, Int.toNat_natCast]
    rw [hw]
    exact readTok_sign j (by omega) (by omega) w ht
/-- a word that is no token's -/
theorem readTok_no (l : List UInt8) (hl : l.length ≤ 2097152) (hno : ∀ t, tokGood t → I64 t.2 → word t ≠ l) (w : World) (ht : Tabs w) (he : Errs w) :
    Calls Tryd.prog 44 #[.string ⟨l.toArray⟩] w fun e w' => e = .returned (.tuple #[.agg #[.int .i64 0, .int .i64 0], .bool false]) ∧ Below w.heap.size w w' := by
  have hs : ∀ k, 1 ≤ k → k < 12 → (⟨(sign k).toArray⟩ : ByteArray) ≠ ⟨l.toArray⟩ := fun k h0 h1 e => by
    refine hno ((k : Int), 0) (.inr ⟨by simp only; omega, by simp only; omega, rfl⟩) (by simp only; unfold I64; omega) ?_
    unfold word; simp only; rw [if_neg (by omega), Int.toNat_natCast]; exact bytes_eq e
  by_cases h : ∃ n, Lib.atoiAll l = .ok n
  · obtain ⟨n, hn⟩ := h
    exact readTok_differ ⟨l.toArray⟩ w ht (by rw [size_text]; exact hl) hs n (atoi_range hn) (by simpa using hn) (fun e => hno (0, n) (.inl rfl) (atoi_range hn) (bytes_eq e))
  · exact readTok_bad ⟨l.toArray⟩ w ht (by rw [size_text]; exact hl) hs he (fun n e => h ⟨n, by simpa using e⟩)
end Go.Proofs.YtmkfmohahfaemaaDoor
