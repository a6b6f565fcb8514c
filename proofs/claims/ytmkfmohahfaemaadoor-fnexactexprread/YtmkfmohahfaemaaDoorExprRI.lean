/-
  The program's readTok.
-/
import Derived.Test.YtmkfmohahfaemaaDoorExprTI
import Derived.Test.YtmkfmohahfaemaaDoorExprReadMath
import Derived.Test.YtmkfmohahfaemaaDoorExprLayR
namespace Go.Proofs.YtmkfmohahfaemaaDoor
open Go.RowKit Go.Sort

theorem idx12 (f : Nat → ByteArray) {k : Nat} (h : k < 12) (W : World) :
    (Instr.index 100 (.agg #[.string (f 0), .string (f 1), .string (f 2), .string (f 3), .string (f 4), .string (f 5), .string (f 6), .string (f 7), .string (f 8), .string (f 9), .string (f 10), .string (f 11)]) (.int .i64 (k : Int))).run Tryd.prog W = .ok (.string (f k)) W := by
  have : k = 0 ∨ k = 1 ∨ k = 2 ∨ k = 3 ∨ k = 4 ∨ k = 5 ∨ k = 6 ∨ k = 7 ∨ k = 8 ∨ k = 9 ∨ k = 10 ∨ k = 11 := by omega
  rcases this with rfl | rfl | rfl | rfl | rfl | rfl | rfl | rfl | rfl | rfl | rfl | rfl <;> simp [Instr.index, run_underlying Tryd.underlying100, asIntOf, go_sem, Tryd.sizeOf9, Tryd.isAgg9]

/-- what reading adds: the errors of strconv, whatever they hold but nil -/
structure Errs (w : World) : Prop where
  syn : ∃ tp p, w.var? Tryd.prog "strconv.ErrSyntax" = some #[.iface tp p]
  ran : ∃ tp p, w.var? Tryd.prog "strconv.ErrRange" = some #[.iface tp p]
  len : ∃ m, w.cell? ⟨3, 0, none⟩ = some (.int .i64 m)
theorem Errs.below {w w' : World} (h : Errs w) (hb : Below w.heap.size w w') : Errs w' := by
  obtain ⟨⟨a, b, h1⟩, ⟨c, d, h2⟩, ⟨m, h3⟩⟩ := h
  exact ⟨⟨a, b, var_below h1 hb⟩, ⟨c, d, var_below h2 hb⟩, ⟨m, (hb.cell (p := ⟨3, 0, none⟩) (World.block_lt_of_cell? w _ h3)).trans h3⟩⟩

set_option maxRecDepth 100000 in
set_option maxHeartbeats 2000000 in
theorem readTok_sign (j : Nat) (h0 : 1 ≤ j) (h1 : j < 12) (w : World) (ht : Tabs w) :
    Calls Tryd.prog 44 #[.string ⟨(sign j).toArray⟩] w fun e w' => e = .returned (.tuple #[.agg #[.int .i64 j, .int .i64 0], .bool true]) ∧ Below w.heap.size w w' := by
  have hc : ∀ k, k < 12 → ∀ o, (w.alloc o).cell? ⟨2, k, none⟩ = some (.string ⟨(sign k).toArray⟩) := fun k hk o => (ht.below (below_alloc w o)).ops k hk
  have hap : ∀ k, k < 12 → k ≠ j → (⟨(sign k).toArray⟩ : ByteArray) ≠ ⟨(sign j).toArray⟩ := fun k hk hne e => hne (sign_apart k hk j h1 (by have := congrArg (fun b : ByteArray => b.data.toList) e; simpa using this))
  generalize hf : (fun k => (⟨(sign k).toArray⟩ : ByteArray)) = f at *
  have e : ∀ k, (⟨(sign k).toArray⟩ : ByteArray) = f k := fun k => by rw [← hf]
  simp only [e] at hc hap ⊢
  clear e hf
  have c0 := hc 0 (by omega)
  have c1 := hc 1 (by omega)
  have c2 := hc 2 (by omega)
  have c3 := hc 3 (by omega)
  have c4 := hc 4 (by omega)
  have c5 := hc 5 (by omega)
  have c6 := hc 6 (by omega)
  have c7 := hc 7 (by omega)
  have c8 := hc 8 (by omega)
  have c9 := hc 9 (by omega)
  have c10 := hc 10 (by omega)
  have c11 := hc 11 (by omega)
  have HP := Lib.hid hap
  clear hc hap ht
  go_enter Tryd.func44, Tryd.ntmps44
  go_wp2
  clear c0 c1 c2 c3 c4 c5 c6 c7 c8 c9 c10 c11
  go_loop [9] (fun i => ∃ k : Nat, k ≤ j ∧ i = .int .i64 k) (fun i => 12 - (intOf i).toNat)
  case atStart => exact ⟨0, Nat.zero_le _, rfl⟩
  case round =>
    obtain ⟨k, hk, rfl⟩ := hrel
    have ha := idx12 f (k := k) (by omega)
    by_cases hkj : k = j
    · subst hkj
      have t1 : ((k : Int) != 0) = true := by simp; omega
      go_wp2
      refine bodyPost_ret (v := .tuple #[.agg #[.int .i64 k, .int .i64 0], .bool true]) (by simp [results, Tryd.results44, go_sem]) rfl ⟨rfl, ?_⟩
      exact below_alloc _ _
    · have hne := HP.out k (by omega) hkj
      have tA : ((f k).toList == (f j).toList) = false := by rw [beq_eq_false_iff_ne, ByteArray.toList_eq, ByteArray.toList_eq]; intro e; exact hne (ByteArray.ext (Array.toList_inj.1 e))
      by_cases hk0 : k = 0
      · subst hk0
        have ha' : ∀ W, (Instr.index 100 (.agg #[.string (f 0), .string (f 1), .string (f 2), .string (f 3), .string (f 4), .string (f 5), .string (f 6), .string (f 7), .string (f 8), .string (f 9), .string (f 10), .string (f 11)]) (.int .i64 0)).run Tryd.prog W = .ok (.string (f 0)) W := ha
        clear ha
        go_wp2
        go_round
        case rel => exact ⟨0 + 1, by omega, by go_num⟩
        case measure => simp [intOf]
      · have t1 : ((k : Int) != 0) = true := by simp; omega
        go_wp2
        go_round
        case rel => exact ⟨k + 1, by omega, by go_num⟩
        case measure => simp [intOf]; omega
end Go.Proofs.YtmkfmohahfaemaaDoor
