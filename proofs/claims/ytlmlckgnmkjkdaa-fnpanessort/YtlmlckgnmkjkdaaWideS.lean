/-
  The model's WideCmp and WideInt.
-/
import Derived.Test.YtlmlckgnmkjkdaaWideA
namespace Go.Proofs.Ytlmlckgnmkjkdaa
open Go.RowKit

theorem specWideCmp_any (ah al bh bl x y : Int) (w : World) (hx : Wr x) (hy : Wr y) (e1 : ah = hi x) (e2 : al = lo x) (e3 : bh = hi y) (e4 : bl = lo y) :
    Calls Try.prog 106 #[.agg #[.int .i64 ah, .int .u64 al], .agg #[.int .i64 bh, .int .u64 bl]] w fun e w' => e = .returned (.int .i64 (cmp3 x y)) ∧ Below w.heap.size w w' := by
  rw [cmp_words hx hy, ← e1, ← e2, ← e3, ← e4]
  clear e1 e2 e3 e4 hx hy
  by_cases g1 : ah = bh
  · subst g1
    by_cases g2 : al = bl
    · subst g2
      go_enter Try.func106, Try.ntmps106
      go_wp2
      go_ret
      exact ⟨ret_int (by simp [cmpw]), below2 _ _ _⟩
    · have g3 : (al != bl) = true := by simp [g2]
      by_cases g4 : al < bl
      · go_enter Try.func106, Try.ntmps106
        go_wp2
        go_ret
        exact ⟨ret_int (by simp [cmpw, g4]), below2 _ _ _⟩
      · go_enter Try.func106, Try.ntmps106
        go_wp2
        go_ret
        exact ⟨ret_int (by simp [cmpw, g4, g2]), below2 _ _ _⟩
  · have g3 : (ah != bh) = true := by simp [g1]
    by_cases g4 : ah < bh
    · go_enter Try.func106, Try.ntmps106
      go_wp2
      go_ret
      exact ⟨ret_int (by simp [cmpw, g4]), below2 _ _ _⟩
    · go_enter Try.func106, Try.ntmps106
      go_wp2
      go_ret
      exact ⟨ret_int (by simp [cmpw, g4, g1]), below2 _ _ _⟩

theorem specWideInt_yes (ah al x : Int) (w : World) (hx : I64 x) (e1 : ah = hi x) (e2 : al = lo x) :
    Calls Try.prog 107 #[.agg #[.int .i64 ah, .int .u64 al]] w (IntRes w x true) := by
  have hw : wrap64 al = x := by rw [e2]; unfold I64 at hx; unfold lo wrap64; omega
  have HC := Lib.hid (show ∀ W, Calls Try.prog 104 #[.int .i64 (wrap64 al)] W (WideRes W ah al) from fun W => by rw [hw, e1, e2]; exact specWideOf_any x W hx)
  have HW := Lib.hid hw
  have o1 := Own.new w 70 [.int .i64 ah, .int .u64 al]
  have f0 : ∀ u : Bel (w.alloc (.cells #[.int .i64 ah, .int .u64 al] 70)), u.w.cell? ⟨w.heap.size, 0, none⟩ = some (.int .i64 ah) := fun u => (o1.grow u.ok).two.1
  have f1 : ∀ u : Bel (w.alloc (.cells #[.int .i64 ah, .int .u64 al] 70)), u.w.cell? ⟨w.heap.size, 1, none⟩ = some (.int .u64 al) := fun u => (o1.grow u.ok).two.2
  clear o1 e1 e2 hw
  go_enter Try.func107, Try.ntmps107
  go_wp2
  refine wp_region_bel (by kernel_rfl) (by kernel_rfl) ?_
  repeat (go_big_quiet_step (first | (go_at_call 104; exact bel_of _ (HC.out _))))
  refine wpQuiet_nil ?_
  rintro _ ⟨u, rfl⟩
  have hb := below_trans (below1 _ _) u.ok
  clear f0 f1
  go_wp2
  go_ret2
  exact ⟨by rw [HW.out]; rfl, hb⟩
theorem specWideInt_no (ah al x : Int) (w : World) (hw : Wr x) (hx : ¬ I64 x) (e1 : ah = hi x) (e2 : al = lo x) :
    Calls Try.prog 107 #[.agg #[.int .i64 ah, .int .u64 al]] w (IntRes w 0 false) := by
  have hz : I64 (wrap64 al) := by unfold I64 wrap64; omega
  have hne : ¬ hi (wrap64 al) = ah := by rw [e1, e2, hi_wr hw]; unfold I64 at hx; unfold Wr at hw; unfold hi wrap64 lo; omega
  have hne' : (hi (wrap64 al) == ah) = false := by simp [hne]
  have HC := Lib.hid (fun W => specWideOf_any (wrap64 al) W hz)
  have o1 := Own.new w 70 [.int .i64 ah, .int .u64 al]
  have f0 : ∀ u : Bel (w.alloc (.cells #[.int .i64 ah, .int .u64 al] 70)), u.w.cell? ⟨w.heap.size, 0, none⟩ = some (.int .i64 ah) := fun u => (o1.grow u.ok).two.1
  have f1 : ∀ u : Bel (w.alloc (.cells #[.int .i64 ah, .int .u64 al] 70)), u.w.cell? ⟨w.heap.size, 1, none⟩ = some (.int .u64 al) := fun u => (o1.grow u.ok).two.2
  clear o1 e1 e2 hx hz
  go_enter Try.func107, Try.ntmps107
  go_wp2
  refine wp_region_bel (by kernel_rfl) (by kernel_rfl) ?_
  repeat (go_big_quiet_step (first | (go_at_call 104; exact bel_of _ (HC.out _))))
  refine wpQuiet_nil ?_
  rintro _ ⟨u, rfl⟩
  have hb := below_trans (below1 _ _) u.ok
  clear f0 f1
  go_wp2
  go_ret2
  exact ⟨rfl, hb⟩

end Go.Proofs.Ytlmlckgnmkjkdaa
