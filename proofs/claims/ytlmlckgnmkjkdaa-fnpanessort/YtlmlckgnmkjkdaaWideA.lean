/-
  128-bit integers: what the program's and the model's small functions return. A number z, reduced to 128 bits, lies in two words: hi z, lo z.
-/
import Derived.Test.YtlmlckgnmkjkdaaBase
import Derived.Laws.Externs
namespace Go.Proofs.Ytlmlckgnmkjkdaa
open Go.RowKit

theorem add64 (x y c : Int) (hx : 0 ≤ x) (hy : 0 ≤ y) (hc0 : 0 ≤ c) (hc : c ≤ 1) (w : World) : (callFunc 142 #[.int .u64 x, .int .u64 y, .int .u64 c]).run Try.prog w =
    .ok (.value (.tuple #[.int .u64 ((x + y + c) % 18446744073709551616), .int .u64 ((x + y + c) / 18446744073709551616)])) w := by
  rw [run_callFunc_extern Try.func142 (by kernel_rfl) (by kernel_rfl) (by kernel_rfl) (e := add64Entry) (by kernel_rfl), run_add64 x y c hx hy hc0 hc]
  simp only [Result.andThen]
theorem add64_0 (x y : Int) (hx : 0 ≤ x) (hy : 0 ≤ y) (w : World) : (callFunc 142 #[.int .u64 x, .int .u64 y, .int .u64 0]).run Try.prog w =
    .ok (.value (.tuple #[.int .u64 ((x + y) % 18446744073709551616), .int .u64 ((x + y) / 18446744073709551616)])) w := by
  simpa using add64 x y 0 hx hy (Int.le_refl 0) (by decide) w

/-- a signed word -/
def I64 (x : Int) : Prop := -9223372036854775808 ≤ x ∧ x ≤ 9223372036854775807
/-- an unsigned word -/
def U64w (x : Int) : Prop := 0 ≤ x ∧ x ≤ 18446744073709551615
/-- the two words of a number -/
def hi (z : Int) : Int := (z / 18446744073709551616 + 9223372036854775808) % 18446744073709551616 - 9223372036854775808
def lo (z : Int) : Int := z % 18446744073709551616
/-- a number of 128 bits -/
def Wr (z : Int) : Prop := -170141183460469231731687303715884105728 ≤ z ∧ z ≤ 170141183460469231731687303715884105727
theorem hi_in (z : Int) : I64 (hi z) := by unfold I64 hi; omega
theorem lo_in (z : Int) : U64w (lo z) := by unfold U64w lo; omega
theorem hi_wr {z : Int} (h : Wr z) : hi z = z / 18446744073709551616 := by unfold Wr at h; unfold hi; omega
theorem wr_eq {z : Int} (h : Wr z) : hi z * 18446744073709551616 + lo z = z := by rw [hi_wr h]; unfold lo; omega
theorem wr_of {a b : Int} (ha : I64 a) (hb : U64w b) : Wr (a * 18446744073709551616 + b) := by unfold I64 U64w Wr at *; omega
theorem hi_of {a b : Int} (ha : I64 a) (hb : U64w b) : hi (a * 18446744073709551616 + b) = a := by unfold I64 U64w hi at *; omega
theorem lo_of {a b : Int} (hb : U64w b) : lo (a * 18446744073709551616 + b) = b := by unfold U64w lo at *; omega
theorem wide_in {a b : Int} (ha : I64 a) (hb : U64w b) : ∃ z, Wr z ∧ a = hi z ∧ b = lo z := ⟨a * 18446744073709551616 + b, wr_of ha hb, (hi_of ha hb).symm, (lo_of hb).symm⟩
theorem hi_neg {z : Int} (h : Wr z) : hi z < 0 ↔ z < 0 := by rw [hi_wr h]; omega
theorem hi_small {n : Int} (h : I64 n) : hi n = if n < 0 then -1 else 0 := by unfold I64 hi at *; split <;> omega

/-- The call hands back the struct of two numbers. -/
def WideRes (w : World) (h l : Int) (e : Ending) (w' : World) : Prop := e = .returned (.agg #[.int .i64 h, .int .u64 l]) ∧ Below w.heap.size w w'
theorem wideRes {w w' : World} {h l h' l' : Int} {e : Ending} (eh : h = h') (el : l = l') (r : WideRes w h l e w') : WideRes w h' l' e w' := by subst eh; subst el; exact r
theorem below1 (w : World) (o : Obj) : Below w.heap.size w (w.alloc o) := below_alloc w o
theorem below2 (w : World) (o p : Obj) : Below w.heap.size w ((w.alloc o).alloc p) := below_trans (below_alloc _ _) (below_alloc _ _)
theorem below3 (w : World) (o p q : Obj) : Below w.heap.size w (((w.alloc o).alloc p).alloc q) := below_trans (below2 _ _ _) (below_alloc _ _)

theorem grow_keep {w : World} {b : World} (h : Below w.heap.size w b) (o : Obj) : Below w.heap.size w (b.alloc o) := below_trans h (below_alloc _ _)
theorem own_set2 {w : World} {b : Nat} {t : TypeId} {c0 c1 : Value} (h : Own w b t [c0, c1]) (u0 u1 : Value) : Own ((w.setCell ⟨b, 0, none⟩ u0).setCell ⟨b, 1, none⟩ u1) b t [u0, u1] := by
  simpa using (h.set 0 u0).set 1 u1
theorem below_set2 {w w' : World} {b : Nat} (h : Below w.heap.size w w') (hb : w.heap.size ≤ b) (u0 u1 : Value) : Below w.heap.size w ((w'.setCell ⟨b, 0, none⟩ u0).setCell ⟨b, 1, none⟩ u1) :=
  (h.setCell hb _).setCell hb _

theorem specWideOf_any (n : Int) (w : World) (hn : I64 n) : Calls Try.prog 104 #[.int .i64 n] w (WideRes w (hi n) (lo n)) := by
  have eh := hi_small hn
  have el : lo n = n % 18446744073709551616 := rfl
  obtain ⟨h1, h2⟩ := hn
  by_cases h : n < 0
  · rw [if_pos h] at eh
    rw [eh, el, ← IntKind.wrap_u64]
    clear eh el
    go_enter Try.func104, Try.ntmps104
    go_wp2
    exact bodyPost_ret (v := .agg #[.int .i64 (-1), .int .u64 (IntKind.u64.wrap n)]) (by simp [results, Try.results104, go_sem]) rfl ⟨rfl, below1 _ _⟩
  · rw [if_neg h] at eh
    rw [eh, el, show n % 18446744073709551616 = n by omega]
    clear eh el
    go_enter Try.func104, Try.ntmps104
    go_wp2
    exact bodyPost_ret (v := .agg #[.int .i64 0, .int .u64 n]) (by simp [results, Try.results104, go_sem]) rfl ⟨rfl, below1 _ _⟩

theorem implWideOf_any (n : Int) (w : World) (hn : I64 n) : Calls Try.prog 134 #[.int .i64 n] w (WideRes w (hi n) (lo n)) := by
  have eh := hi_small hn
  have el : lo n = n % 18446744073709551616 := rfl
  obtain ⟨h1, h2⟩ := hn
  by_cases h : n < 0
  · rw [if_pos h] at eh
    rw [eh, el, ← IntKind.wrap_u64]
    clear eh el
    go_enter Try.func134, Try.ntmps134
    go_wp2
    exact bodyPost_ret (v := .agg #[.int .i64 (-1), .int .u64 (IntKind.u64.wrap n)]) (by simp [results, Try.results134, go_sem]) rfl ⟨rfl, below1 _ _⟩
  · rw [if_neg h] at eh
    rw [eh, el, show n % 18446744073709551616 = n by omega]
    clear eh el
    go_enter Try.func134, Try.ntmps134
    go_wp2
    exact bodyPost_ret (v := .agg #[.int .i64 0, .int .u64 n]) (by simp [results, Try.results134, go_sem]) rfl ⟨rfl, below1 _ _⟩

theorem wrapU (x : Int) : IntKind.u64.wrap x = x % 18446744073709551616 := IntKind.wrap_u64 x
theorem wrapU_nonneg (x : Int) : 0 ≤ IntKind.u64.wrap x := by rw [wrapU]; omega

theorem implWideAdd_any (ah al bh bl x y : Int) (w : World) (e1 : ah = hi x) (e2 : al = lo x) (e3 : bh = hi y) (e4 : bl = lo y) :
    Calls Try.prog 133 #[.agg #[.int .i64 ah, .int .u64 al], .agg #[.int .i64 bh, .int .u64 bl]] w (WideRes w (hi (x + y)) (lo (x + y))) := by
  have hal : U64w al := e2 ▸ lo_in x
  have hbl : U64w bl := e4 ▸ lo_in y
  obtain ⟨b1, b2⟩ := hal; obtain ⟨d1, d2⟩ := hbl
  have k0 : 0 ≤ (al + bl) / 18446744073709551616 := by omega
  have k1 : (al + bl) / 18446744073709551616 ≤ 1 := by omega
  have El : (al + bl) % 18446744073709551616 = lo (x + y) := by rw [e2, e4]; unfold lo; omega
  have Eh : wrap64 ((IntKind.u64.wrap ah + IntKind.u64.wrap bh + (al + bl) / 18446744073709551616) % 18446744073709551616) = hi (x + y) := by
    rw [wrapU, wrapU, e1, e2, e3, e4]; unfold hi lo wrap64; omega
  rw [← El, ← Eh]
  clear El Eh e1 e2 e3 e4
  go_enter Try.func133, Try.ntmps133
  go_wp2_with (first | simp only [add64_0 al bl b1 d1] | simp only [add64 _ _ _ (wrapU_nonneg ah) (wrapU_nonneg bh) k0 k1])
  exact bodyPost_ret (v := .agg #[.int .i64 (wrap64 ((IntKind.u64.wrap ah + IntKind.u64.wrap bh + (al + bl) / 18446744073709551616) % 18446744073709551616)), .int .u64 ((al + bl) % 18446744073709551616)]) (by simp [results, Try.results133, go_sem]) rfl ⟨rfl, below3 _ _ _ _⟩

theorem specWideAdd_any (ah al bh bl x y : Int) (w : World) (e1 : ah = hi x) (e2 : al = lo x) (e3 : bh = hi y) (e4 : bl = lo y) :
    Calls Try.prog 103 #[.agg #[.int .i64 ah, .int .u64 al], .agg #[.int .i64 bh, .int .u64 bl]] w (WideRes w (hi (x + y)) (lo (x + y))) := by
  have hal : U64w al := e2 ▸ lo_in x
  have hbl : U64w bl := e4 ▸ lo_in y
  obtain ⟨b1, b2⟩ := hal; obtain ⟨d1, d2⟩ := hbl
  have El : IntKind.u64.wrap (al + bl) = lo (x + y) := by rw [wrapU, e2, e4]; unfold lo; omega
  by_cases hc : IntKind.u64.wrap (al + bl) < al
  · have Eh : wrap64 (IntKind.u64.wrap (IntKind.u64.wrap (IntKind.u64.wrap ah + IntKind.u64.wrap bh) + 1)) = hi (x + y) := by
      simp only [wrapU] at hc ⊢; rw [e2, e4] at hc; rw [e1, e3]; unfold lo at hc; unfold hi wrap64; omega
    rw [← El, ← Eh]
    clear El Eh e1 e2 e3 e4
    go_enter Try.func103, Try.ntmps103
    go_wp2
    exact bodyPost_ret (v := .agg #[.int .i64 (wrap64 (IntKind.u64.wrap (IntKind.u64.wrap (IntKind.u64.wrap ah + IntKind.u64.wrap bh) + 1))), .int .u64 (IntKind.u64.wrap (al + bl))]) (by simp [results, Try.results103, go_sem]) rfl ⟨rfl, below3 _ _ _ _⟩
  · have Eh : wrap64 (IntKind.u64.wrap (IntKind.u64.wrap ah + IntKind.u64.wrap bh)) = hi (x + y) := by
      simp only [wrapU] at hc ⊢; rw [e2, e4] at hc; rw [e1, e3]; unfold lo at hc; unfold hi wrap64; omega
    rw [← El, ← Eh]
    clear El Eh e1 e2 e3 e4
    go_enter Try.func103, Try.ntmps103
    go_wp2
    exact bodyPost_ret (v := .agg #[.int .i64 (wrap64 (IntKind.u64.wrap (IntKind.u64.wrap ah + IntKind.u64.wrap bh))), .int .u64 (IntKind.u64.wrap (al + bl))]) (by simp [results, Try.results103, go_sem]) rfl ⟨rfl, below3 _ _ _ _⟩

theorem not_i64 (a : Int) (h : I64 a) : bits .xor .i64 (-1) a = -1 - a := by
  show IntKind.i64.wrap ((BitVec.ofInt 64 (-1) ^^^ BitVec.ofInt 64 a).toNat : Int) = _
  have h1 : BitVec.ofInt 64 (-1) = BitVec.allOnes 64 := by decide
  rw [h1, BitVec.allOnes_xor, BitVec.toNat_not, BitVec.toNat_ofInt]
  unfold I64 at h
  simp [IntKind.wrap, IntKind.bits, IntKind.signed]
  omega
theorem not_u64 (b : Int) (h : U64w b) : bits .xor .u64 IntKind.u64.max b = 18446744073709551615 - b := by
  show IntKind.u64.wrap ((BitVec.ofInt 64 IntKind.u64.max ^^^ BitVec.ofInt 64 b).toNat : Int) = _
  have h1 : BitVec.ofInt 64 IntKind.u64.max = BitVec.allOnes 64 := by decide
  rw [h1, BitVec.allOnes_xor, BitVec.toNat_not, BitVec.toNat_ofInt, wrapU]
  unfold U64w at h
  omega

theorem flipWide_any (ah al x : Int) (w : World) (e1 : ah = hi x) (e2 : al = lo x) :
    Calls Try.prog 137 #[.agg #[.int .i64 ah, .int .u64 al]] w (WideRes w (hi (-1 - x)) (lo (-1 - x))) := by
  have ha : I64 ah := e1 ▸ hi_in x
  have hb : U64w al := e2 ▸ lo_in x
  have n1 := not_i64 ah ha
  have n2 := not_u64 al hb
  have Eh : hi (-1 - x) = -1 - ah := by rw [e1]; unfold hi; omega
  have El : lo (-1 - x) = 18446744073709551615 - al := by rw [e2]; unfold lo; omega
  rw [Eh, El, ← n1, ← n2]
  clear n1 n2 Eh El e1 e2 ha hb
  go_enter Try.func137, Try.ntmps137
  go_wp2
  exact bodyPost_ret (v := .agg #[.int .i64 (bits .xor .i64 (-1) ah), .int .u64 (bits .xor .u64 IntKind.u64.max al)]) (by simp [results, Try.results137, go_sem]) rfl ⟨rfl, below2 _ _ _⟩

theorem specWideNeg_any (ah al x : Int) (w : World) (e1 : ah = hi x) (e2 : al = lo x) :
    Calls Try.prog 124 #[.agg #[.int .i64 ah, .int .u64 al]] w (WideRes w (hi (-x)) (lo (-x))) := by
  have HE := Lib.hid (show -1 - x + 1 = -x by omega)
  have H1 := Lib.hid e1
  have H2 := Lib.hid e2
  clear e1 e2
  go_enter Try.func124, Try.ntmps124
  go_wp2_with fail
  refine (specWideAdd_any _ _ _ _ (-1 - x) 1 _ (by rw [H1.out]; unfold hi wrap64; omega) (by rw [H2.out, wrapU]; unfold lo; omega) (by rw [hi_small (by unfold I64; omega)]; rfl) rfl).mono ?_
  rintro e w3 ⟨rfl, hb3⟩
  have o1 := ((Own.new (w.alloc (.cells #[.int .i64 ah, .int .u64 al] 70)) 70 [.int .i64 0, .int .u64 0])).grow hb3
  rw [show (w.alloc (.cells #[.int .i64 ah, .int .u64 al] 70)).heap.size = w.heap.size + 1 by simp] at o1
  replace hb3 := below_trans (below2 _ _ _) hb3
  rw [HE.out]
  obtain ⟨c0, c1⟩ := o1.two
  have f0 := o1.free 0
  have f1 := o1.free 1
  go_wp2
  refine bodyPost_ret (v := .agg #[.int .i64 (hi (-x)), .int .u64 (lo (-x))]) (by simp [results, Try.results124, go_sem, c0, c1]) rfl ⟨rfl, ?_⟩
  exact (hb3.setCell (by simp) _).setCell (by simp) _

/-- the order of two numbers -/
def cmp3 (x y : Int) : Int := if x < y then -1 else if x = y then 0 else 1
theorem lt_words {x y : Int} (hx : Wr x) (hy : Wr y) : x < y ↔ hi x < hi y ∨ hi x = hi y ∧ lo x < lo y := by rw [hi_wr hx, hi_wr hy]; unfold lo; omega
theorem eq_words {x y : Int} (hx : Wr x) (hy : Wr y) : x = y ↔ hi x = hi y ∧ lo x = lo y := by rw [hi_wr hx, hi_wr hy]; unfold lo; omega

def cmpw (ah al bh bl : Int) : Int := if ah < bh ∨ ah = bh ∧ al < bl then -1 else if ah = bh ∧ al = bl then 0 else 1
theorem cmp_words {x y : Int} (hx : Wr x) (hy : Wr y) : cmp3 x y = cmpw (hi x) (lo x) (hi y) (lo y) := by
  unfold cmp3 cmpw; simp only [lt_words hx hy, eq_words hx hy]

/-- The call hands back an int and whether it is one. -/
def IntRes (w : World) (n : Int) (ok : Bool) (e : Ending) (w' : World) : Prop := e = .returned (.tuple #[.int .i64 n, .bool ok]) ∧ Below w.heap.size w w'

theorem implWideInt_yes (ah al x : Int) (w : World) (hx : I64 x) (e1 : ah = hi x) (e2 : al = lo x) :
    Calls Try.prog 128 #[.agg #[.int .i64 ah, .int .u64 al]] w (IntRes w x true) := by
  have hw : wrap64 al = x := by rw [e2]; unfold I64 at hx; unfold lo wrap64; omega
  have HC := Lib.hid (show ∀ W, Calls Try.prog 134 #[.int .i64 (wrap64 al)] W (WideRes W ah al) from fun W => by rw [hw, e1, e2]; exact implWideOf_any x W hx)
  have HW := Lib.hid hw
  have o1 := Own.new w 70 [.int .i64 ah, .int .u64 al]
  have f0 : ∀ u : Bel (w.alloc (.cells #[.int .i64 ah, .int .u64 al] 70)), u.w.cell? ⟨w.heap.size, 0, none⟩ = some (.int .i64 ah) := fun u => (o1.grow u.ok).two.1
  have f1 : ∀ u : Bel (w.alloc (.cells #[.int .i64 ah, .int .u64 al] 70)), u.w.cell? ⟨w.heap.size, 1, none⟩ = some (.int .u64 al) := fun u => (o1.grow u.ok).two.2
  clear o1 e1 e2 hw
  go_enter Try.func128, Try.ntmps128
  go_wp2
  refine wp_region_bel (by kernel_rfl) (by kernel_rfl) ?_
  repeat (go_big_quiet_step (first | (go_at_call 134; exact bel_of _ (HC.out _))))
  refine wpQuiet_nil ?_
  rintro _ ⟨u, rfl⟩
  have hb := below_trans (below1 _ _) u.ok
  clear f0 f1
  go_wp2
  go_ret2
  exact ⟨by rw [HW.out]; rfl, hb⟩
theorem implWideInt_no (ah al x : Int) (w : World) (hw : Wr x) (hx : ¬ I64 x) (e1 : ah = hi x) (e2 : al = lo x) :
    Calls Try.prog 128 #[.agg #[.int .i64 ah, .int .u64 al]] w (IntRes w 0 false) := by
  have hz : I64 (wrap64 al) := by unfold I64 wrap64; omega
  have hne : ¬ hi (wrap64 al) = ah := by rw [e1, e2, hi_wr hw]; unfold I64 at hx; unfold Wr at hw; unfold hi wrap64 lo; omega
  have hne' : (hi (wrap64 al) == ah) = false := by simp [hne]
  have HC := Lib.hid (fun W => implWideOf_any (wrap64 al) W hz)
  have o1 := Own.new w 70 [.int .i64 ah, .int .u64 al]
  have f0 : ∀ u : Bel (w.alloc (.cells #[.int .i64 ah, .int .u64 al] 70)), u.w.cell? ⟨w.heap.size, 0, none⟩ = some (.int .i64 ah) := fun u => (o1.grow u.ok).two.1
  have f1 : ∀ u : Bel (w.alloc (.cells #[.int .i64 ah, .int .u64 al] 70)), u.w.cell? ⟨w.heap.size, 1, none⟩ = some (.int .u64 al) := fun u => (o1.grow u.ok).two.2
  clear o1 e1 e2 hx hz
  go_enter Try.func128, Try.ntmps128
  go_wp2
  refine wp_region_bel (by kernel_rfl) (by kernel_rfl) ?_
  repeat (go_big_quiet_step (first | (go_at_call 134; exact bel_of _ (HC.out _))))
  refine wpQuiet_nil ?_
  rintro _ ⟨u, rfl⟩
  have hb := below_trans (below1 _ _) u.ok
  clear f0 f1
  go_wp2
  go_ret2
  exact ⟨rfl, hb⟩

end Go.Proofs.Ytlmlckgnmkjkdaa
