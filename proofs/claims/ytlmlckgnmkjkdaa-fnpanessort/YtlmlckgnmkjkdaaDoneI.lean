/-
  AggDone of the program: what it returns.
-/
import Derived.Test.YtlmlckgnmkjkdaaAggOkI
import Derived.Test.YtlmlckgnmkjkdaaAggKindI
import Derived.Test.YtlmlckgnmkjkdaaIntCut
import Derived.Test.YtlmlckgnmkjkdaaLawWideMean
namespace Go.Proofs.Ytlmlckgnmkjkdaa
open Go.RowKit

/-- can it be evaluated? -/
def doneOk (q k N z mn mx : Int) (top : List Int) : Prop := kindOk q k ∧ N ≠ 0 ∧ aggOk N z mn mx top
/-- the answer's numbers, and whether the sum is out of range; me is what WideMean answers -/
structure DoneIs (q k N z mn mx me : Int) (top : List Int) (L : List Int) (b : Bool) : Prop where
  no : ¬ doneOk q k N z mn mx top → L = [] ∧ b = false
  one : doneOk q k N z mn mx top → q = 1 → L = [N] ∧ b = false
  sum : doneOk q k N z mn mx top → q = 2 → I64 z → L = [z] ∧ b = false
  over : doneOk q k N z mn mx top → q = 2 → ¬ I64 z → L = [] ∧ b = true
  least : doneOk q k N z mn mx top → q = 3 → L = [mn] ∧ b = false
  most : doneOk q k N z mn mx top → q = 4 → L = [mx] ∧ b = false
  mean : doneOk q k N z mn mx top → q = 5 → L = [me] ∧ b = false
  top : doneOk q k N z mn mx top → q = 6 → L = top.take k.toNat ∧ b = false
theorem done_some (q k N z mn mx me : Int) (top : List Int) : ∃ L b, DoneIs q k N z mn mx me top L b := by
  by_cases h : doneOk q k N z mn mx top
  · have hk : q = 1 ∨ q = 2 ∨ q = 3 ∨ q = 4 ∨ q = 5 ∨ q = 6 := by
      have := h.1
      unfold kindOk at this
      omega
    by_cases hz : I64 z
    · refine ⟨if q = 1 then [N] else if q = 2 then [z] else if q = 3 then [mn] else if q = 4 then [mx] else if q = 5 then [me] else top.take k.toNat, false, fun h' => absurd h h', ?_, ?_, fun _ _ h' => absurd hz h', ?_, ?_, ?_, ?_⟩
      all_goals (intros; subst_vars; simp)
    · refine ⟨if q = 1 then [N] else if q = 2 then [] else if q = 3 then [mn] else if q = 4 then [mx] else if q = 5 then [me] else top.take k.toNat, decide (q = 2), fun h' => absurd h h', ?_, (fun _ _ h' => absurd h' hz), ?_, ?_, ?_, ?_, ?_⟩
      all_goals (intros; subst_vars; simp)
  · exact ⟨[], false, fun _ => ⟨rfl, rfl⟩, fun h' => absurd h' h, fun h' => absurd h' h, fun h' => absurd h' h, fun h' => absurd h' h, fun h' => absurd h' h, fun h' => absurd h' h, fun h' => absurd h' h⟩

/-- The call hands back numbers in a row of its own, and a truth value. -/
def DoneRes (L : List Int) (n : Nat) (b : Bool) (w : World) (e : Ending) (w' : World) : Prop :=
  ∃ A c, e = .returned (.tuple #[.slice A n c, .bool b]) ∧ RowAt w.heap.size w'.heap.size w' 3 1 (.slice A n c) n (iz L) ∧ Below w.heap.size w w'
theorem row_nil {lo hi : Nat} {w : World} : RowAt lo hi w 3 1 (.slice none 0 0) 0 (iz []) := ⟨⟨rfl, .inl ⟨rfl, rfl⟩⟩, fun k hk => by cases hk⟩
theorem row_int {w W : World} (v : Int) (hb : Below w.heap.size w W) :
    RowAt w.heap.size (W.alloc (.cells #[.int .i64 v] 3)).heap.size (W.alloc (.cells #[.int .i64 v] 3)) 3 1 (.slice (some ⟨W.heap.size, 0, none⟩) 1 1) 1 (iz [v]) :=
  (Own.new W 3 (iz [v])).rowAt hb.size rfl (by omega)

set_option maxHeartbeats 400000 in
theorem implOneDone_any (q N z mn mx m r : Int) (ok : Bool) (v : Value) (w : World)
    (HM : ∀ W, Calls Try.prog 129 #[.agg #[.int .i64 (hi z), .int .u64 (lo z)], .int .i64 N] W (IntRes W m ok))
    (hq : q = 1 ∧ r = N ∨ q = 3 ∧ r = mn ∨ q = 4 ∧ r = mx ∨ q = 5 ∧ r = m) :
    Calls Try.prog 111 #[.int .i64 q, agv N (hi z) (lo z) mn mx v] w fun e w' => e = .returned (.int .i64 r) ∧ Below w.heap.size w w' := by
  have o1 := Own.new w 72 (agc N (hi z) (lo z) mn mx v)
  have hb := below_alloc w (.cells (agc N (hi z) (lo z) mn mx v).toArray 72)
  obtain ⟨b0, b1, b2, b3, b4, b5⟩ := o1.six
  clear o1
  rcases hq with ⟨rfl, rfl⟩ | ⟨rfl, rfl⟩ | ⟨rfl, rfl⟩ | ⟨rfl, rfl⟩
  · go_enter Try.func111, Try.ntmps111
    go_wp2
    go_ret
    exact ⟨rfl, hb⟩
  · go_enter Try.func111, Try.ntmps111
    go_wp2
    go_ret
    exact ⟨rfl, hb⟩
  · go_enter Try.func111, Try.ntmps111
    go_wp2
    go_ret
    exact ⟨rfl, hb⟩
  · go_enter Try.func111, Try.ntmps111
    go_wp2_with fail
    refine (HM _).mono ?_
    rintro e w2 ⟨rfl, hb2⟩
    replace hb := below_trans hb hb2
    go_wp2
    go_ret
    exact ⟨rfl, hb⟩

set_option maxHeartbeats 400000 in
theorem implSumDone_any (z : Int) (L : List Int) (ln : Nat) (b : Bool) (w : World) (hL : L.length = ln) (hw : Wr z) (h1 : I64 z → L = [z] ∧ b = false) (h2 : ¬ I64 z → L = [] ∧ b = true) :
    Calls Try.prog 110 #[.agg #[.int .i64 (hi z), .int .u64 (lo z)]] w (DoneRes L ln b w) := by
  have o1 := Own.new w 70 [.int .i64 (hi z), .int .u64 (lo z)]
  have hb := below_alloc w (.cells #[.int .i64 (hi z), .int .u64 (lo z)] 70)
  obtain ⟨b0, b1⟩ := o1.two
  clear o1
  by_cases h : I64 z
  · obtain ⟨rfl, rfl⟩ := h1 h
    obtain rfl : ln = 1 := hL.symm
    go_enter Try.func110, Try.ntmps110
    go_wp2_with fail
    refine (implWideInt_yes _ _ z _ h rfl rfl).mono ?_
    rintro e w2 ⟨rfl, hb2⟩
    replace hb := below_trans hb hb2
    go_wp2
    go_ret2
    exact ⟨_, _, rfl, row_int z hb, below_trans hb (below_alloc _ _)⟩
  · obtain ⟨rfl, rfl⟩ := h2 h
    obtain rfl : ln = 0 := hL.symm
    go_enter Try.func110, Try.ntmps110
    go_wp2_with fail
    refine (implWideInt_no _ _ z _ hw h rfl rfl).mono ?_
    rintro e w2 ⟨rfl, hb2⟩
    replace hb := below_trans hb hb2
    go_wp2
    go_ret2
    exact ⟨_, _, rfl, row_nil, hb⟩

set_option maxHeartbeats 1000000 in
theorem cloneInt_any (ad : Addr) (n c : Nat) (ts : List Int) (w : World) (hR : Rd w (some ad) (iz ts)) (hz : ts.length = n) (hn : n ≤ 1048576) (hf : SFit (some ad) n c) :
    Calls Try.prog 92 #[.slice (some ad) n c] w fun e w' => ∃ A' c', e = .returned (.slice A' n c') ∧ w'.ownsRow w.heap.size 3 1 (.slice A' n c') n (iz ts) ∧ Below w.heap.size w w' := by
  have q : ∀ (w : World) (a : Option Addr) (n c n' c' : Nat), (binOp .eql 29 (.slice a n c) (.slice none n' c')).run Try.prog w = .ok (.bool a.isNone) w := fun w a n c n' c' => Lib.run_eql_slice_nil w _ _ a n c n' c' Try.underlying29
  have HR := Lib.hid (hR.below (below_alloc w (.cells #[] 3)))
  have HE := Lib.hid (owns_empty (size := 1) (Own.new w 3 []) (Nat.le_refl w.heap.size))
  have HL := Lib.hid (show (iz ts).length = n * 1 by rw [iz_length, hz, Nat.mul_one])
  have HN : Hid (0 + n ≤ 2097152) := Lib.hid (by omega)
  have HF := Lib.hid hf
  clear hR hf
  go_enter Try.func92, Try.ntmps92
  go_wp2_with (at_builtin; refine appInt.rd rfl _ (.tmp 6) rfl w.heap.size (.slice (some ⟨w.heap.size, 0, none⟩) 0 0) 0 [] rfl HE.out (some ad) n c (iz ts) rfl HR.out HF.out HL.out (iz_one _) HN (by simp) ?_; intro A' c' w1 hown hgrow hb1; rw [Nat.zero_add, List.nil_append] at hown; rw [Nat.zero_add])
  have hb := (below_alloc w (.cells #[] 3)).trans hb1
  go_wp2
  go_ret
  exact ⟨A', c', rfl, hown, hb⟩

/-- s[:p] of a slice that reads as a list -/
theorem int_front {w : World} {ad : Addr} {n c p : Nat} {ts : List Int} (hR : Rd w (some ad) (iz ts)) (hl : ts.length = n) (h0 : 0 < n) (hp : p ≤ n) (hf : SFit (some ad) n c) :
    (∀ W, (Instr.slice 29 (.slice (some ad) n c) none (some (.int .i64 (p : Int))) none).run Try.prog W = .ok (.slice (some ad) p c) W) ∧ Rd w (some ad) (iz (ts.take p)) ∧ SFit (some ad) p c := by
  have hc := hf.1
  refine ⟨fun W => ?_, fun j u hj => hR j u (iz_in_take hj), by omega, fun h => by cases h⟩
  rw [run_slice_h (P := Try.prog) (t := 29) (ht := under_int) (h0 := by omega) (h2 := by omega), size_int]
  obtain ⟨ad0, e0, _, hc0⟩ := hR 0 _ (iz_iat (by omega))
  cases e0
  obtain ⟨b, off, rfl⟩ := plain_of hc0
  simp [sliced, plain_add']

end Go.Proofs.Ytlmlckgnmkjkdaa
