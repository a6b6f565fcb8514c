/-
  What the laws' own helpers on rows of numbers return: equality, marks, and whether the marks are held.
-/
import Derived.Test.YtandibofnpndlaaLawKit
namespace Go.Proofs.Ytandibofnpndlaa
open Go.RowKit

set_option maxHeartbeats 400000 in
theorem eqIntS_any (A B : Option Addr) (ca cb : Nat) (xs ys : List Int) (w : World) (hA : Rd w A (iz xs)) (hB : Rd w B (iz ys)) (hn : xs.length < 4611686018427387904) (hm : ys.length < 4611686018427387904) :
    Calls Try.prog 47 #[.slice A xs.length ca, .slice B ys.length cb] w fun e w' => e = .returned (.bool (decide (xs = ys))) ∧ Below w.heap.size w w' := by
  by_cases hl : xs.length = ys.length
  · have hl1 : ((xs.length : Int) != (ys.length : Int)) = false := by simp [hl]
    have HL := Lib.hid hl
    clear hl
    go_enter Try.func47, Try.ntmps47
    go_wp2
    go_loopw [5] (fun i wr => ∃ k : Nat, k ≤ xs.length ∧ i = .int .i64 k ∧ Hid (xs.take k = ys.take k) ∧ Below w.heap.size w wr) (fun i _ => xs.length - (intOf i).toNat)
    case atStart => exact ⟨0, Nat.zero_le _, rfl, Lib.hid (by simp), Below.refl _ _⟩
    case round =>
      obtain ⟨k, hk, rfl, hpre, hbel⟩ := hrel
      by_cases hlt : k < xs.length
      · have hlt2 : k < ys.length := by rw [← HL.out]; exact hlt
        obtain ⟨ad, rfl, hb1, hc1⟩ := hA k _ (iz_at hlt)
        obtain ⟨bd, rfl, hb2, hc2⟩ := hB k _ (iz_at hlt2)
        have h1 : ∀ u : Bel wr, u.w.cell? (ad.add k) = some (.int .i64 (xs.getD k 0)) := fun u => ((below_trans hbel u.ok).cell (by rw [add_block]; exact hb1)).trans hc1
        have h2 : ∀ u : Bel wr, u.w.cell? (bd.add k) = some (.int .i64 (ys.getD k 0)) := fun u => ((below_trans hbel u.ok).cell (by rw [add_block]; exact hb2)).trans hc2
        clear hc1 hc2
        go_wp2
        refine wp_region_bel (by kernel_rfl) (by kernel_rfl) ?_
        repeat (go_big_quiet_step (fail))
        refine wpQuiet_nil ?_
        rintro _ ⟨u, rfl⟩
        by_cases heq : xs[k] = ys[k]
        · have hne : (xs[k] != ys[k]) = false := by simp [heq]
          have HE := Lib.hid heq
          clear heq
          go_wp2
          go_roundw
          case rel => exact ⟨k + 1, by omega, by go_num, Lib.hid (take_next hlt hlt2 hpre.out HE.out), below_trans hbel u.ok⟩
          case measure => simp [intOf]; omega
        · have hne : (xs[k] != ys[k]) = true := by rw [bne_iff_ne]; omega
          go_wp2
          go_ret
          exact ⟨ret_bool (by rw [eq_comm, decide_eq_false_iff_not]; rintro rfl; exact heq rfl), below_trans hbel u.ok⟩
      · go_wp2
        go_ret
        refine ⟨ret_bool ?_, hbel⟩
        have hp := hpre.out
        have hll := HL.out
        rw [List.take_of_length_le (by omega), List.take_of_length_le (by omega)] at hp
        simp [hp]
  · have hl1 : ((xs.length : Int) != (ys.length : Int)) = true := by rw [bne_iff_ne]; omega
    go_enter Try.func47, Try.ntmps47
    go_wp2
    go_ret
    exact ⟨ret_bool (by rw [eq_comm, decide_eq_false_iff_not]; rintro rfl; exact hl rfl), Below.refl _ _⟩

/-- the numbers from k on, n of them -/
def marks (k : Int) : Nat → List Int
  | 0 => []
  | n + 1 => k :: marks (k + 1) n
theorem marks_length (k : Int) (n : Nat) : (marks k n).length = n := by
  induction n generalizing k with
  | zero => rfl
  | succ n ih => simp [marks, ih]
theorem marks_at {k : Int} {n i : Nat} (h : i < n) : (marks k n).getD i 0 = k + i := by
  induction n generalizing k i with
  | zero => omega
  | succ n ih =>
    cases i with
    | zero => simp [marks]
    | succ i => simp only [marks, List.getD_cons_succ]; rw [ih (by omega)]; omega
theorem marks_snoc (k : Int) (n : Nat) : marks k (n + 1) = marks k n ++ [k + n] := by
  induction n generalizing k with
  | zero => simp [marks]
  | succ n ih => rw [marks, ih (k + 1)]; simp [marks]; omega

/-- a row whose first i numbers have been marked -/
def markTo (zs : List Int) (k : Int) (i : Nat) : List Int := marks k i ++ zs.drop i
theorem markTo_length {zs : List Int} {k : Int} {i : Nat} (h : i ≤ zs.length) : (markTo zs k i).length = zs.length := by simp [markTo, marks_length]; omega
theorem markTo_zero (zs : List Int) (k : Int) : markTo zs k 0 = zs := by simp [markTo, marks]
theorem markTo_all (zs : List Int) (k : Int) : markTo zs k zs.length = marks k zs.length := by simp [markTo]
theorem markTo_set {zs : List Int} {k : Int} {i : Nat} (h : i < zs.length) : (markTo zs k i).set i (k + i) = markTo zs k (i + 1) := by
  unfold markTo
  rw [List.set_append, if_neg (by rw [marks_length]; omega), marks_length, Nat.sub_self, List.drop_eq_getElem_cons h, List.set_cons_zero, marks_snoc]
  simp
theorem iz_set (xs : List Int) (k : Nat) (v : Int) : (iz xs).set k (.int .i64 v) = iz (xs.set k v) := by
  simp [iz, List.map_set]

set_option maxHeartbeats 400000 in
theorem markIntS_any (v : Value) (base : Nat) (zs : List Int) (k : Int) (w : World) (hown : w.ownsRow base 3 1 v zs.length (iz zs)) (h0 : 0 ≤ k) (h1 : k ≤ 4611686018427387904) (hn : zs.length ≤ 1048576) :
    Calls Try.prog 48 #[v, .int .i64 k] w fun e w' => e = .returned (.int .i64 (k + zs.length)) ∧ w'.ownsRow base 3 1 v zs.length (iz (marks k zs.length)) ∧ w.grownBy w' v.ownBlock := by
  obtain ⟨A, c, rfl, _⟩ := owns_rd hown
  go_enter Try.func48, Try.ntmps48
  go_wp2
  go_loopw [1, 5] (fun q i wr => ∃ j : Nat, j ≤ zs.length ∧ i = .int .i64 j ∧ q = .int .i64 (k + j) ∧ wr.ownsRow base 3 1 (.slice A zs.length c) zs.length (iz (markTo zs k j)) ∧ w.grownBy wr (Value.slice A zs.length c).ownBlock) (fun _ i _ => zs.length - (intOf i).toNat)
  case atStart => exact ⟨0, Nat.zero_le _, rfl, by simp, by rw [markTo_zero]; exact hown, World.grownBy.refl _ _⟩
  case round =>
    obtain ⟨j, hj, rfl, rfl, ho, hg⟩ := hrel
    by_cases hlt : j < zs.length
    · obtain ⟨g, rfl⟩ : ∃ g, A = some ⟨g, 0, none⟩ := by
        rcases ho.2 with ⟨h, h'⟩ | ⟨g, cap, cur, h, _⟩
        · omega
        · injection h with h; exact ⟨g, h⟩
      have hcf : wr.cell? ⟨g, j, none⟩ = some (.int .i64 ((markTo zs k j).getD j 0)) := by
        rw [ho.cellAt j (by omega), iz_at (by rw [markTo_length hj]; exact hlt)]
      have hff := ho.frozenAt j
      have HO := Lib.hid (ho.stored j (.int .i64 (k + j)))
      go_wp2
      go_roundw
      case rel =>
        have := HO.out
        rw [iz_set, markTo_set hlt] at this
        exact ⟨j + 1, by omega, by go_num, by go_num, this.1, grownBy_trans hg this.2⟩
      case measure => simp [intOf]; omega
    · go_wp2
      go_ret
      have hjn : j = zs.length := by omega
      subst hjn
      exact ⟨rfl, by rw [← markTo_all]; exact ho, hg⟩
theorem uz_set (xs : List Int) (k : Nat) (v : Int) : (uz xs).set k (.int .u64 v) = uz (xs.set k v) := by
  simp [uz, List.map_set]

set_option maxHeartbeats 400000 in
theorem markUint64S_any (v : Value) (base : Nat) (zs : List Int) (k : Int) (w : World) (hown : w.ownsRow base 67 1 v zs.length (uz zs)) (h0 : 0 ≤ k) (h1 : k ≤ 4611686018427387904) (hn : zs.length ≤ 1048576) :
    Calls Try.prog 74 #[v, .int .i64 k] w fun e w' => e = .returned (.int .i64 (k + zs.length)) ∧ w'.ownsRow base 67 1 v zs.length (uz (marks k zs.length)) ∧ w.grownBy w' v.ownBlock := by
  obtain ⟨A, c, rfl, _⟩ := owns_rd hown
  go_enter Try.func74, Try.ntmps74
  go_wp2
  go_loopw [1, 5] (fun q i wr => ∃ j : Nat, j ≤ zs.length ∧ i = .int .i64 j ∧ q = .int .i64 (k + j) ∧ wr.ownsRow base 67 1 (.slice A zs.length c) zs.length (uz (markTo zs k j)) ∧ w.grownBy wr (Value.slice A zs.length c).ownBlock) (fun _ i _ => zs.length - (intOf i).toNat)
  case atStart => exact ⟨0, Nat.zero_le _, rfl, by simp, by rw [markTo_zero]; exact hown, World.grownBy.refl _ _⟩
  case round =>
    obtain ⟨j, hj, rfl, rfl, ho, hg⟩ := hrel
    by_cases hlt : j < zs.length
    · obtain ⟨g, rfl⟩ : ∃ g, A = some ⟨g, 0, none⟩ := by
        rcases ho.2 with ⟨h, h'⟩ | ⟨g, cap, cur, h, _⟩
        · omega
        · injection h with h; exact ⟨g, h⟩
      have hcf : wr.cell? ⟨g, j, none⟩ = some (.int .u64 ((markTo zs k j).getD j 0)) := by
        rw [ho.cellAt j (by omega), uz_at (by rw [markTo_length hj]; exact hlt)]
      have hff := ho.frozenAt j
      have HO := Lib.hid (ho.stored j (.int .u64 (k + j)))
      go_wp2
      go_roundw
      case rel =>
        have := HO.out
        rw [uz_set, markTo_set hlt] at this
        exact ⟨j + 1, by omega, by go_num, by go_num, this.1, grownBy_trans hg this.2⟩
      case measure => simp [intOf]; omega
    · go_wp2
      go_ret
      have hjn : j = zs.length := by omega
      subst hjn
      exact ⟨rfl, by rw [← markTo_all]; exact ho, hg⟩

set_option maxHeartbeats 400000 in
theorem heldIntS_any (A : Option Addr) (c n : Nat) (k : Int) (w : World) (hA : Rd w A (iz (marks k n))) (h0 : 0 ≤ k) (h1 : k ≤ 4611686018427387904) (hn : n ≤ 1048576) :
    Calls Try.prog 49 #[.slice A n c, .int .i64 k] w fun e w' => e = .returned (.int .i64 (k + n)) ∧ w = w' := by
  go_enter Try.func49, Try.ntmps49
  go_wp2
  go_loop [1, 5] (fun q i => ∃ j : Nat, j ≤ n ∧ i = .int .i64 j ∧ q = .int .i64 (k + j)) (fun _ i => n - (intOf i).toNat)
  case atStart => exact ⟨0, Nat.zero_le _, rfl, by simp⟩
  case round =>
    obtain ⟨j, hj, rfl, rfl⟩ := hrel
    by_cases hlt : j < n
    · obtain ⟨ad, rfl, _, hc⟩ := hA j _ (iz_at (by rw [marks_length]; exact hlt))
      rw [marks_at hlt] at hc
      have hne : ((k + j : Int) != k + j) = false := by simp
      go_wp2
      go_round
      case rel => exact ⟨j + 1, by omega, by go_num, by go_num⟩
      case measure => simp [intOf]; omega
    · go_wp2
      go_ret
      exact ⟨ret_int (by omega), rfl⟩

set_option maxHeartbeats 400000 in
theorem heldUint64S_any (A : Option Addr) (c n : Nat) (k : Int) (w : World) (hA : Rd w A (uz (marks k n))) (h0 : 0 ≤ k) (h1 : k ≤ 4611686018427387904) (hn : n ≤ 1048576) :
    Calls Try.prog 75 #[.slice A n c, .int .i64 k] w fun e w' => e = .returned (.int .i64 (k + n)) ∧ w = w' := by
  go_enter Try.func75, Try.ntmps75
  go_wp2
  go_loop [1, 5] (fun q i => ∃ j : Nat, j ≤ n ∧ i = .int .i64 j ∧ q = .int .i64 (k + j)) (fun _ i => n - (intOf i).toNat)
  case atStart => exact ⟨0, Nat.zero_le _, rfl, by simp⟩
  case round =>
    obtain ⟨j, hj, rfl, rfl⟩ := hrel
    by_cases hlt : j < n
    · obtain ⟨ad, rfl, _, hc⟩ := hA j _ (uz_at (by rw [marks_length]; exact hlt))
      rw [marks_at hlt] at hc
      have hne : ((k + j : Int) != k + j) = false := by simp
      go_wp2
      go_round
      case rel => exact ⟨j + 1, by omega, by go_num, by go_num⟩
      case measure => simp [intOf]; omega
    · go_wp2
      go_ret
      exact ⟨ret_int (by omega), rfl⟩

set_option maxHeartbeats 400000 in
theorem markLat_any (N : Int) (g base : Nat) (xs : List Nat) (k : Int) (w : World) (hown : w.ownsRow base 67 1 (.slice (some ⟨g, 0, none⟩) xs.length xs.length) xs.length (us xs)) (h0 : 0 ≤ k) (h1 : k ≤ 4611686018427387904) (hn : xs.length ≤ 1048576) :
    Calls Try.prog 41 #[.agg #[.int .i64 N, .slice (some ⟨g, 0, none⟩) xs.length xs.length], .int .i64 k] w fun e w' => e = .returned (.int .i64 (k + xs.length)) ∧
      w'.ownsRow base 67 1 (.slice (some ⟨g, 0, none⟩) xs.length xs.length) xs.length (uz (marks k xs.length)) ∧ w.grownBy w' (some g) := by
  rw [us_uz] at hown
  have hl : (xs.map fun n : Nat => (n : Int)).length = xs.length := by simp
  have c := fun W (h : W.ownsRow base 67 1 (.slice (some ⟨g, 0, none⟩) xs.length xs.length) xs.length (uz (xs.map fun n : Nat => (n : Int)))) => markUint64S_any (.slice (some ⟨g, 0, none⟩) xs.length xs.length) base (xs.map fun n : Nat => (n : Int)) k W (by rw [hl]; exact h) h0 h1 (by rw [hl]; exact hn)
  rw [hl] at c
  have C := Lib.hid c
  clear c hl
  go_enter Try.func41, Try.ntmps41
  go_wp2_with fail
  refine (C.out _ (owns_grow hown (below_alloc _ _))).mono ?_
  rintro e w1 ⟨rfl, ho, hg⟩
  go_wp2
  go_ret
  exact ⟨rfl, ho, grownBy_trans (grownBy_of (below_alloc _ _) _) hg⟩

set_option maxHeartbeats 400000 in
theorem heldLat_any (N : Int) (A : Option Addr) (c n : Nat) (k : Int) (w : World) (hA : Rd w A (uz (marks k n))) (h0 : 0 ≤ k) (h1 : k ≤ 4611686018427387904) (hn : n ≤ 1048576) :
    Calls Try.prog 42 #[.agg #[.int .i64 N, .slice A n c], .int .i64 k] w fun e w' => e = .returned (.int .i64 (k + n)) ∧ Below w.heap.size w w' := by
  have HA := Lib.hid (fun o => hA.below (below_alloc w o))
  clear hA
  go_enter Try.func42, Try.ntmps42
  go_wp2_with (go_at_call 75; refine (heldUint64S_any A c n k _ (HA.out _) h0 h1 hn).mono ?_; rintro e w' ⟨rfl, rfl⟩)
  go_ret
  exact ⟨rfl, below_alloc _ _⟩
end Go.Proofs.Ytandibofnpndlaa
