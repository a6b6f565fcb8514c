/-
  laws.sameLat, of lattices that are the same.
-/
import Derived.Test.YtandibofnpndlaaLawKitB
namespace Go.Proofs.Ytandibofnpndlaa
open Go.RowKit

set_option maxHeartbeats 1000000 in
theorem sameLat_same (N : Int) (A B : Option Addr) (ca cb m : Nat) (xs : List Nat) (w : World) (hA : Rd w A (us xs)) (hB : Rd w B (us xs)) (hm : xs.length = m) (hn : m ≤ 9) :
    Calls Try.prog 20 #[.agg #[.int .i64 N, .slice A m ca], .agg #[.int .i64 N, .slice B m cb]] w fun e w' => e = .returned (.bool true) ∧ Below w.heap.size w w' := by
  have hne : (N != N) = false := by simp
  have hne2 : ((m : Int) != (m : Int)) = false := by simp
  have o1 := (Own.new w 26 [.int .i64 N, .slice A m ca]).alloc (.cells #[.int .i64 N, .slice B m cb] 26)
  have o2 := Own.new (w.alloc (.cells #[.int .i64 N, .slice A m ca] 26)) 26 [.int .i64 N, .slice B m cb]
  rw [show (w.alloc (.cells #[.int .i64 N, .slice A m ca] 26)).heap.size = w.heap.size + 1 by simp] at o2
  have hb0 := below_trans (below_alloc w (.cells #[.int .i64 N, .slice A m ca] 26)) (below_alloc _ (.cells #[.int .i64 N, .slice B m cb] 26))
  have HA := Lib.hid (fun W (h : Below w.heap.size w W) => hA.below h)
  have HB := Lib.hid (fun W (h : Below w.heap.size w W) => hB.below h)
  have HM := Lib.hid hm
  clear hA hB hm
  go_enter Try.func20, Try.ntmps20
  go_wp2
  revert o1 o2 hb0
  generalize (w.alloc (.cells #[.int .i64 N, .slice A m ca] 26)).alloc (.cells #[.int .i64 N, .slice B m cb] 26) = w0
  intro o1 o2 hb0
  have HO := Lib.hid (And.intro o1 o2)
  clear o1 o2
  go_loopw [5] (fun i wr => ∃ k : Nat, k ≤ m ∧ i = .int .i64 k ∧ Below w0.heap.size w0 wr) (fun i _ => m - (intOf i).toNat)
  case atStart => exact ⟨0, Nat.zero_le _, rfl, Below.refl _ _⟩
  case round =>
    obtain ⟨k, hk, rfl, hbel⟩ := hrel
    obtain ⟨c0, c1⟩ := (HO.out.1.grow hbel).two
    by_cases hlt : k < m
    · obtain ⟨ad, hea, hca⟩ := (HA.out _ (below_trans hb0 hbel)).nat (by rw [HM.out]; omega)
      obtain ⟨bd, heb, hcb⟩ := (HB.out _ (below_trans hb0 hbel)).nat (by rw [HM.out]; omega)
      subst hea
      subst heb
      have h1 : ∀ u : Bel wr, u.w.cell? (ad.add k) = some (.int .u64 (row xs k : Int)) := fun u => hca _ u.ok k (by rw [HM.out]; exact hlt)
      have h2 : ∀ u : Bel wr, u.w.cell? (bd.add k) = some (.int .u64 (row xs k : Int)) := fun u => hcb _ u.ok k (by rw [HM.out]; exact hlt)
      have h3 : ∀ u : Bel wr, u.w.cell? ⟨w.heap.size, 1, none⟩ = some (.slice (some ad) m ca) := fun u => ((HO.out.1.grow hbel).grow u.ok).two.2
      have h4 : ∀ u : Bel wr, u.w.cell? ⟨w.heap.size + 1, 1, none⟩ = some (.slice (some bd) m cb) := fun u => ((HO.out.2.grow hbel).grow u.ok).two.2
      have hrr : ((row xs k : Int) != (row xs k : Int)) = false := by simp
      clear hca hcb
      go_wp2
      clear c0 c1
      refine wp_region_bel (by kernel_rfl) (by kernel_rfl) ?_
      repeat (go_big_quiet_step (fail))
      refine wpQuiet_nil ?_
      rintro _ ⟨u, rfl⟩
      clear h1 h2 h3 h4
      go_wp2
      go_roundw
      case rel => exact ⟨k + 1, by omega, by go_num, below_trans hbel u.ok⟩
      case measure => simp [intOf]; omega
    · go_wp2
      go_ret
      exact ⟨rfl, below_trans hb0 hbel⟩
end Go.Proofs.Ytandibofnpndlaa
