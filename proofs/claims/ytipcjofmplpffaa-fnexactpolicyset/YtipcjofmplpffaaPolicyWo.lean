/-
  l04Without: what it returns.
-/
import Derived.Test.YtipcjofmplpffaaPolicyOkS
import Derived.Test.YtipcjofmplpffaaIntAt
import Derived.Test.YtipcjofmplpffaaKitPunct
namespace Go.Proofs.Ytipcjofmplpffaa
open Go.RowKit

theorem l04One_is {a b c d a' b' c' d' : Int} {B : Bool} (h : decide (sameP (a, b, c, d) (a', b', c', d')) = B) (w : World) :
    Calls Try.prog 77 #[pv a b c d, pv a' b' c' d'] w fun e w' => e = .returned (.bool B) ∧ Below w.heap.size w w' := as_bool h (l04One_any a b c d a' b' c' d' w)

/-- the one new entry of an append, as cells -/
theorem quad_new {W : World} {x0 x1 x2 x3 : Int} : ∀ j u, [Value.int .i64 x0, .int .i64 x1, .int .i64 x2, .int .i64 x3][j]? = some u →
    (W.alloc (.cells #[.int .i64 x0, .int .i64 x1, .int .i64 x2, .int .i64 x3] 29)).cell? ((⟨W.heap.size, 0, none⟩ : Addr).add j) = some u := by
  intro j u hj
  rw [add_plain, (Own.new W 29 [Value.int .i64 x0, .int .i64 x1, .int .i64 x2, .int .i64 x3]).cell]
  exact hj
set_option maxRecDepth 100000 in
set_option maxHeartbeats 1000000 in
theorem l04Without_any (B : Option Addr) (cb : Nat) (ps : List Pn) (a b c d : Int) (w : World) (hB : Rd w B (iz (qz ps))) (hm : ps.length ≤ 1048588) :
    Calls Try.prog 43 #[.slice B ps.length cb, pv a b c d] w fun e w' => ∃ v, e = .returned v ∧ v ≠ .slice none 0 0 ∧ w'.ownsRow w.heap.size 29 4 v (without ps (a, b, c, d)).length (iz (qz (without ps (a, b, c, d)))) ∧ Below w.heap.size w w' := by
  have HB := Lib.hid hB
  clear hB
  obtain ⟨i0, hi, hz0, hz1', hz2⟩ := info_parts info_Punct
  have HI := Lib.hid hi
  have HZ0 := Lib.hid hz0
  have HZ1 := Lib.hid hz1'
  have HZ2 := Lib.hid hz2
  clear hi hz0 hz1' hz2
  go_enter Try.func43, Try.ntmps43
  go_wp2
  go_loopw [5, 6] (fun v i wr => ∃ k : Nat, k ≤ ps.length ∧ i = .int .i64 k ∧ v ≠ .slice none 0 0 ∧ wr.ownsRow (w.heap.size + 1) 29 4 v (without (ps.take k) (a, b, c, d)).length (iz (qz (without (ps.take k) (a, b, c, d)))) ∧
    Own wr w.heap.size 29 [.int .i64 a, .int .i64 b, .int .i64 c, .int .i64 d] ∧ w.heap.size + 1 ≤ wr.heap.size ∧ Below w.heap.size w wr) (fun _ i _ => ps.length - (intOf i).toNat)
  case atStart =>
    refine ⟨0, Nat.zero_le _, rfl, by simp, ?_, (Own.new w 29 [.int .i64 a, .int .i64 b, .int .i64 c, .int .i64 d]).alloc _, by simp, below_trans (below_alloc _ _) (below_alloc _ _)⟩
    have := World.ownsRow_lit (base := w.heap.size + 1) (e := 29) (size := 4) (w.alloc (.cells #[.int .i64 a, .int .i64 b, .int .i64 c, .int .i64 d] 29)) #[] 0 (by simp) (by simp) (by simp)
    simpa [without, qz, iz] using this
  case round =>
    obtain ⟨k, hk, rfl, hnn, hrow, hown, hsz, hbel⟩ := hrel
    by_cases hlt : k < ps.length
    · obtain ⟨g, off, rfl, c0, c1, c2, c3⟩ := quad_cells HB.out hbel hlt
      have p0 : ∀ u : Bel wr, u.w.cell? ⟨w.heap.size, 0, none⟩ = some (.int .i64 a) := fun u => (hown.grow u.ok).cell 0
      have p1 : ∀ u : Bel wr, u.w.cell? ⟨w.heap.size, 1, none⟩ = some (.int .i64 b) := fun u => (hown.grow u.ok).cell 1
      have p2 : ∀ u : Bel wr, u.w.cell? ⟨w.heap.size, 2, none⟩ = some (.int .i64 c) := fun u => (hown.grow u.ok).cell 2
      have p3 : ∀ u : Bel wr, u.w.cell? ⟨w.heap.size, 3, none⟩ = some (.int .i64 d) := fun u => (hown.grow u.ok).cell 3
      have HS := Lib.hid (without_snoc (p := (a, b, c, d)) hlt)
      have hwl := without_length (ps.take k) (a, b, c, d)
      rw [List.length_take] at hwl
      generalize qat ps k = q at *
      obtain ⟨q0, q1, q2, q3⟩ := q
      by_cases hs : sameP (q0, q1, q2, q3) (a, b, c, d)
      · have HD := Lib.hid (decide_eq_true hs)
        have HR := Lib.hid (show without (ps.take (k + 1)) (a, b, c, d) = without (ps.take k) (a, b, c, d) by rw [HS.out, if_pos hs, List.append_nil])
        clear hs HS
        go_wp2
        refine wp_region_bel (by kernel_rfl) (by kernel_rfl) ?_
        repeat (go_big_quiet_step ((go_at_call 77; exact bel_of _ (l04One_is HD.out _))))
        refine wpQuiet_nil ?_
        rintro _ ⟨u, rfl⟩
        go_wp2
        go_roundw
        case rel => exact ⟨k + 1, by omega, by go_num, hnn, by rw [HR.out]; exact owns_grow hrow u.ok, hown.grow u.ok, by have := u.ok.size; omega, below_trans hbel u.ok⟩
        case measure => simp [intOf]; omega
      · have HD := Lib.hid (decide_eq_false hs)
        have HR := Lib.hid (show without (ps.take (k + 1)) (a, b, c, d) = without (ps.take k) (a, b, c, d) ++ [(q0, q1, q2, q3)] by rw [HS.out, if_neg hs])
        clear hs HS
        go_wp2
        refine wp_region_bel (by kernel_rfl) (by kernel_rfl) ?_
        repeat (go_big_quiet_step ((go_at_call 77; exact bel_of _ (l04One_is HD.out _))))
        refine wpQuiet_nil ?_
        rintro _ ⟨u, rfl⟩
        have d0 := c0 u
        have d1 := c1 u
        have d2 := c2 u
        have d3 := c3 u
        have hrow1 := owns_grow hrow u.ok
        have hown1 := hown.grow u.ok
        have hbel1 := below_trans hbel u.ok
        have hsz1 : w.heap.size + 1 ≤ u.w.heap.size := by have := u.ok.size; omega
        clear c0 c1 c2 c3 p0 p1 p2 p3 hrow hown hbel hsz
        generalize u.w = w3 at *
        generalize hW : without (ps.take k) (a, b, c, d) = ws at *
        go_wp2_with (at_builtin; refine wpList_append_own _ rfl _ _ 27 rfl (w.heap.size + 1) 29 i0 (.agg #[.int .i64 0, .int .i64 0, .int .i64 0, .int .i64 0]) 4 32 Try.underlying27 HI.out HZ0.out HZ1.out HZ2.out rfl (by decide) _ _ _ rfl (hrow1.alloc _) ⟨w3.heap.size, 0, none⟩ 1 1 [.int .i64 q0, .int .i64 q1, .int .i64 q2, .int .i64 q3] rfl rfl quad_new (by intro u hu'; simp at hu'; rcases hu' with rfl | rfl | rfl | rfl <;> rfl) (by unfold maxLen; omega) (by omega) (by simp; omega) ?_; intro v' w4 hrow' hgrow hnil)
        have hR2 : w4.ownsRow (w.heap.size + 1) 29 4 v' (without (ps.take (k + 1)) (a, b, c, d)).length (iz (qz (without (ps.take (k + 1)) (a, b, c, d)))) := by
          rw [HR.out, qz_append, iz_append]; simpa [iz, qz, qf] using hrow'
        have hO2 := append_box hrow1 hown1 (by omega) hgrow
        have hB2 := append_below hbel1 (by omega) hrow1 (by omega) hgrow
        have hS2 : w.heap.size + 1 ≤ w4.heap.size := by have := hgrow.size; simp at this; omega
        have hnn2 : v' ≠ .slice none 0 0 := by simpa using hnil
        clear hnil hrow' hgrow hrow1 hown1 hbel1 hsz1 d0 d1 d2 d3
        go_wp2
        go_roundw
        case rel => exact ⟨k + 1, by omega, by go_num, hnn2, hR2, hO2, hS2, hB2⟩
        case measure => simp [intOf]; omega
    · go_wp2
      go_ret
      refine ⟨_, rfl, hnn, ?_, hbel⟩
      have hkn : k = ps.length := by omega
      subst hkn
      rw [List.take_length] at hrow
      exact owns_base hrow (by omega)
end Go.Proofs.Ytipcjofmplpffaa
