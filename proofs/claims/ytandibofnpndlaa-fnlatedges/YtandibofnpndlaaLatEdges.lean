/-
  The program's LatEdges.
-/
import Derived.Test.YtandibofnpndlaaLatDown
import Derived.Test.YtandibofnpndlaaMathC
import Derived.Test.YtandibofnpndlaaEdgeKitB
namespace Go.Proofs.Ytandibofnpndlaa
open Go.RowKit

noncomputable def edgesV (N : Int) (xs : List Nat) : List (Int × Int) := if tf (LatP N xs) = true then edgesTo xs xs.length else []
theorem edgesV_no {N : Int} {xs : List Nat} (h : ¬ LatP N xs) : edgesV N xs = [] := by unfold edgesV; rw [← tf_no h]; rfl
theorem edgesV_yes {N : Int} {xs : List Nat} (h : LatP N xs) : edgesV N xs = edgesTo xs xs.length := by unfold edgesV; rw [← tf_yes h]; rfl
theorem edgesV_le (N : Int) (xs : List Nat) : (edgesV N xs).length ≤ 256 := by
  by_cases h : LatP N xs
  · rw [edgesV_yes h]
    have h1 := edgesTo_le xs xs.length
    obtain ⟨_, _, h2⟩ := h.len
    have := Nat.mul_le_mul h2 h2
    omega
  · rw [edgesV_no h]; simp

/-- what has been gathered ahead of edge (k, j) -/
def gath (xs : List Nat) (k j : Nat) : List (Int × Int) := edgesTo xs k ++ edgeRow xs k j
theorem gath_le {xs : List Nat} {k j : Nat} (hn : xs.length ≤ 16) (hk : k ≤ xs.length) (hj : j ≤ xs.length) : (gath xs k j).length ≤ 272 := by
  have h1 := edgesTo_le xs k
  have h2 := edgeRow_le xs k j
  have h3 : k * xs.length ≤ 16 * 16 := Nat.mul_le_mul (by omega) hn
  simp only [gath, List.length_append]
  omega
theorem gath_yes {xs : List Nat} {k j : Nat} (h : isEdge xs k j = true) : gath xs k (j + 1) = gath xs k j ++ [((k : Int), (j : Int))] := by simp [gath, edgeRow_yes h]
theorem gath_no {xs : List Nat} {k j : Nat} (h : isEdge xs k j = false) : gath xs k (j + 1) = gath xs k j := by simp [gath, edgeRow_no h]
theorem gath_next (xs : List Nat) (k : Nat) : gath xs k xs.length = gath xs (k + 1) 0 := by simp [gath, edgesTo_succ, edgeRow]
theorem gath_start (xs : List Nat) : gath xs 0 0 = [] := by simp [gath, edgesTo, edgeRow]
theorem gath_all (xs : List Nat) : gath xs xs.length 0 = edgesTo xs xs.length := by simp [gath, edgeRow]

set_option maxHeartbeats 2000000 in
theorem implLatEdges_any (N : Int) (A : Option Addr) (ca : Nat) (xs : List Nat) (w : World) (hA : Rd w A (us xs)) (hu : U64 xs) (hn : xs.length ≤ 1048576) :
    Calls Try.prog 17 #[.agg #[.int .i64 N, .slice A xs.length ca]] w (RowOf 70 2 w (edgesV N xs).length (ez (edgesV N xs))) := by
  have HA := Lib.hid (fun W (h : Below w.heap.size w W) => hA.below h)
  clear hA
  by_cases hL : LatP N xs
  · obtain ⟨rfl, h1, h16⟩ := hL.len
    go_enter Try.func17, Try.ntmps17
    go_wp2_with fail
    refine (as_bool (tf_yes hL).symm (implLatOk_any _ A ca xs _ (HA.out _ (below_alloc _ _)) hu hn)).mono ?_
    have HL := Lib.hid hL
    clear hL
    rintro e w1 ⟨rfl, hb1⟩
    obtain ⟨ho1, hB1⟩ := box_own hb1
    clear hb1
    obtain ⟨c0, c1⟩ := ho1.two
    go_wp2_with fail
    clear c0 c1
    refine (flipRows_at A ca xs _ (HA.out _ hB1) hu h16).mono ?_
    rintro e w2 ⟨g, rfl, hR, hb2⟩
    have ho2 := ho1.grow hb2
    have hB2 := below_trans hB1 hb2
    have s2 := ho2.lt
    clear hb2 ho1 hB1
    obtain ⟨ad, e', hcf⟩ := hR.nat (by rw [flip_length]; omega)
    obtain rfl : (⟨g, 0, none⟩ : Addr) = ad := by injection e'
    have HF := Lib.hid (fun W (h : Below w2.heap.size w2 W) i (hi : i < xs.length) => hcf W h i (by rw [flip_length]; exact hi))
    clear hcf e' hR
    obtain ⟨ad, rfl, hcu⟩ := (HA.out _ hB2).nat (by omega)
    have HU := Lib.hid hcu
    clear hcu
    have hfu := flip_u64 (xs := xs) (by omega)
    obtain ⟨i0, hi, hz0, hz1', hz2⟩ := info_parts info_edge
    have HI := Lib.hid hi
    have HZ0 := Lib.hid hz0
    have HZ1 := Lib.hid hz1'
    have HZ2 := Lib.hid hz2
    clear hi hz0 hz1' hz2
    obtain ⟨c0, c1⟩ := ho2.two
    go_wp2
    clear c0 c1
    go_loopw [4, 15] (fun v i wr => ∃ k : Nat, k ≤ xs.length ∧ i = .int .i64 k ∧ wr.ownsRow w2.heap.size 70 2 v (gath xs k 0).length (ez (gath xs k 0)) ∧ Below w2.heap.size w2 wr) (fun _ i _ => xs.length - (intOf i).toNat)
    case atStart => exact ⟨0, Nat.zero_le _, rfl, by rw [gath_start]; exact World.ownsRow_nil _ _ _ _, Below.refl _ _⟩
    case round =>
      obtain ⟨k, hk, rfl, hrow, hbel⟩ := hrel
      obtain ⟨c0, c1⟩ := (ho2.below hbel s2).two
      by_cases hlt : k < xs.length
      · go_wp2
        clear c0 c1
        go_loopw [4, 20] (fun v i wr' => ∃ j : Nat, j ≤ xs.length ∧ i = .int .i64 j ∧ wr'.ownsRow w2.heap.size 70 2 v (gath xs k j).length (ez (gath xs k j)) ∧ Below w2.heap.size w2 wr') (fun _ i _ => xs.length - (intOf i).toNat)
        case atStart => exact ⟨0, Nat.zero_le _, rfl, hrow, hbel⟩
        case round =>
          clear hrow hbel
          obtain ⟨j, hj, rfl, hrow, hbel⟩ := hrel
          obtain ⟨c0, c1⟩ := (ho2.below hbel s2).two
          have hsz := hbel.size
          by_cases hlt2 : j < xs.length
          · have hgl := gath_le h16 hk hj
            by_cases hkj : k = j
            · have ht : ((k : Int) != (j : Int)) = false := by rw [hkj]; simp
              have hE : isEdge xs k j = false := by
                cases h : isEdge xs k j with
                | false => rfl
                | true => exact absurd hkj (isEdge_iff.1 h).1.1
              have HE := Lib.hid hE
              clear hE hkj
              go_wp2
              refine wp_region_bel (by kernel_rfl) (by kernel_rfl) ?_
              repeat (go_big_quiet_step (fail))
              refine wpQuiet_nil ?_
              rintro _ ⟨u, rfl⟩
              go_wp2
              go_roundw
              case rel => exact ⟨j + 1, by omega, by go_num, by rw [gath_no HE.out]; exact owns_grow hrow u.ok, hbel.trans (u.ok.mono hsz)⟩
              case measure => simp [intOf]; omega
            · have ht : ((k : Int) != (j : Int)) = true := by rw [bne_iff_ne]; omega
              have g1 : ∀ u : Bel wr, u.w.cell? ⟨w.heap.size, 1, none⟩ = some (.slice (some ad) xs.length ca) := fun u => ((ho2.below hbel s2).grow u.ok).two.2
              have ga : ∀ u : Bel wr, u.w.cell? (ad.add k) = some (.int .u64 (row xs k : Int)) := fun u => HU.out _ (hbel.trans (u.ok.mono hsz)) k hlt
              have gf : ∀ u : Bel wr, u.w.cell? ⟨g, j, none⟩ = some (.int .u64 (row (flip xs) j : Int)) := fun u => by rw [← add_plain]; exact HF.out _ (hbel.trans (u.ok.mono hsz)) j hlt2
              have hra : row xs k < 18446744073709551616 := hu.at k
              have hrf : row (flip xs) j < 18446744073709551616 := hfu.at j
              have hand := and_nat (row xs k) (row (flip xs) j) hra hrf
              have hor : bits .or .u64 ((2 : Int) ^ k) ((2 : Int) ^ j) = ((2 ^ k ||| 2 ^ j : Nat) : Int) := by
                rw [← or_nat (2 ^ k) (2 ^ j) (show 2 ^ k < 2 ^ 64 from Nat.pow_lt_pow_right (by omega) (by omega)) (show 2 ^ j < 2 ^ 64 from Nat.pow_lt_pow_right (by omega) (by omega))]; simp
              have hiff := edge_bits HL.out hlt hlt2 hkj
              have HK := Lib.hid hkj
              clear hkj
              cases hE : isEdge xs k j with
              | false =>
                have hq : (((row xs k &&& row (flip xs) j : Nat) : Int) == ((2 ^ k ||| 2 ^ j : Nat) : Int)) = false := by
                  rw [beq_eq_false_iff_ne]
                  intro h
                  have := hiff.1 (by omega)
                  rw [hE] at this; cases this
                have HE := Lib.hid hE
                clear hiff hE
                go_wp2
                refine wp_region_bel (by kernel_rfl) (by kernel_rfl) ?_
                repeat (go_big_quiet_step ((go_at_call 57; exact bel_of_same _ (labelBit_any _ _ (by omega)))))
                refine wpQuiet_nil ?_
                rintro _ ⟨u, rfl⟩
                go_wp2
                go_roundw
                case rel => exact ⟨j + 1, by omega, by go_num, by rw [gath_no HE.out]; exact owns_grow hrow u.ok, hbel.trans (u.ok.mono hsz)⟩
                case measure => simp [intOf]; omega
              | true =>
                have hq : (((row xs k &&& row (flip xs) j : Nat) : Int) == ((2 ^ k ||| 2 ^ j : Nat) : Int)) = true := by
                  rw [beq_iff_eq, hiff.2 hE]
                have HE := Lib.hid hE
                clear hiff hE
                go_wp2
                refine wp_region_bel (by kernel_rfl) (by kernel_rfl) ?_
                repeat (go_big_quiet_step ((go_at_call 57; exact bel_of_same _ (labelBit_any _ _ (by omega)))))
                refine wpQuiet_nil ?_
                rintro _ ⟨u, rfl⟩
                have hrow1 := owns_grow hrow u.ok
                have hbel1 := hbel.trans (u.ok.mono hsz)
                have hsz1 := hbel1.size
                clear hrow hbel hsz g1 ga gf hand hor hq c0 c1
                generalize u.w = w3 at *
                go_wp2_with ((at_builtin; refine wpList_append_own _ rfl _ _ 28 rfl w2.heap.size 70 i0 (.agg #[.int .i64 0, .int .i64 0]) 2 16 Try.underlying28 HI.out HZ0.out HZ1.out HZ2.out rfl (by decide) _ _ _ rfl (hrow1.alloc _) ⟨w3.heap.size, 0, none⟩ 1 1 [.int .i64 (k : Int), .int .i64 (j : Int)] rfl rfl ?c1 ?c2 ?c3 ?c4 ?c5 ?_))
                case c1 =>
                  intro i u hi
                  match i, hi with
                  | 0, hi => simp at hi; subst hi; simp [Addr.add]
                  | 1, hi => simp at hi; subst hi; simp [Addr.add]
                case c2 => intro u hu'; simp at hu'; rcases hu' with rfl | rfl <;> rfl
                case c3 => unfold maxLen; omega
                case c4 => omega
                case c5 => simp; omega
                intro v' w4 hrow' hgrow _
                have hR2 : w4.ownsRow w2.heap.size 70 2 v' (gath xs k (j + 1)).length (ez (gath xs k (j + 1))) := by
                  rw [gath_yes HE.out, ez_append]; simpa [ez] using hrow'
                have hB4 := append_below hbel1 (by omega) hrow1 (Nat.le_refl _) hgrow
                clear hrow' hgrow hrow1 hbel1 hsz1
                go_wp2
                go_roundw
                case rel => exact ⟨j + 1, by omega, by go_num, hR2, hB4⟩
                case measure => simp [intOf]; omega
          · go_wp2
            go_roundw
            case rel => exact ⟨k + 1, by omega, by go_num, by rw [← gath_next, show xs.length = j by omega]; exact hrow, hbel⟩
            case measure => simp [intOf]; omega
      · go_wp2
        go_ret
        refine ⟨_, rfl, ?_, below_trans hB2 hbel⟩
        have hkn : k = xs.length := by omega
        subst hkn
        rw [edgesV_yes HL.out, ← gath_all]
        exact owns_base hrow (by omega)
  · go_enter Try.func17, Try.ntmps17
    go_wp2_with fail
    refine (as_bool (tf_no hL).symm (implLatOk_any N A ca xs _ (HA.out _ (below_alloc _ _)) hu hn)).mono ?_
    have HL := Lib.hid hL
    clear hL
    rintro e w1 ⟨rfl, hb1⟩
    go_wp2
    go_ret
    refine ⟨_, rfl, ?_, (box_own hb1).2⟩
    rw [edgesV_no HL.out]
    exact World.ownsRow_nil _ _ _ _
end Go.Proofs.Ytandibofnpndlaa
