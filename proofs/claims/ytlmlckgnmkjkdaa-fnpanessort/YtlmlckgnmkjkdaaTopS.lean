/-
  TopOf of the model: the greatest is picked four times.
-/
import Derived.Test.YtlmlckgnmkjkdaaTopI
import Derived.Test.YtlmlckgnmkjkdaaIntCut
namespace Go.Proofs.Ytlmlckgnmkjkdaa
open Go.RowKit

def slLen : Value → Nat
  | .slice _ n _ => n
  | _ => 0

/-- what has been picked, and what is left -/
structure Picks (w wr : World) (L : List Int) (A5 : Option Addr) (c5 : Nat) (all : List Int) (A6 : Option Addr) (c6 : Nat) (out : List Int) : Prop where
  ra : wr.ownsRow w.heap.size 3 1 (.slice A5 all.length c5) all.length (iz all)
  ro : wr.ownsRow w.heap.size 3 1 (.slice A6 out.length c6) out.length (iz out)
  ap : (Value.slice A5 all.length c5).ownBlock ≠ (Value.slice A6 out.length c6).ownBlock
  eq : dsort L = out ++ dsort all
  lo : out.length ≤ 4
  la : all.length ≤ L.length
  hb : Below w.heap.size w wr

theorem Picks.done {w wr : World} {L : List Int} {A5 : Option Addr} {c5 : Nat} {all : List Int} {A6 : Option Addr} {c6 : Nat} {out : List Int} (h : Picks w wr L A5 c5 all A6 c6 out) (hd : ¬ (out.length < 4 ∧ 0 < all.length)) : out = topOf L := by
  rw [topOf_take, h.eq]
  have := h.lo
  by_cases h4 : out.length < 4
  · have : all = [] := List.eq_nil_of_length_eq_zero (by omega)
    subst this
    rw [show dsort [] = [] from rfl, List.append_nil, List.take_of_length_le (by omega)]
  · rw [List.take_append_of_le_length (by omega), List.take_of_length_le (by omega)]
theorem pick_next {L out all : List Int} {b : Nat} (h : dsort L = out ++ dsort all) (hb : b < all.length) (hm : ∀ i, i < all.length → iat all i ≤ iat all b) : dsort L = (out ++ [iat all b]) ++ dsort (all.take b ++ all.drop (b + 1)) := by
  rw [h, dsort_pick hb hm]; simp

set_option maxRecDepth 100000 in
set_option maxHeartbeats 4000000 in
theorem specTopOf_any (A : Option Addr) (n ca : Nat) (xs : List Int) (B : Option Addr) (m cb : Nat) (ys : List Int) (w : World) (hA : Rd w A (iz xs)) (hz : xs.length = n) (hn : n ≤ 1048576) (hf : SFit A n ca)
    (hB : Rd w B (iz ys)) (hy : ys.length = m) (hm : m ≤ 1048576) (hg : SFit B m cb) :
    Calls Try.prog 102 #[.slice A n ca, .slice B m cb] w (IntsRes (topOf (xs ++ ys)) w) := by
  have HA := Lib.hid (hA.below (below_alloc w (.cells #[] 3)))
  have HB := Lib.hid (hB.below (below_alloc w (.cells #[] 3)))
  have HE := Lib.hid (owns_empty (size := 1) (Own.new w 3 []) (Nat.le_refl w.heap.size))
  have HLA := Lib.hid (show (iz xs).length = n * 1 by rw [iz_length]; omega)
  have HLB := Lib.hid (show (iz ys).length = m * 1 by rw [iz_length]; omega)
  have HN1 : Hid (0 + n ≤ 2097152) := Lib.hid (by omega)
  have HN2 : Hid (n + m ≤ 2097152) := Lib.hid (by omega)
  have HF := Lib.hid hf
  have HG := Lib.hid hg
  have HLL := Lib.hid (show (xs ++ ys).length = n + m by simp [hz, hy])
  have HRB := Lib.hid hB
  clear hA hB hf hg hz hy
  go_enter Try.func102, Try.ntmps102
  go_wp2_with (first
    | (at_builtin; refine appInt.rd rfl _ (.tmp 10) rfl w.heap.size (.slice (some ⟨w.heap.size, 0, none⟩) 0 0) 0 [] rfl HE.out A n ca (iz xs) rfl HA.out HF.out HLA.out (iz_one _) HN1 (by simp) ?_; intro A1 c1 w1 hown1 hgrow1 hb1; rw [Nat.zero_add, List.nil_append] at hown1; rw [Nat.zero_add])
    | (at_builtin; refine appInt.rd rfl _ (.tmp 12) rfl w.heap.size (.slice A1 n c1) n (iz xs) rfl hown1 B m cb (iz ys) rfl (HRB.out.below ((below_alloc _ _).trans hb1)) HG.out HLB.out (iz_one _) HN2 (by have := hb1.size; simp at this; omega) ?_; intro A2 c2 w2 hown2 hgrow2 hb2))
  have HS := Lib.hid (show Picks w (w2.alloc (.cells #[] 3)) (xs ++ ys) A2 c2 (xs ++ ys) (some ⟨w2.heap.size, 0, none⟩) 0 [] by
    have hsz := hb1.size
    have hsz2 := hb2.size
    rw [World.size_alloc] at hsz
    refine ⟨?_, owns_empty (Own.new w2 3 []) (by omega), ?_, rfl, by simp, Nat.le_refl _, ((below_alloc w _).trans (hb1.trans hb2)).alloc (by omega) _⟩
    · rw [HLL.out, iz_append]; exact hown2.alloc _
    · intro e
      have := (hown2.lt _ (show (Value.slice A2 (n + m) c2).ownBlock = some w2.heap.size by rw [← HLL.out]; exact e)).2
      omega)
  clear hown1 hown2 hgrow1 hgrow2 hb1 hb2 HA HB HRB HE
  go_wp2_with fail
  go_loopw [5, 6] (fun s5 s6 wr => ∃ (A5 : Option Addr) (c5 : Nat) (all : List Int) (A6 : Option Addr) (c6 : Nat) (out : List Int), s5 = .slice A5 all.length c5 ∧ s6 = .slice A6 out.length c6 ∧ Hid (Picks w wr (xs ++ ys) A5 c5 all A6 c6 out)) (fun s5 _ _ => slLen s5)
  case atStart => exact ⟨A2, c2, xs ++ ys, _, 0, [], by rw [HLL.out], rfl, HS⟩
  case round =>
    clear HS
    obtain ⟨A5, c5, all, A6, c6, out, rfl, rfl, HP⟩ := hrel
    have HLQ := Lib.hid (show all.length ≤ 2097152 by have := HP.out.la; rw [HLL.out] at this; omega)
    by_cases hd : out.length < 4 ∧ 0 < all.length
    · obtain ⟨hd1, hd2⟩ := hd
      obtain ⟨ad, rfl, hc⟩ := rd_int (RowAt.reads (RowAt.of HP.out.ra)) hd2
      have HC := Lib.hid hc
      clear hc
      generalize wr = w3 at *
      go_wp2_with fail
      go_loopw [7, 8] (fun s7 s8 wq => ∃ k : Nat, k ≤ all.length ∧ s8 = .int .i64 k ∧ s7 = .int .i64 (best all k : Nat) ∧ Below w3.heap.size w3 wq) (fun _ s8 _ => all.length - (intOf s8).toNat)
      case atStart => exact ⟨0, Nat.zero_le _, rfl, rfl, Below.refl _ _⟩
      case round =>
        obtain ⟨k, hk, rfl, rfl, hbel⟩ := hrel
        by_cases hlt : k < all.length
        · have hbl : best all k < all.length := by
            cases k with
            | zero => exact hd2
            | succ k => have := best_lt (l := all) (k := k + 1) (by omega); omega
          have hw : (k : Int) ≤ 2097152 := by have := HLQ.out; omega
          have k1 : ∀ u : Bel wr, u.w.cell? (ad.add k) = some (.int .i64 (iat all k)) := fun u => HC.out _ (below_trans hbel u.ok) k hlt
          have k2 : ∀ u : Bel wr, u.w.cell? (ad.add (best all k)) = some (.int .i64 (iat all (best all k))) := fun u => HC.out _ (below_trans hbel u.ok) _ hbl
          by_cases hg : iat all (best all k) < iat all k
          · have HB := Lib.hid (show best all (k + 1) = k by unfold best; rw [if_pos hg])
            have HG := Lib.hid hg
            generalize best all k = b at *
            go_wp2_with fail
            refine wp_region_bel (by kernel_rfl) (by kernel_rfl) ?_
            repeat (go_big_quiet_step (fail))
            refine wpQuiet_nil ?_
            rintro _ ⟨u, rfl⟩
            clear k1 k2
            go_wp2_with fail
            go_roundw
            case rel => exact ⟨k + 1, by omega, by go_num, by rw [HB.out], below_trans hbel u.ok⟩
            case measure => simp [intOf]; omega
          · have HB := Lib.hid (show best all (k + 1) = best all k by rw [best, if_neg hg])
            have hg2 : ¬ iat all k > iat all (best all k) := hg
            generalize best all k = b at *
            go_wp2_with fail
            refine wp_region_bel (by kernel_rfl) (by kernel_rfl) ?_
            repeat (go_big_quiet_step (fail))
            refine wpQuiet_nil ?_
            rintro _ ⟨u, rfl⟩
            clear k1 k2
            go_wp2_with fail
            go_roundw
            case rel => exact ⟨k + 1, by omega, by go_num, by rw [HB.out], below_trans hbel u.ok⟩
            case measure => simp [intOf]; omega
        · have hkn : k = all.length := by omega
          subst hkn
          have hbl := best_lt (l := all) hd2
          have HMX := Lib.hid (fun i (h : i < all.length) => best_max (l := all) h)
          generalize best all all.length = b at *
          have k2 : wr.cell? (ad.add b) = some (.int .i64 (iat all b)) := HC.out _ hbel _ hbl
          have hw : (b : Int) ≤ 2097152 := by have := HLQ.out; omega
          have hp4 : out.length ≤ 4 := by omega
          have HP2 := Lib.hid (And.intro (owns_grow HP.out.ra hbel) (And.intro (owns_grow HP.out.ro hbel) (below_trans HP.out.hb hbel)))
          have HN3 : Hid (out.length + 1 ≤ 2097152) := Lib.hid (by omega)
          have HPB := Lib.hid (HP2.out.2.2.size)
          have HO1 := Lib.hid (Own.new wr 3 [.int .i64 (iat all b)])
          clear HC
          go_upto_region 10 with (fail)
          go_wp2_with (at_builtin; refine appInt.at rfl _ (.tmp 44) rfl w.heap.size (.slice A6 out.length c6) out.length (iz out) rfl (HP2.out.2.1.alloc _) wr.heap.size 1 1 [.int .i64 (iat all b)] rfl HO1.out rfl (iz_one [iat all b]) HN3 (by have := HPB.out; simp; omega) ?_; intro A7 c7 w7 hown7 hgrow7 hb7 hat7)
          have ho7 : w7.ownsRow w.heap.size 3 1 (.slice A7 (out.length + 1) c7) (out.length + 1) (iz (out ++ [iat all b])) := owns_as hown7 (by rw [iz_append]; rfl)
          have ha7 : w7.ownsRow w.heap.size 3 1 (.slice (some ad) all.length c5) all.length (iz all) := owns_apart (HP2.out.1.alloc _) hgrow7 HP.out.ap
          have HB7 := Lib.hid (((HP2.out.2.2).alloc HPB.out (.cells #[.int .i64 (iat all b)] 3)).trans hb7)
          have HSZ := Lib.hid HB7.out.size
          obtain ⟨A8, c8, hr8, HR8, hf8⟩ := int_head' ha7 rfl (Nat.le_of_lt hbl)
          obtain ⟨A9, c9, hr9, HR9, hf9⟩ := int_tail' (p := b + 1) ha7 rfl hbl
          replace hr9 : ∀ W, (Instr.slice 29 (.slice (some ad) all.length c5) (some (.int .i64 ((b : Int) + 1))) none none).run Try.prog W = .ok (.slice A9 (all.length - (b + 1)) c9) W := hr9
          have hwb : IntKind.i64.wrap ((b : Int) + 1) = (b : Int) + 1 := by rw [IntKind.wrap_i64]; omega
          have HR8' := Lib.hid HR8
          have HR9' := Lib.hid HR9
          have HO7 := Lib.hid (And.intro ho7 ha7)
          have HE7 := Lib.hid (owns_empty (size := 1) (Own.new w7.drew 3 []) (Nat.le_refl w7.heap.size))
          have HL8 := Lib.hid (show (iz (all.take b)).length = b * 1 by rw [iz_length, List.length_take]; omega)
          have HL9 := Lib.hid (show (iz (all.drop (b + 1))).length = (all.length - (b + 1)) * 1 by rw [iz_length, List.length_drop]; omega)
          have HN8 : Hid (0 + b ≤ 2097152) := Lib.hid (by have := HLQ.out; omega)
          have HN9 : Hid (b + (all.length - (b + 1)) ≤ 2097152) := Lib.hid (by have := HLQ.out; omega)
          have HBE := Lib.hid (((Below.refl w7.heap.size w7).drew).alloc (Nat.le_refl _) (.cells #[] 3))
          clear k2 hown7 hgrow7 hb7 HP2 HO1 HPB ho7 ha7 HR8 HR9 hbel
          go_region_law (first
            | (refine appInt.step rfl (.tmp 46) (.tmp 49) rfl w7.heap.size (.slice (some ⟨w7.heap.size, 0, none⟩) 0 0) 0 [] rfl HE7.out A8 b c8 (iz (all.take b)) rfl (HR8'.out _ HBE.out) hf8 HL8.out (iz_one _) HN8 HBE.out.size ?_; intro A10 c10 w10 hown10 hgrow10 hb10; rw [Nat.zero_add, List.nil_append] at hown10; rw [Nat.zero_add]; have hbb := HBE.out.trans hb10)
            | (refine appInt.step rfl (.tmp 50) (.tmp 54) rfl w7.heap.size (.slice A10 b c10) b (iz (all.take b)) rfl hown10 A9 (all.length - (b + 1)) c9 (iz (all.drop (b + 1))) rfl (HR9'.out _ hbb) hf9 HL9.out (iz_one _) HN9 hbb.size ?_; intro A11 c11 w11 hown11 hgrow11 hb11))
          have HLN := Lib.hid (show (all.take b ++ all.drop (b + 1)).length = b + (all.length - (b + 1)) by rw [List.length_append, List.length_take, List.length_drop]; omega)
          have HNEW := Lib.hid (show Picks w w11 (xs ++ ys) A11 c11 (all.take b ++ all.drop (b + 1)) A7 c7 (out ++ [iat all b]) by
            have hb12 := hbb.trans hb11
            have hs11 := hb12.size
            refine ⟨?_, ?_, ?_, pick_next HP.out.eq hbl HMX.out, by simp; omega, ?_, ?_⟩
            · rw [HLN.out, iz_append]; exact owns_base hown11 HSZ.out
            · rw [List.length_append]; exact owns_grow HO7.out.1 hb12
            · rw [HLN.out]
              intro e
              cases h7 : (Value.slice A7 (out ++ [iat all b]).length c7).ownBlock with
              | none =>
                rw [h7] at e
                rcases HO7.out.1.2 with ⟨h1, _⟩ | ⟨g, cap, cur, h1, _⟩
                · injection h1 with _ h1 _; omega
                · injection h1 with h1 _ _; rw [h1] at h7; simp [Value.ownBlock] at h7
              | some g =>
                rw [h7] at e
                have q1 := (hown11.lt _ e).1
                have q2 := (HO7.out.1.lt g (by rw [List.length_append] at h7; exact h7)).2
                omega
            · rw [HLN.out]; have := HP.out.la; omega
            · exact HB7.out.trans (hb12.mono HSZ.out))
          clear hown10 hgrow10 hb10 hbb hown11 hgrow11 hb11 HO7 HE7 HR8' HR9' hr8 hr9 hat7
          go_simp
          go_roundw
          case rel =>
            iterate 45 (apply Exists.intro)
            refine ⟨⟨A11, c11, all.take b ++ all.drop (b + 1), A7, c7, out ++ [iat all b], rfl, rfl, HNEW⟩, ?_⟩
            rw [HLN.out, List.length_append]
            rfl
          case measure => simp [slLen]; omega
    · by_cases hd1 : out.length < 4
      · have hd2 : ¬ 0 < all.length := fun h => hd ⟨hd1, h⟩
        have HD := Lib.hid (HP.out.done hd)
        clear hd
        go_wp2_with fail
        go_ret
        rw [← HD.out]
        exact ⟨A6, c6, rfl, RowAt.of HP.out.ro, HP.out.hb⟩
      · have HD := Lib.hid (HP.out.done hd)
        clear hd
        go_wp2_with fail
        go_ret
        rw [← HD.out]
        exact ⟨A6, c6, rfl, RowAt.of HP.out.ro, HP.out.hb⟩
end Go.Proofs.Ytlmlckgnmkjkdaa
