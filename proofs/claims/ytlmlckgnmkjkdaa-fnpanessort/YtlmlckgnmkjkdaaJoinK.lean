import Derived.Test.YtlmlckgnmkjkdaaJoinH
import Derived.Test.YtlmlckgnmkjkdaaIntsKit
import Derived.Test.YtlmlckgnmkjkdaaJoinF
import Derived.Test.YtlmlckgnmkjkdaaJoinI
import Derived.Test.YtlmlckgnmkjkdaaBase
import Derived.ProofKit
import Derived.OpenShut
import Derived.ChangeOld
import Derived.Lib.SmallJoins

/-
  A region in whatever order, by an invariant: for each operation that was listed a predicate of what its slot holds (it may hang on what is listed and on the world), and what the world holds.
-/
namespace Go.Proofs.Ytlmlckgnmkjkdaa
open Go.RowKit

abbrev Kinds := Nat → (Nat → Bool) → World → Value → Prop
structure KInv (ops : Array Oper) (K : Kinds) (keep : List (Nat × Value)) (N : Nat) (ds : List Deferred) (MEM : (Nat → Bool) → World → Prop) (L : Nat → Bool) (a : Act) (w : World) : Prop where
  size : a.tmps.size = N
  defers : a.defers = ds
  kept : ∀ p ∈ keep, a.tmps[p.1]? = some p.2
  vals : ∀ i o d, ops[i]? = some o → o.dst = some d → L i = true → ∃ v, a.tmps[d]? = some v ∧ K i L w v
  mem : MEM L w
  closed : ∀ j o, ops[j]? = some o → L j = true → ∀ e ∈ o.after, Region.binds .any e = true → L e.on = true
section
variable {ops : Array Oper} {K : Kinds} {keep : List (Nat × Value)} {N : Nat} {ds : List Deferred} {MEM : (Nat → Bool) → World → Prop} {L : Nat → Bool} {a : Act} {w w' : World}
theorem closed_upd {i : Nat} {o : Oper} (h : ∀ j o, ops[j]? = some o → L j = true → ∀ e ∈ o.after, Region.binds .any e = true → L e.on = true) (hi : ops[i]? = some o) (hdep : ∀ e ∈ o.after, Region.binds .any e = true → L e.on = true) :
    ∀ j o, ops[j]? = some o → upd L i j = true → ∀ e ∈ o.after, Region.binds .any e = true → upd L i e.on = true := fun j o' hj hL e he hb => by
  have up : ∀ k, L k = true → upd L i k = true := fun k hk => by unfold upd; split <;> simp [hk]
  by_cases hji : j = i
  · subst hji
    obtain rfl : o = o' := by rw [hi] at hj; injection hj
    exact up _ (hdep e he hb)
  · rw [upd_ne hji] at hL
    exact up _ (h j o' hj hL e he hb)
theorem KInv.value (h : KInv ops K keep N ds MEM L a w) {i : Nat} {o : Oper} {d : Nat} {v : Value} (hi : ops[i]? = some o) (hd : o.dst = some d) (hb : slotsB ops (keep.map (·.1)) N = true) (hdep : ∀ e ∈ o.after, Region.binds .any e = true → L e.on = true)
    (hv : K i (upd L i) w' v) (hK : ∀ j u, j ≠ i → L j = true → K j L w u → K j (upd L i) w' u) (hM : MEM (upd L i) w') : KInv ops K keep N ds MEM (upd L i) (a.put o.dst v) w' := by
  obtain ⟨hdN, hdk, hdo⟩ := slotsB_spec hb hi hd
  rw [hd]
  refine ⟨?_, h.defers, fun p hp => ?_, fun j o' d' hj hd' hL => ?_, hM, closed_upd h.closed hi hdep⟩
  · simp [Act.put, h.size]
  · have hne : d ≠ p.1 := fun e => hdk (by rw [e]; exact List.mem_map_of_mem hp)
    simp only [Act.put]
    rw [Array.getElem?_setIfInBounds_ne hne]
    exact h.kept p hp
  · by_cases e : j = i
    · subst e
      obtain rfl : o = o' := by rw [hi] at hj; injection hj
      obtain rfl : d = d' := by rw [hd] at hd'; injection hd'
      refine ⟨v, ?_, hv⟩
      simp only [Act.put]
      rw [Array.getElem?_setIfInBounds_self_of_lt (by rw [h.size]; exact hdN)]
    · rw [upd_ne e] at hL
      obtain ⟨u, hu, hok⟩ := h.vals j o' d' hj hd' hL
      refine ⟨u, ?_, hK j u e hL hok⟩
      have hne : d ≠ d' := fun e' => hdo j o' hj e (by rw [hd', e'])
      simp only [Act.put]
      rw [Array.getElem?_setIfInBounds_ne hne]
      exact hu
theorem KInv.none (h : KInv ops K keep N ds MEM L a w) {i : Nat} {o : Oper} (hi : ops[i]? = some o) (hd : o.dst = none) (hdep : ∀ e ∈ o.after, Region.binds .any e = true → L e.on = true)
    (hK : ∀ j o' d u, j ≠ i → ops[j]? = some o' → o'.dst = some d → a.tmps[d]? = some u → L j = true → K j L w u → K j (upd L i) w' u) (hM : MEM (upd L i) w') (v : Value) : KInv ops K keep N ds MEM (upd L i) (a.put o.dst v) w' := by
  rw [hd]
  refine ⟨h.size, h.defers, h.kept, fun j o' d' hj hd' hL => ?_, hM, closed_upd h.closed hi hdep⟩
  by_cases e : j = i
  · subst e
    obtain rfl : o = o' := by rw [hi] at hj; injection hj
    rw [hd] at hd'; cases hd'
  · rw [upd_ne e] at hL
    obtain ⟨u, hu, hok⟩ := h.vals j o' d' hj hd' hL
    exact ⟨u, hu, hK j o' d' u e hj hd' hu hL hok⟩
/-- what slot d holds, once operation j is listed -/
theorem KInv.at (h : KInv ops K keep N ds MEM L a w) (j : Nat) {o : Oper} {d : Nat} (hj : ops[j]? = some o) (hd : o.dst = some d) (hL : L j = true) : ∃ v, a.tmps[d]? = some v ∧ K j L w v := h.vals j o d hj hd hL
theorem KInv.held (h : KInv ops K keep N ds MEM L a w) {s : Nat} {v : Value} (hp : (s, v) ∈ keep) : a.tmps[s]? = some v := h.kept _ hp
end
theorem wp_region_kinv {P : Program} {ops : Array Oper} {Q : Exit → Act → World → Prop} {id : Nat} {a : Act} {w : World} (K : Kinds) (keep : List (Nat × Value)) (N : Nat) (ds : List Deferred) (MEM : (Nat → Bool) → World → Prop) (hm : P.follows .mixedOrders = true) (he : earlierB ops = true) (hsl : slotsB ops (keep.map (·.1)) N = true)
    (hs : a.tmps.size = N) (hd : a.defers = ds) (hk : ∀ p ∈ keep, a.tmps[p.1]? = some p.2) (hM : MEM (fun _ => false) w.drew)
    (hstep : ∀ (L : Nat → Bool) (i : Nat) (o : Oper) (a : Act) (w : World), ops[i]? = some o → L i = false → (∀ e ∈ o.after, Region.binds .any e = true → L e.on = true) → slotsB ops (keep.map (·.1)) N = true → KInv ops K keep N ds MEM L a w → wpOp P ops Q i (KInv ops K keep N ds MEM (upd L i)) a w)
    (hend : ∀ (L : Nat → Bool) (a : Act) (w : World), (∀ i, i < ops.size → L i = true) → KInv ops K keep N ds MEM L a w → Q .normal a w) : (Code.region id ops true).wp P Q a w :=
  wp_region_inv _ hm he ⟨hs, hd, hk, (fun _ _ _ _ _ h => absurd h (by simp)), hM, (fun _ _ _ h => absurd h (by simp))⟩ (fun L i o a w h1 h2 h3 h4 => hstep L i o a w h1 h2 h3 hsl h4) hend
theorem row_apart {lo hi X v s n : Nat} {W : World} {t e : TypeId} {ds cs : List Value} {u : Value} (h : RowAt lo hi W t s u n cs) (hX : Own W X e ds) (hte : e ≠ t) (hl : v ≤ lo) (hh : hi ≤ W.heap.size) (hv : v ≤ X) :
    ∃ lo' hi', RowAt lo' hi' W t s u n cs ∧ v ≤ lo' ∧ hi' ≤ W.heap.size ∧ (X < lo' ∨ hi' ≤ X) := by
  obtain ⟨⟨h1, h2⟩, h3⟩ := h
  rcases h2 with h2 | ⟨g, cap, cur, hv', hg, hb, r⟩
  · refine ⟨v, v, ⟨⟨h1, .inl h2⟩, fun k hk => ?_⟩, Nat.le_refl _, Nat.le_trans hv (Nat.le_of_lt hX.lt), .inr hv⟩
    rw [h2.1] at hk; cases hk
  · have hgh := h3 g (by rw [hv']; rfl)
    have hne : g ≠ X := by
      rintro rfl
      unfold Own at hX
      rw [hb] at hX
      simp at hX
      exact hte hX.2.symm
    refine ⟨g, g + 1, ⟨⟨h1, .inr ⟨g, cap, cur, hv', Nat.le_refl _, hb, r⟩⟩, fun k hk => ?_⟩, by omega, by omega, by omega⟩
    rw [hv'] at hk
    simp [Value.ownBlock] at hk
    omega
theorem RowAt.setFar {lo hi s n : Nat} {w : World} {t : TypeId} {v : Value} {cs : List Value} (h : RowAt lo hi w t s v n cs) (p : Addr) (u : Value) (hp : p.block < lo ∨ hi ≤ p.block) : RowAt lo hi (w.setCell p u) t s v n cs :=
  h.move (fun k h1 h2 => Below.heap_setCell w p u k (by omega))
end Go.Proofs.Ytlmlckgnmkjkdaa

/-
  laws.same.
-/
namespace Go.Proofs.Ytlmlckgnmkjkdaa
open Go.RowKit

set_option maxHeartbeats 400000 in
theorem same_any (A B : Option Addr) (ca cb : Nat) (xs ys : List Int) (w : World) (hA : Rd w A (iz xs)) (hB : Rd w B (iz ys)) (hn : xs.length < 4611686018427387904) (hm : ys.length < 4611686018427387904) :
    Calls Try.prog 94 #[.slice A xs.length ca, .slice B ys.length cb] w fun e w' => e = .returned (.bool (decide (xs = ys))) ∧ Below w.heap.size w w' := by
  by_cases hl : xs.length = ys.length
  · have hl1 : ((xs.length : Int) != (ys.length : Int)) = false := by simp [hl]
    have HL := Lib.hid hl
    clear hl
    go_enter Try.func94, Try.ntmps94
    go_wp2
    go_loopw [5] (fun i wr => ∃ k : Nat, k ≤ xs.length ∧ i = .int .i64 k ∧ Hid (xs.take k = ys.take k) ∧ Below w.heap.size w wr) (fun i _ => xs.length - (intOf i).toNat)
    case atStart => exact ⟨0, Nat.zero_le _, rfl, Lib.hid (by simp), Below.refl _ _⟩
    case round =>
      obtain ⟨k, hk, rfl, hpre, hbel⟩ := hrel
      by_cases hlt : k < xs.length
      · have hlt2 : k < ys.length := by rw [← HL.out]; exact hlt
        obtain ⟨ad, rfl, hb1, hc1⟩ := hA k _ (iz_at hlt)
        obtain ⟨bd, rfl, hb2, hc2⟩ := hB k _ (iz_at hlt2)
        have h1 : ∀ u : Bel wr, u.w.cell? (ad.add k) = some (.int .i64 (xs.getD k 0)) := fun u => ((below_trans hbel u.ok).cell (by rw [add_block]; exact hb1)).trans hc1
        have h2 : ∀ u : Bel wr, u.w.cell? (bd.add k) = some (.int .i64 (ys.getD k 0)) := fun u => ((below_trans hbel u.ok).cell (by rw [add_block]; exact hb2)).trans hc2
        clear hc1 hc2
        go_wp2
        refine wp_region_bel (by kernel_rfl) (by kernel_rfl) ?_
        repeat (go_big_quiet_step (fail))
        refine wpQuiet_nil ?_
        rintro _ ⟨u, rfl⟩
        by_cases heq : xs[k] = ys[k]
        · have hne : (xs[k] != ys[k]) = false := by simp [heq]
          have HE := Lib.hid heq
          clear heq
          go_wp2
          go_roundw
          case rel => exact ⟨k + 1, by omega, by go_num, Lib.hid (take_next hlt hlt2 hpre.out HE.out), below_trans hbel u.ok⟩
          case measure => simp [intOf]; omega
        · have hne : (xs[k] != ys[k]) = true := by rw [bne_iff_ne]; omega
          go_wp2
          go_ret
          exact ⟨ret_bool (by rw [eq_comm, decide_eq_false_iff_not]; rintro rfl; exact heq rfl), below_trans hbel u.ok⟩
      · go_wp2
        go_ret
        refine ⟨ret_bool ?_, hbel⟩
        have hp := hpre.out
        have hll := HL.out
        rw [List.take_of_length_le (by omega), List.take_of_length_le (by omega)] at hp
        simp [hp]
  · have hl1 : ((xs.length : Int) != (ys.length : Int)) = true := by rw [bne_iff_ne]; omega
    go_enter Try.func94, Try.ntmps94
    go_wp2
    go_ret
    exact ⟨ret_bool (by rw [eq_comm, decide_eq_false_iff_not]; rintro rfl; exact hl rfl), Below.refl _ _⟩

end Go.Proofs.Ytlmlckgnmkjkdaa

/-
  laws.samePane, laws.samePanes.
-/
namespace Go.Proofs.Ytlmlckgnmkjkdaa
open Go.RowKit

theorem same_asI {A B : Option Addr} {n ca cb : Nat} {zs : List Int} {w : World} (hA : Rd w A (iz zs)) (hB : Rd w B (iz zs)) (hl : zs.length = n) (hn : n ≤ 1048576) :
    Calls Try.prog 94 #[.slice A n ca, .slice B n cb] w fun e w' => e = .returned (.bool true) ∧ Below w.heap.size w w' := by
  subst hl
  exact as_bool (decide_eq_true rfl) (same_any A B ca cb zs zs w hA hB (by omega) (by omega))
set_option maxHeartbeats 2000000 in
theorem samePane_same (q k f t l n : Int) (o : Bool) (A B : Option Addr) (m ca cb : Nat) (zs : List Int) (w : World) (hA : Rd w A (iz zs)) (hB : Rd w B (iz zs)) (hz : zs.length = m) (hm : m ≤ 1048576) :
    Calls Try.prog 50 #[pav q k f t l n (.slice A m ca) o, pav q k f t l n (.slice B m cb) o] w fun e w' => e = .returned (.bool true) ∧ Below w.heap.size w w' := by
  have t0 : (q == q) = true := by simp
  have t1 : (k == k) = true := by simp
  have t2 : (f == f) = true := by simp
  have t3 : (t == t) = true := by simp
  have t4 : (l == l) = true := by simp
  have t5 : (n == n) = true := by simp
  have t6 : (o == o) = true := by simp
  obtain ⟨o1, o2, hb⟩ := boxes_two (w := w) (cs := pac q k f t l n (.slice A m ca) o) (ds := pac q k f t l n (.slice B m cb) o) (t := 31) (s := 31)
  have HA := Lib.hid (hA.below hb)
  have HB := Lib.hid (hB.below hb)
  clear hA hB
  obtain ⟨a0, a1, a2, a3, a4, a5, a6, a7⟩ := o1.eight
  obtain ⟨b0, b1, b2, b3, b4, b5, b6, b7⟩ := o2.eight
  clear o1 o2
  go_enter Try.func50, Try.ntmps50
  go_wp2_with fail
  refine (same_asI HA.out HB.out hz hm).mono ?_
  clear a0 a1 a2 a3 a4 a5 a6 a7 b0 b1 b2 b3 b4 b5 b6 b7
  rintro e w2 ⟨rfl, h2⟩
  go_wp2
  go_ret
  exact ⟨rfl, below_trans hb h2⟩

set_option maxHeartbeats 1000000 in
theorem samePanes_same (A B : Option Addr) (n ca cb : Nat) (X Y : PX) (w : World) (hA : PRd w A n X) (hB : PRd w B n Y) (he : ∀ i, i < n → (X i).1 = (Y i).1) (hm : ∀ i, i < n → (X i).1.vs.length ≤ 1048576) (hn : n ≤ 1048576) :
    Calls Try.prog 13 #[.slice A n ca, .slice B n cb] w fun e w' => e = .returned (.bool true) ∧ Below w.heap.size w w' := by
  have hne : ((n : Int) != (n : Int)) = false := by simp
  have HA := Lib.hid hA
  have HB := Lib.hid hB
  have HE := Lib.hid he
  have HM := Lib.hid hm
  clear hA hB he hm
  go_enter Try.func13, Try.ntmps13
  go_wp2
  go_loopw [5] (fun i wr => ∃ k : Nat, k ≤ n ∧ i = .int .i64 k ∧ Below w.heap.size w wr) (fun i _ => n - (intOf i).toNat)
  case atStart => exact ⟨0, Nat.zero_le _, rfl, Below.refl _ _⟩
  case round =>
    obtain ⟨k, hk, rfl, hbel⟩ := hrel
    by_cases hlt : k < n
    · obtain ⟨ab, ao, rfl, hab, h1⟩ := HA.out.row.pane hlt
      obtain ⟨bb, bo, rfl, hbb, h2⟩ := HB.out.row.pane hlt
      have F1 := fun u : Bel wr => h1 u.w (below_trans hbel u.ok)
      have F2 := fun u : Bel wr => h2 u.w (below_trans hbel u.ok)
      have hval := HA.out.val k hlt
      have hval2 := HB.out.val k hlt
      have hee := HE.out k hlt
      have hmm := HM.out k hlt
      clear h1 h2
      rw [← hee] at F2
      unfold VRd at hval hval2
      rw [← hee] at hval2
      clear hee
      revert F1 F2 hval hval2 hmm
      generalize X k = x
      generalize Y k = y
      obtain ⟨⟨q, kk, f, t, l, nn, vs, o⟩, v⟩ := x
      obtain ⟨-, v'⟩ := y
      intro F1 F2 hval hval2 hmm
      simp only at F1 F2 hval hval2 hmm
      obtain ⟨V, cv, rfl, hV⟩ := hval
      obtain ⟨V', cv', rfl, hV'⟩ := hval2
      have HC := Lib.hid (fun u : Bel wr => samePane_same q kk f t l nn o V V' vs.length cv cv' vs u.w (hV.below (below_trans hbel u.ok)) (hV'.below (below_trans hbel u.ok)) rfl hmm)
      have a0 := fun u => (F1 u).1
      have a1 := fun u => (F1 u).2.1
      have a2 := fun u => (F1 u).2.2.1
      have a3 := fun u => (F1 u).2.2.2.1
      have a4 := fun u => (F1 u).2.2.2.2.1
      have a5 := fun u => (F1 u).2.2.2.2.2.1
      have a6 := fun u => (F1 u).2.2.2.2.2.2.1
      have a7 := fun u => (F1 u).2.2.2.2.2.2.2
      have b0 := fun u => (F2 u).1
      have b1 := fun u => (F2 u).2.1
      have b2 := fun u => (F2 u).2.2.1
      have b3 := fun u => (F2 u).2.2.2.1
      have b4 := fun u => (F2 u).2.2.2.2.1
      have b5 := fun u => (F2 u).2.2.2.2.2.1
      have b6 := fun u => (F2 u).2.2.2.2.2.2.1
      have b7 := fun u => (F2 u).2.2.2.2.2.2.2
      clear F1 F2 hV hV' hmm
      go_wp2
      refine wp_region_bel (by kernel_rfl) (by kernel_rfl) ?_
      repeat (go_big_quiet_step ((go_at_call 50; exact bel_of _ (HC.out _))))
      refine wpQuiet_nil ?_
      rintro _ ⟨u, rfl⟩
      clear a0 a1 a2 a3 a4 a5 a6 a7 b0 b1 b2 b3 b4 b5 b6 b7
      go_wp2
      go_roundw
      case rel => exact ⟨k + 1, by omega, by go_num, below_trans hbel u.ok⟩
      case measure => simp [intOf]; omega
    · go_wp2
      go_ret
      exact ⟨rfl, hbel⟩
end Go.Proofs.Ytlmlckgnmkjkdaa

/-
  The cursor's panes.
-/
namespace Go.Proofs.Ytlmlckgnmkjkdaa
open Go.RowKit

abbrev pzc : List Value := pac 0 0 0 0 0 0 (.slice none 0 0) false
/-- a query that was drawn -/
def QV (v0 W : World) (v : Value) : Prop :=
  ∃ (F : Option Addr) (cf : Nat) (fs : List (Int × Int)) (P : Option Addr) (cp : Nat) (ps : List (Int × Int)) (k s t q kk : Int), v = qv (.slice F fs.length cf) (.slice P ps.length cp) k s t q kk ∧ fs.length ≤ 20 ∧ ps.length ≤ 20 ∧
    W.ownsRow v0.heap.size 125 2 (.slice F fs.length cf) fs.length (ez fs) ∧ W.ownsRow v0.heap.size 125 2 (.slice P ps.length cp) ps.length (ez ps)
/-- a pane that was drawn -/
def PV (B0 : Nat) (W : World) (p : Pl) (v : Value) : Prop := ∃ (B : Option Addr) (c : Nat), v = .slice B p.vs.length c ∧ p.vs.length ≤ 1048576 ∧ W.ownsRow B0 3 1 v p.vs.length (iz p.vs)
theorem QV.far {v0 W W' : World} {g : Nat} {v : Value} (h : QV v0 W v) (hG : W.grownBy W' (some g)) (hg : g < v0.heap.size) : QV v0 W' v := by
  obtain ⟨F, cf, fs, P, cp, ps, k, s, t, q, kk, e, h1, h2, h3, h4⟩ := h
  exact ⟨F, cf, fs, P, cp, ps, k, s, t, q, kk, e, h1, h2, owns_far h3 hG (owns_lt h3 hg), owns_far h4 hG (owns_lt h4 hg)⟩
theorem QV.store {v0 W W' : World} {X : Nat} {v : Value} {cs : List Value} (h : QV v0 W v) (hX : Own W X 31 cs) (hG : W.grownBy W' (some X)) : QV v0 W' v := by
  obtain ⟨F, cf, fs, P, cp, ps, k, s, t, q, kk, e, h1, h2, h3, h4⟩ := h
  exact ⟨F, cf, fs, P, cp, ps, k, s, t, q, kk, e, h1, h2, owns_far h3 hG (types_farS hX (by decide) h3), owns_far h4 hG (types_farS hX (by decide) h4)⟩
theorem PV.far {B0 : Nat} {W W' : World} {g : Nat} {p : Pl} {v : Value} (h : PV B0 W p v) (hG : W.grownBy W' (some g)) (hg : g < B0) : PV B0 W' p v := by
  obtain ⟨B, c, e, h1, h2⟩ := h
  exact ⟨B, c, e, h1, owns_far h2 hG (owns_lt h2 hg)⟩
theorem PV.store {B0 : Nat} {W W' : World} {X : Nat} {p : Pl} {v : Value} {cs : List Value} (h : PV B0 W p v) (hX : Own W X 31 cs) (hG : W.grownBy W' (some X)) : PV B0 W' p v := by
  obtain ⟨B, c, e, h1, h2⟩ := h
  exact ⟨B, c, e, h1, owns_far h2 hG (types_farS hX (by decide) h2)⟩
theorem cur_store8 {W : World} {g n c M X o : Nat} {A : Option Addr} (h : Cur W g A n c M) (hg : g < X) (p : Pl) (v : Value) : Cur (store8 W X o p v) g A n c M :=
  cur_store (cur_store (cur_store (cur_store (cur_store (cur_store (cur_store (cur_store h hg _) hg _) hg _) hg _) hg _) hg _) hg _) hg _
theorem grown_far8 {w W : World} {g X o : Nat} (h : w.grownBy W (some g)) (hX : w.heap.size ≤ X) (p : Pl) (v : Value) : w.grownBy (store8 W X o p v) (some g) :=
  grown_store (grown_store (grown_store (grown_store (grown_store (grown_store (grown_store (grown_store h hX _) hX _) hX _) hX _) hX _) hX _) hX _) hX _
/-- the region that draws the pane -/
def kPane (v0 : World) (g : Nat) (a b : Int) (av : Value) : Kinds
  | 0, _, _, v => v = .pointer (some ⟨g, 0, none⟩)
  | 1, _, _, v => ∃ r : Nat, v = .int .i64 (r : Int)
  | 2, _, _, v => v = .pointer (some ⟨g, 0, none⟩)
  | 3, _, W, v => QV v0 W v
  | 4, _, _, v => v = .pointer (some ⟨g, 0, none⟩)
  | 5, _, _, v => ∃ r : Nat, v = .int .i64 (r : Int)
  | 6, _, _, v => v = .agg #[.int .i64 a, .int .i64 b]
  | 7, _, _, v => v = .pointer (some ⟨g, 0, none⟩)
  | 8, _, _, v => ∃ r : Nat, v = .int .i64 (r : Int)
  | 9, _, _, v => v = av
  | 10, _, W, v => ∃ (p : Pl) (u : Value) (ok : Bool), v = .tuple #[pvx (p, u), .bool ok] ∧ PV v0.heap.size W p u
  | 11, _, W, v => ∃ (p : Pl) (u : Value) (ok : Bool), v = .tuple #[pvx (p, u), .bool ok] ∧ PV v0.heap.size W p u
  | 12, _, W, v => ∃ (p : Pl) (u : Value), v = pvx (p, u) ∧ PV v0.heap.size W p u
  | 13, _, _, v => ∃ ok : Bool, v = .bool ok
  | 14, L, W, v => ∃ X, v = .pointer (some ⟨X, 0, none⟩) ∧ v0.heap.size ≤ X ∧ (L 15 = false → Own W X 31 pzc) ∧ (L 15 = true → ∃ (p : Pl) (u : Value), Own W X 31 (pcx (p, u)) ∧ PV v0.heap.size W p u)
  | 16, _, _, v => ∃ ok : Bool, v = .bool ok
  | _, _, _, _ => True
theorem kPane_far {v0 : World} {g : Nat} {a b : Int} {av : Value} {i j : Nat} {L : Nat → Bool} {W W' : World} {u : Value} (hi : 15 ≠ i) (hG : W.grownBy W' (some g)) (hg : g < v0.heap.size) (hk : kPane v0 g a b av j L W u) : kPane v0 g a b av j (upd L i) W' u := by
  match j, hk with
  | 0, hk => exact hk
  | 1, hk => exact hk
  | 2, hk => exact hk
  | 3, hk => exact QV.far hk hG hg
  | 4, hk => exact hk
  | 5, hk => exact hk
  | 6, hk => exact hk
  | 7, hk => exact hk
  | 8, hk => exact hk
  | 9, hk => exact hk
  | 10, hk => obtain ⟨p, w, ok, e, h⟩ := hk; exact ⟨p, w, ok, e, h.far hG hg⟩
  | 11, hk => obtain ⟨p, w, ok, e, h⟩ := hk; exact ⟨p, w, ok, e, h.far hG hg⟩
  | 12, hk => obtain ⟨p, w, e, h⟩ := hk; exact ⟨p, w, e, h.far hG hg⟩
  | 13, hk => exact hk
  | 14, hk =>
    obtain ⟨X, e, hX, h1, h2⟩ := hk
    refine ⟨X, e, hX, fun hl => ?_, fun hl => ?_⟩
    · rw [upd_ne (show 15 ≠ i from hi)] at hl; exact own_far (h1 hl) hG (by omega)
    · rw [upd_ne (show 15 ≠ i from hi)] at hl; obtain ⟨p, w, o, h⟩ := h2 hl; exact ⟨p, w, own_far o hG (by omega), h.far hG hg⟩
  | 15, _ => trivial
  | 16, hk => exact hk
  | j + 17, _ => trivial
theorem kPane_store {v0 : World} {g : Nat} {a b : Int} {av : Value} {j X : Nat} {L : Nat → Bool} {W W' : World} {u : Value} {cs : List Value} (hj : j ≠ 14) (hX : Own W X 31 cs) (hG : W.grownBy W' (some X)) (hk : kPane v0 g a b av j L W u) : kPane v0 g a b av j (upd L 15) W' u := by
  match j, hj, hk with
  | 0, _, hk => exact hk
  | 1, _, hk => exact hk
  | 2, _, hk => exact hk
  | 3, _, hk => exact QV.store hk hX hG
  | 4, _, hk => exact hk
  | 5, _, hk => exact hk
  | 6, _, hk => exact hk
  | 7, _, hk => exact hk
  | 8, _, hk => exact hk
  | 9, _, hk => exact hk
  | 10, _, hk => obtain ⟨p, w, ok, e, h⟩ := hk; exact ⟨p, w, ok, e, h.store hX hG⟩
  | 11, _, hk => obtain ⟨p, w, ok, e, h⟩ := hk; exact ⟨p, w, ok, e, h.store hX hG⟩
  | 12, _, hk => obtain ⟨p, w, e, h⟩ := hk; exact ⟨p, w, e, h.store hX hG⟩
  | 13, _, hk => exact hk
  | 14, hj, _ => exact absurd rfl hj
  | 15, _, _ => trivial
  | 16, _, hk => exact hk
  | j + 17, _, _ => trivial

theorem PV.base {B0 B1 : Nat} {W : World} {p : Pl} {v : Value} (h : PV B0 W p v) (hb : B1 ≤ B0) : PV B1 W p v := by
  obtain ⟨B, c, e, h1, h2⟩ := h
  exact ⟨B, c, e, h1, owns_base h2 hb⟩
/-- the memory of a pane that is drawn: its result, its variable (block B), its numbers, the cursor -/
structure PS (w W : World) (g : Nat) (A : Option Addr) (n c M B : Nat) (p : Pl) (u : Value) : Prop where
  r : Own W w.heap.size 31 pzc
  b : Own W B 31 (pcx (p, u))
  v : PV w.heap.size W p u
  cur : Cur W g A n c M
  gr : w.grownBy W (some g)
  hg : g < w.heap.size
  hB : w.heap.size < B
section
variable {w W W' : World} {g n c M M' B : Nat} {A : Option Addr} {p p' : Pl} {u : Value}
theorem PS.far (h : PS w W g A n c M B p u) (hG : W.grownBy W' (some g)) (hC : Cur W' g A n c M') : PS w W' g A n c M' B p u :=
  ⟨own_far h.r hG (by have := h.hg; omega), own_far h.b hG (by have := h.hg; have := h.hB; omega), h.v.far hG h.hg, hC, grown_trans h.gr hG, h.hg, h.hB⟩
theorem PS.grow (h : PS w W g A n c M B p u) (hb : Below W.heap.size W W') : PS w W' g A n c M B p u := h.far (grownBy_of hb _) (h.cur.grow hb)
theorem PS.more (h : PS w W g A n c M B p u) (hM : M ≤ M') : PS w W g A n c M' B p u := { h with cur := h.cur.more hM }
theorem PS.set (h : PS w W g A n c M B p u) (j : Nat) (x : Value) (hx : (pcx (p, u)).set j x = pcx (p', u)) (hv : p'.vs = p.vs) : PS w (W.setCell ⟨B, j, none⟩ x) g A n c M B p' u := by
  have hg := h.hg
  have hB := h.hB
  have hG : W.grownBy (W.setCell ⟨B, j, none⟩ x) (some B) := only_set (World.grownBy.refl _ _)
  have hb := h.b.set j x
  rw [hx] at hb
  refine ⟨h.r.far (p := ⟨B, j, none⟩) (by simp only; omega) x, hb, ?_, cur_store h.cur (by omega) x, grown_store h.gr (by omega) x, h.hg, h.hB⟩
  have := h.v.store h.b hG
  unfold PV at this ⊢
  rw [hv]; exact this
theorem PS.done (h : PS w W g A n c M B p u) : Own (store8 W w.heap.size 0 p u) w.heap.size 31 (pcx (p, u)) ∧ PV w.heap.size (store8 W w.heap.size 0 p u) p u ∧ Cur (store8 W w.heap.size 0 p u) g A n c M ∧ w.grownBy (store8 W w.heap.size 0 p u) (some g) :=
  ⟨(((((((h.r.set 0 (.int .i64 p.q)).set 1 (.int .i64 p.k)).set 2 (.int .i64 p.f)).set 3 (.int .i64 p.t)).set 4 (.int .i64 p.l)).set 5 (.int .i64 p.n)).set 6 u).set 7 (.bool p.o), h.v.store h.r grown_store8, cur_store8 h.cur h.hg p u, grown_far8 h.gr (Nat.le_refl _) p u⟩
end

set_option maxRecDepth 100000 in
set_option maxHeartbeats 8000000 in
theorem pane_any (g : Nat) (A : Option Addr) (n c m : Nat) (w : World) (h : Cur w g A n c m) (hn : n ≤ 1048576) (hm : m ≤ 300000) :
    Calls Try.prog 47 #[.pointer (some ⟨g, 0, none⟩)] w fun e w' => ∃ (p : Pl) (u : Value), e = .returned (pvx (p, u)) ∧ PV w.heap.size w' p u ∧ Cur w' g A n c (m + 6000) ∧ w.grownBy w' (some g) := by
  have hgl := h.lt
  have o0 := Own.new w 31 pzc
  have C0 := h.grow (below_alloc w (.cells pzc.toArray 31))
  have G0 : w.grownBy (w.alloc (.cells pzc.toArray 31)) (some g) := grownBy_of (below_alloc _ _) _
  clear h
  go_enter Try.func47, Try.ntmps47
  go_wp2_with fail
  refine (values_any g A n c m _ C0 hn (by omega)).mono ?_
  rintro e w1 ⟨ts, A1, c1, rfl, hl1, h64, row1, C1, G1⟩
  have o1 := own_far o0 G1 (by omega)
  have G1' := grown_trans G0 G1
  have hs1 := G1.size
  rw [World.size_alloc] at hs1 row1
  clear o0 C0 G0 G1
  have h64' := Lib.hid (i64_snoc h64 (show I64 1 by unfold I64; omega))
  have HN1 : Hid (ts.length + 1 ≤ 2097152) := Lib.hid (by omega)
  have R1 := Lib.hid row1
  clear row1 h64
  go_wp2_with (at_builtin; refine appInt.own rfl _ (.tmp 9) rfl (w.heap.size + 1) (.slice A1 ts.length c1) ts.length (iz ts) rfl (R1.out.alloc _) w1.heap.size 1 1 [.int .i64 1] rfl (Own.new w1 _ _) rfl (iz_one [1]) HN1 (by simp; omega) ?_; intro A2 c2 w2 hown2 hgrow2 hb2)
  have C2 := cur_low (C1.grow (below_alloc w1 (.cells #[.int .i64 1] 3))) hb2 (show g < w.heap.size + 1 by omega)
  have o2 := (o1.alloc (.cells #[.int .i64 1] 3)).below hb2 (show w.heap.size < w.heap.size + 1 by omega)
  have G2 : w.grownBy w2 (some g) := low_grown (grownBy_trans G1' (World.grownBy_alloc w1 (.cells #[.int .i64 1] 3) (some g))) (hb2.mono (by omega))
  have hs2 := hb2.size
  rw [World.size_alloc] at hs2
  obtain ⟨us, hus⟩ : ∃ us, ts ++ [(1 : Int)] = us := ⟨_, rfl⟩
  have hul : us.length = ts.length + 1 := by rw [← hus]; simp
  have R2 := Lib.hid (show w2.ownsRow (w.heap.size + 1) 3 1 (.slice A2 us.length c2) us.length (iz us) from by rw [hul, ← hus]; exact owns_as hown2 (iz_append ts [1]).symm)
  rw [hus] at h64'
  rw [← hul]
  have hu10 : us.length ≤ 10 := by omega
  clear R1 hown2 hgrow2 hb2 C1 o1 G1' hus hul hl1
  refine (specAggOf_any A2 us.length c2 us w2 (RowAt.reads (RowAt.of R2.out)) rfl (by omega) (owns_fit R2.out) h64'.out).mono ?_
  rw [pd_agg_small (by omega)]
  rintro e w3 ⟨A3, c3, rfl, r3, hb3⟩
  have C3 := (C2.grow hb3).grow (below_alloc w3 (.cells (agc (us.length : Nat) (hi us.sum) (lo us.sum) (mnOf us) (mxOf us) (.slice A3 (topOf us).length c3)).toArray 72))
  have o3 := (o2.grow hb3).alloc (.cells (agc (us.length : Nat) (hi us.sum) (lo us.sum) (mnOf us) (mxOf us) (.slice A3 (topOf us).length c3)).toArray 72)
  have oD := Own.new w3 72 (agc (us.length : Nat) (hi us.sum) (lo us.sum) (mnOf us) (mxOf us) (.slice A3 (topOf us).length c3))
  have G3 : w.grownBy (w3.alloc (.cells (agc (us.length : Nat) (hi us.sum) (lo us.sum) (mnOf us) (mxOf us) (.slice A3 (topOf us).length c3)).toArray 72)) (some g) := grown_trans G2 (grownBy_of (below_trans hb3 (below_alloc _ _)) _)
  have R3 := (r3.1).kept (grownBy_of (below_alloc w3 (.cells (agc (us.length : Nat) (hi us.sum) (lo us.sum) (mnOf us) (mxOf us) (.slice A3 (topOf us).length c3)).toArray 72)) none) (by
    rcases r3.1.2 with ⟨e, _⟩ | ⟨g', _, _, e, _⟩
    · exact .inl (by rw [e]; rfl)
    · exact .inr (by rw [e]; simp [Value.ownBlock]))
  have hs3 := hb3.size
  clear R2 C2 o2 G2 hb3 r3
  go_wp2_with fail
  refine (oneWin_any g A n c _ _ C3 hn (by omega)).mono ?_
  rintro e w4 ⟨wa, wb, rfl, C4, G4⟩
  have hs4 := G4.size
  rw [World.size_alloc] at hs4
  have o4 := (own_far o3 G4 (by omega)).alloc (.cells #[.int .i64 wa, .int .i64 wb] 68)
  have D4 := (own_far oD G4 (by omega)).alloc (.cells #[.int .i64 wa, .int .i64 wb] 68)
  have E4 := Own.new w4 68 [.int .i64 wa, .int .i64 wb]
  have R4 := owns_grow (owns_far R3 G4 (owns_lt R3 (show g < w2.heap.size by omega))) (below_alloc w4 (.cells #[.int .i64 wa, .int .i64 wb] 68))
  have G5 : w.grownBy (w4.alloc (.cells #[.int .i64 wa, .int .i64 wb] 68)) (some g) := grown_trans (grown_trans G3 G4) (grownBy_of (below_alloc _ _) _)
  have C5 := C4.grow (below_alloc w4 (.cells #[.int .i64 wa, .int .i64 wb] 68))
  clear C3 o3 oD G3 R3 C4 G4
  go_upto_region 3 with (fail)
  have hz0 : (w4.alloc (.cells #[.int .i64 wa, .int .i64 wb] 68)).heap.size = w4.heap.size + 1 := by simp
  revert o4 D4 E4 R4 G5 C5 hz0
  generalize w4.alloc (Obj.cells #[Value.int IntKind.i64 wa, Value.int IntKind.i64 wb] 68) = v0
  intro o4 D4 E4 R4 G5 C5 hz0
  have hgv : g < v0.heap.size := by omega
  have HC := Lib.hid C5
  have HF := Lib.hid (And.intro D4 (And.intro E4 R4))
  have HO := Lib.hid (And.intro o4 G5)
  clear C5 D4 E4 R4 o4 G5
  go_cut [5, 6] from 7 to 66 (fun s5 s6 wx => ∃ (B : Nat) (p : Pl) (u : Value) (ok : Bool), s5 = .pointer (some ⟨B, 0, none⟩) ∧ s6 = .bool ok ∧ v0.heap.size ≤ B ∧ Hid (Own wx B 31 (pcx (p, u)) ∧ PV v0.heap.size wx p u ∧ Cur wx g A n c (m + 5500) ∧ v0.grownBy wx (some g)))
  case first =>
    obtain ⟨av, hav⟩ : ∃ av, agv (us.length : Nat) (hi us.sum) (lo us.sum) (mnOf us) (mxOf us) (.slice A3 (topOf us).length c3) = av := ⟨_, rfl⟩
    have HAV := Lib.hid hav
    clear hav
    refine wp_region_kinv (kPane v0 g wa wb av) [(0, .pointer (some ⟨g, 0, none⟩)), (1, undef), (2, .pointer (some ⟨w.heap.size, 0, none⟩)), (3, .pointer (some ⟨w3.heap.size, 0, none⟩)), (4, .pointer (some ⟨w4.heap.size, 0, none⟩))] 67 []
      (fun L W => ∃ M, Cur W g A n c M ∧ M ≤ m + 100 + 310 * cnt 17 L ∧ v0.grownBy W (some g)) (by kernel_rfl) (by kernel_rfl) (by kernel_rfl) rfl rfl ?hkeep ⟨m + 100, HC.out.grow (Below.refl _ _).drew, Nat.le_add_right _ _, grownBy_of (Below.refl _ _).drew _⟩ ?hstep ?hfin
    case hkeep =>
      intro p hp
      simp only [List.mem_cons, List.not_mem_nil, or_false] at hp
      rcases hp with rfl | rfl | rfl | rfl | rfl <;> rfl
    case hstep =>
      intro L i o a W hio hLi hdep hsl hI
      have hlt : i < 17 := (Array.getElem?_eq_some_iff.1 hio).1
      have MK : ∀ {i : Nat} {W' : World}, 15 ≠ i → W.grownBy W' (some g) → ∀ (jx : Nat) (ux : Value), jx ≠ i → L jx = true → kPane v0 g wa wb av jx L W ux → kPane v0 g wa wb av jx (upd L i) W' ux := fun hix hbx jx ux _ _ hk => kPane_far hix hbx hgv hk
      have MU : ∀ {i : Nat}, L i = false → i < 17 → (∃ M, Cur W g A n c M ∧ M ≤ m + 100 + 310 * cnt 17 L ∧ v0.grownBy W (some g)) → (∃ M, Cur W g A n c M ∧ M ≤ m + 100 + 310 * cnt 17 (upd L i) ∧ v0.grownBy W (some g)) := by
        rintro i hL hi1 ⟨M, h1, h2, h3⟩
        exact ⟨M, h1, by rw [cnt_upd hi1 hL]; omega, h3⟩
      obtain ⟨Mq, hCq, hMq, hGq⟩ := hI.mem
      have hcl := cnt_le 17 L
      have hszq := hGq.size
      match i, hlt with
      | 0, hlt =>
      obtain rfl := Option.some.inj hio
      have hx := hI.held (s := 0) (v := .pointer (some ⟨g, 0, none⟩)) (by simp)
      exact wpOp_value (v := .pointer (some ⟨g, 0, none⟩)) (w' := W) hio rfl (by simp [execOp, go_sem, hx]) (hI.value hio rfl hsl hdep rfl (MK (by decide) (World.grownBy.refl _ _)) (MU hLi hlt hI.mem))
      | 1, hlt =>
      obtain rfl := Option.some.inj hio
      have d0 : L 0 = true := hdep { on := 0, ground := .data } (by simp) rfl
      obtain ⟨x, ex, kx⟩ := hI.at 0 (d := 15) rfl rfl d0
      have hx : x = .pointer (some ⟨g, 0, none⟩) := kx
      subst hx
      refine wpOp_enter (f := 86) (args := #[.pointer (some ⟨g, 0, none⟩), .int .i64 4]) (w' := W) hio rfl (by simp [execOp, go_sem, ex]) ?_
      refine (pick_any g A n c Mq 4 W hCq hn (by omega) (by omega) (by omega)).mono ?_
      rintro e W' ⟨r, rfl, hr, hC', hG'⟩
      exact ⟨_, rfl, hI.value hio rfl hsl hdep ⟨r, rfl⟩ (MK (by decide) hG') ⟨Mq + 1, hC', by rw [cnt_upd hlt hLi]; omega, grown_trans hGq hG'⟩⟩
      | 2, hlt =>
      obtain rfl := Option.some.inj hio
      have hx := hI.held (s := 0) (v := .pointer (some ⟨g, 0, none⟩)) (by simp)
      exact wpOp_value (v := .pointer (some ⟨g, 0, none⟩)) (w' := W) hio rfl (by simp [execOp, go_sem, hx]) (hI.value hio rfl hsl hdep rfl (MK (by decide) (World.grownBy.refl _ _)) (MU hLi hlt hI.mem))
      | 3, hlt =>
      obtain rfl := Option.some.inj hio
      have d2 : L 2 = true := hdep { on := 2, ground := .data } (by simp) rfl
      obtain ⟨x, ex, kx⟩ := hI.at 2 (d := 17) rfl rfl d2
      have hx : x = .pointer (some ⟨g, 0, none⟩) := kx
      subst hx
      refine wpOp_enter (f := 90) (args := #[.pointer (some ⟨g, 0, none⟩)]) (w' := W) hio rfl (by simp [execOp, go_sem, ex]) ?_
      refine (query_any g A n c Mq W hCq hn (by omega)).mono ?_
      rintro e W' ⟨F, cf, fs, P, cp, ps, k, s, t, q, kk, rfl, q1, q2, q3, q4, hC', hG'⟩
      exact ⟨_, rfl, hI.value hio rfl hsl hdep ⟨F, cf, fs, P, cp, ps, k, s, t, q, kk, rfl, q1, q2, owns_base q3 hszq, owns_base q4 hszq⟩ (MK (by decide) hG') ⟨Mq + 300, hC', by rw [cnt_upd hlt hLi]; omega, grown_trans hGq hG'⟩⟩
      | 4, hlt =>
      obtain rfl := Option.some.inj hio
      have hx := hI.held (s := 0) (v := .pointer (some ⟨g, 0, none⟩)) (by simp)
      exact wpOp_value (v := .pointer (some ⟨g, 0, none⟩)) (w' := W) hio rfl (by simp [execOp, go_sem, hx]) (hI.value hio rfl hsl hdep rfl (MK (by decide) (World.grownBy.refl _ _)) (MU hLi hlt hI.mem))
      | 5, hlt =>
      obtain rfl := Option.some.inj hio
      have d4 : L 4 = true := hdep { on := 4, ground := .data } (by simp) rfl
      obtain ⟨x, ex, kx⟩ := hI.at 4 (d := 19) rfl rfl d4
      have hx : x = .pointer (some ⟨g, 0, none⟩) := kx
      subst hx
      refine wpOp_enter (f := 86) (args := #[.pointer (some ⟨g, 0, none⟩), .int .i64 4]) (w' := W) hio rfl (by simp [execOp, go_sem, ex]) ?_
      refine (pick_any g A n c Mq 4 W hCq hn (by omega) (by omega) (by omega)).mono ?_
      rintro e W' ⟨r, rfl, hr, hC', hG'⟩
      exact ⟨_, rfl, hI.value hio rfl hsl hdep ⟨r, rfl⟩ (MK (by decide) hG') ⟨Mq + 1, hC', by rw [cnt_upd hlt hLi]; omega, grown_trans hGq hG'⟩⟩
      | 6, hlt =>
      obtain rfl := Option.some.inj hio
      have hx := hI.held (s := 4) (v := .pointer (some ⟨w4.heap.size, 0, none⟩)) (by simp)
      obtain ⟨c0, c1⟩ := (own_far HF.out.2.1 hGq (by omega)).two
      exact wpOp_value (v := .agg #[.int .i64 wa, .int .i64 wb]) (w' := W) hio rfl (by simp [execOp, go_sem, hx, c0, c1]) (hI.value hio rfl hsl hdep rfl (MK (by decide) (World.grownBy.refl _ _)) (MU hLi hlt hI.mem))
      | 7, hlt =>
      obtain rfl := Option.some.inj hio
      have hx := hI.held (s := 0) (v := .pointer (some ⟨g, 0, none⟩)) (by simp)
      exact wpOp_value (v := .pointer (some ⟨g, 0, none⟩)) (w' := W) hio rfl (by simp [execOp, go_sem, hx]) (hI.value hio rfl hsl hdep rfl (MK (by decide) (World.grownBy.refl _ _)) (MU hLi hlt hI.mem))
      | 8, hlt =>
      obtain rfl := Option.some.inj hio
      have d7 : L 7 = true := hdep { on := 7, ground := .data } (by simp) rfl
      obtain ⟨x, ex, kx⟩ := hI.at 7 (d := 22) rfl rfl d7
      have hx : x = .pointer (some ⟨g, 0, none⟩) := kx
      subst hx
      refine wpOp_enter (f := 86) (args := #[.pointer (some ⟨g, 0, none⟩), .int .i64 4]) (w' := W) hio rfl (by simp [execOp, go_sem, ex]) ?_
      refine (pick_any g A n c Mq 4 W hCq hn (by omega) (by omega) (by omega)).mono ?_
      rintro e W' ⟨r, rfl, hr, hC', hG'⟩
      exact ⟨_, rfl, hI.value hio rfl hsl hdep ⟨r, rfl⟩ (MK (by decide) hG') ⟨Mq + 1, hC', by rw [cnt_upd hlt hLi]; omega, grown_trans hGq hG'⟩⟩
      | 9, hlt =>
      obtain rfl := Option.some.inj hio
      have hx := hI.held (s := 3) (v := .pointer (some ⟨w3.heap.size, 0, none⟩)) (by simp)
      obtain ⟨c0, c1, c2, c3', c4, c5⟩ := (own_far HF.out.1 hGq (by omega)).six
      exact wpOp_value (v := av) (w' := W) hio rfl (by rw [← HAV.out]; simp [execOp, go_sem, hx, c0, c1, c2, c3', c4, c5]) (hI.value hio rfl hsl hdep rfl (MK (by decide) (World.grownBy.refl _ _)) (MU hLi hlt hI.mem))
      | 10, hlt =>
      obtain rfl := Option.some.inj hio
      have d1 : L 1 = true := hdep { on := 1, ground := .data } (by simp) rfl
      obtain ⟨x1, ex1, kx1⟩ := hI.at 1 (d := 16) rfl rfl d1
      have d3 : L 3 = true := hdep { on := 3, ground := .data } (by simp) rfl
      obtain ⟨x3, ex3, kx3⟩ := hI.at 3 (d := 18) rfl rfl d3
      have d5 : L 5 = true := hdep { on := 5, ground := .data } (by simp) rfl
      obtain ⟨x5, ex5, kx5⟩ := hI.at 5 (d := 20) rfl rfl d5
      have d6 : L 6 = true := hdep { on := 6, ground := .data } (by simp) rfl
      obtain ⟨x6, ex6, kx6⟩ := hI.at 6 (d := 21) rfl rfl d6
      have d8 : L 8 = true := hdep { on := 8, ground := .data } (by simp) rfl
      obtain ⟨x8, ex8, kx8⟩ := hI.at 8 (d := 23) rfl rfl d8
      have d9 : L 9 = true := hdep { on := 9, ground := .data } (by simp) rfl
      obtain ⟨x9, ex9, kx9⟩ := hI.at 9 (d := 24) rfl rfl d9
      obtain ⟨r1, rfl⟩ := kx1
      obtain ⟨F, cf, fs, P, cp, ps, k, s, t, q, kk, rfl, q1, q2, q3, q4⟩ := kx3
      obtain ⟨r5, rfl⟩ := kx5
      have h6 : x6 = .agg #[.int .i64 wa, .int .i64 wb] := kx6
      subst h6
      obtain ⟨r8, rfl⟩ := kx8
      have h9 : x9 = av := kx9
      rw [h9] at ex9
      have rowT := owns_far HF.out.2.2 hGq (owns_lt HF.out.2.2 (show g < w2.heap.size by omega))
      refine wpOp_enter (f := 31) (args := #[.int .i64 (r1 : Int), qv (.slice F fs.length cf) (.slice P ps.length cp) k s t q kk, .int .i64 (r5 : Int), .agg #[.int .i64 wa, .int .i64 wb], .int .i64 (r8 : Int), av]) (w' := W) hio rfl (by simp [execOp, go_sem, ex1, ex3, ex5, ex6, ex8, ex9]) ?_
      have hcall := paneOf_drawn (r1 : Int) F fs.length cf fs P ps.length cp ps k s t q kk (r5 : Int) wa wb (r8 : Int) us A3 c3 W (RowAt.reads (RowAt.of q3)) rfl (Nat.le_trans q1 (by decide)) (RowAt.reads (RowAt.of q4)) rfl (Nat.le_trans q2 (by decide)) (RowAt.reads (RowAt.of rowT)) (owns_fit rowT) (Nat.le_trans hu10 (by decide)) h64'.out
      rw [HAV.out] at hcall
      refine hcall.mono ?_
      rintro e W' ⟨pq, pk, pf, pt, pl, pn, R, po, ok, B, cb, rfl, hR, rr, hb1⟩
      exact ⟨_, rfl, hI.value hio rfl hsl hdep ⟨⟨pq, pk, pf, pt, pl, pn, R, po⟩, .slice B R.length cb, ok, rfl, ⟨B, cb, rfl, hR, owns_base rr.1 hszq⟩⟩ (MK (by decide) (grownBy_of hb1 _)) ⟨Mq, hCq.grow hb1, by rw [cnt_upd hlt hLi]; omega, grown_trans hGq (grownBy_of hb1 _)⟩⟩
      | 11, hlt =>
      obtain rfl := Option.some.inj hio
      have d10 : L 10 = true := hdep { on := 10, ground := .data } (by simp) rfl
      obtain ⟨x, ex, kx⟩ := hI.at 10 (d := 25) rfl rfl d10
      obtain ⟨p, u, ok, rfl, hp⟩ := kx
      exact wpOp_value (v := .tuple #[pvx (p, u), .bool ok]) (w' := W) hio rfl (by simp [execOp, go_sem, ex]) (hI.value hio rfl hsl hdep ⟨p, u, ok, rfl, hp⟩ (MK (by decide) (World.grownBy.refl _ _)) (MU hLi hlt hI.mem))
      | 12, hlt =>
      obtain rfl := Option.some.inj hio
      have d11 : L 11 = true := hdep { on := 11, ground := .data } (by simp) rfl
      obtain ⟨x, ex, kx⟩ := hI.at 11 (d := 14) rfl rfl d11
      obtain ⟨p, u, ok, rfl, hp⟩ := kx
      exact wpOp_value (v := pvx (p, u)) (w' := W) hio rfl (by simp [execOp, go_sem, ex]) (hI.value hio rfl hsl hdep ⟨p, u, rfl, hp⟩ (MK (by decide) (World.grownBy.refl _ _)) (MU hLi hlt hI.mem))
      | 13, hlt =>
      obtain rfl := Option.some.inj hio
      have d11 : L 11 = true := hdep { on := 11, ground := .data } (by simp) rfl
      obtain ⟨x, ex, kx⟩ := hI.at 11 (d := 14) rfl rfl d11
      obtain ⟨p, u, ok, rfl, hp⟩ := kx
      exact wpOp_value (v := .bool ok) (w' := W) hio rfl (by simp [execOp, go_sem, ex]) (hI.value hio rfl hsl hdep ⟨ok, rfl⟩ (MK (by decide) (World.grownBy.refl _ _)) (MU hLi hlt hI.mem))
      | 14, hlt =>
      obtain rfl := Option.some.inj hio
      have hns : L 15 = false := by
        cases hs : L 15 with
          | false => rfl
          | true =>
          have hc13 := hI.closed 15 _ rfl hs { on := 14, ground := .data } (by simp) rfl
          have hx : L 14 = true := hc13
          rw [hLi] at hx
          cases hx
      refine wpOp_value (v := .pointer (some ⟨W.heap.size, 0, none⟩)) (w' := W.alloc (.cells #[.int .i64 0, .int .i64 0, .int .i64 0, .int .i64 0, .int .i64 0, .int .i64 0, .slice none 0 0, .bool false] 31)) hio rfl (by simp [execOp, go_sem]) ?_
      exact hI.value hio rfl hsl hdep ⟨W.heap.size, rfl, hszq, fun _ => Own.new W _ pzc, fun hl => by rw [upd_ne (by decide), hns] at hl; cases hl⟩ (MK (by decide) (grownBy_of (below_alloc _ _) _)) ⟨Mq, hCq.grow (below_alloc _ _), by rw [cnt_upd hlt hLi]; omega, grown_trans hGq (grownBy_of (below_alloc _ _) _)⟩
      | 15, hlt =>
      obtain rfl := Option.some.inj hio
      have d14 : L 14 = true := hdep { on := 14, ground := .data } (by simp) rfl
      obtain ⟨x, ex, kx⟩ := hI.at 14 (d := 5) rfl rfl d14
      have d12 : L 12 = true := hdep { on := 12, ground := .data } (by simp) rfl
      obtain ⟨y, ey, ky⟩ := hI.at 12 (d := 26) rfl rfl d12
      obtain ⟨X, rfl, hX, hz, _⟩ := kx
      obtain ⟨p, u, rfl, hp⟩ := ky
      have qX := hz hLi
      obtain ⟨B, cb, rfl, hR, hrow⟩ := hp
      obtain ⟨t0, t1, t2, t3, t4, t5, t6, t7⟩ := qX.eight
      have ft0 := qX.free 0
      have ft1 := qX.free 1
      have ft2 := qX.free 2
      have ft3 := qX.free 3
      have ft4 := qX.free 4
      have ft5 := qX.free 5
      have ft6 := qX.free 6
      have ft7 := qX.free 7
      have hgX : g < X := by omega
      have hGX : W.grownBy (store8 W X 0 p (.slice B p.vs.length cb)) (some X) := grown_store8
      refine wpOp_skip (w' := store8 W X 0 p (.slice B p.vs.length cb)) hio rfl (by simp [execOp, go_sem, ex, ey, t0, t1, t2, t3, t4, t5, t6, t7, ft0, ft1, ft2, ft3, ft4, ft5, ft6, ft7]) ?_
      refine hI.none hio rfl hdep (fun jx o' d' ux hjx hoj hdj hau hLj hKj => ?_) ⟨Mq, cur_store8 hCq hgX p _, by rw [cnt_upd hlt hLi]; omega, grown_far8 hGq hX p _⟩ _
      by_cases ej : jx = 14
      · subst ej
        obtain rfl := Option.some.inj hoj
        obtain rfl := Option.some.inj hdj
        rw [ex] at hau
        obtain rfl := Option.some.inj hau
        exact ⟨X, rfl, hX, fun hl => (by rw [upd_at] at hl; cases hl), fun _ => ⟨p, .slice B p.vs.length cb, ((((((((qX.set 0 (.int .i64 p.q)).set 1 (.int .i64 p.k)).set 2 (.int .i64 p.f)).set 3 (.int .i64 p.t)).set 4 (.int .i64 p.l)).set 5 (.int .i64 p.n)).set 6 (.slice B p.vs.length cb)).set 7 (.bool p.o)), PV.store ⟨B, cb, rfl, hR, hrow⟩ qX hGX⟩⟩
      · exact kPane_store ej qX hGX hKj
      | 16, hlt =>
      obtain rfl := Option.some.inj hio
      have d13 : L 13 = true := hdep { on := 13, ground := .data } (by simp) rfl
      obtain ⟨x, ex, kx⟩ := hI.at 13 (d := 27) rfl rfl d13
      obtain ⟨ok, rfl⟩ := kx
      exact wpOp_value (v := .bool ok) (w' := W) hio rfl (by simp [execOp, go_sem, ex]) (hI.value hio rfl hsl hdep ⟨ok, rfl⟩ (MK (by decide) (World.grownBy.refl _ _)) (MU hLi hlt hI.mem))
    case hfin =>
      intro L a W hall hI
      obtain ⟨_, ex, X, rfl, hX, -, h2⟩ := hI.at 14 (d := 5) rfl rfl (hall 14 (by decide))
      obtain ⟨p, u, oX, hp⟩ := h2 (hall 15 (by decide))
      obtain ⟨_, ey, ok, rfl⟩ := hI.at 16 (d := 6) rfl rfl (hall 16 (by decide))
      obtain ⟨Mq, hCq, hMq, hGq⟩ := hI.mem
      have hcl := cnt_le 17 L
      have e0 := hI.held (s := 0) (v := .pointer (some ⟨g, 0, none⟩)) (by simp)
      have e1 := hI.held (s := 1) (v := undef) (by simp)
      have e2 := hI.held (s := 2) (v := .pointer (some ⟨w.heap.size, 0, none⟩)) (by simp)
      have e3 := hI.held (s := 3) (v := .pointer (some ⟨w3.heap.size, 0, none⟩)) (by simp)
      have e4 := hI.held (s := 4) (v := .pointer (some ⟨w4.heap.size, 0, none⟩)) (by simp)
      have ha : a = ⟨#[a.eval (.tmp 0), a.eval (.tmp 1), a.eval (.tmp 2), a.eval (.tmp 3), a.eval (.tmp 4), a.eval (.tmp 5), a.eval (.tmp 6), a.eval (.tmp 7), a.eval (.tmp 8), a.eval (.tmp 9), a.eval (.tmp 10), a.eval (.tmp 11), a.eval (.tmp 12), a.eval (.tmp 13), a.eval (.tmp 14), a.eval (.tmp 15), a.eval (.tmp 16), a.eval (.tmp 17), a.eval (.tmp 18), a.eval (.tmp 19), a.eval (.tmp 20), a.eval (.tmp 21), a.eval (.tmp 22), a.eval (.tmp 23), a.eval (.tmp 24), a.eval (.tmp 25), a.eval (.tmp 26), a.eval (.tmp 27), a.eval (.tmp 28), a.eval (.tmp 29), a.eval (.tmp 30), a.eval (.tmp 31), a.eval (.tmp 32), a.eval (.tmp 33), a.eval (.tmp 34), a.eval (.tmp 35), a.eval (.tmp 36), a.eval (.tmp 37), a.eval (.tmp 38), a.eval (.tmp 39), a.eval (.tmp 40), a.eval (.tmp 41), a.eval (.tmp 42), a.eval (.tmp 43), a.eval (.tmp 44), a.eval (.tmp 45), a.eval (.tmp 46), a.eval (.tmp 47), a.eval (.tmp 48), a.eval (.tmp 49), a.eval (.tmp 50), a.eval (.tmp 51), a.eval (.tmp 52), a.eval (.tmp 53), a.eval (.tmp 54), a.eval (.tmp 55), a.eval (.tmp 56), a.eval (.tmp 57), a.eval (.tmp 58), a.eval (.tmp 59), a.eval (.tmp 60), a.eval (.tmp 61), a.eval (.tmp 62), a.eval (.tmp 63), a.eval (.tmp 64), a.eval (.tmp 65), a.eval (.tmp 66)], []⟩ := act_list hI.size hI.defers
      rw [ha, eval_of ex, eval_of ey, eval_of e0, eval_of e1, eval_of e2, eval_of e3, eval_of e4]
      have HE := Lib.hid (show Own W X 31 (pcx (p, u)) ∧ PV v0.heap.size W p u ∧ Cur W g A n c (m + 5500) ∧ v0.grownBy W (some g) from ⟨oX, hp, hCq.more (by omega), hGq⟩)
      clear hI ha ex ey e0 e1 e2 e3 e4 oX hp hCq hMq hGq h2 hall hcl
      go_wp2_with fail
      go_meet
      case rel => exact ⟨X, p, u, ok, rfl, rfl, hX, HE⟩
  case rest =>
    obtain ⟨B, p, u, ok, rfl, rfl, hB, H1⟩ := hcut
    generalize wc = w5 at *
    have hwv : w.heap.size ≤ v0.heap.size := HO.out.2.size
    have P0 := Lib.hid (show PS w w5 g A n c (m + 5500) B p u from ⟨own_far HO.out.1 H1.out.2.2.2 (by omega), H1.out.1, H1.out.2.1.base hwv, H1.out.2.2.1, grown_trans HO.out.2 H1.out.2.2.2, hgl, by omega⟩)
    clear H1 HO HF HC h64' HN1 hs1 hs2 hs3 hs4 hz0 hgv hB hwv
    go_wp2_with fail
    refine (pick_any g A n c _ 14 _ P0.out.cur hn (by omega) (by omega) (by omega)).mono ?_
    rintro e w6 ⟨r, rfl, hr, C6, G6⟩
    have P1 := Lib.hid (P0.out.far G6 C6)
    clear P0 C6 G6
    obtain ⟨Bu, cu, hu, -⟩ := P1.out.v
    subst hu
    by_cases h0 : r = 0
    · subst h0
      go_wp2_with fail
      refine (raw_any g A n c _ _ P1.out.cur hn (by omega)).mono ?_
      rintro e w7 ⟨z, rfl, hz1, hz2, C7, G7⟩
      have P2 := P1.out.far G7 C7
      have hgl7 := P2.cur.lt
      have P3 := Lib.hid (P2.grow (below_alloc w7 (.cells #[.int .i64 z, .int .i64 3, .int .i64 4] 3)))
      clear P1 P2 C7 G7
      go_wp2_with fail
      refine (pick_any g A n c _ 3 _ P3.out.cur hn (by omega) (by omega) (by omega)).mono ?_
      rintro e w8 ⟨r8, rfl, hr8, C8, G8⟩
      have hL := own_far (Own.new w7 3 (iz [z, 3, 4])) G8 (by omega)
      obtain ⟨v, hv, hvm⟩ := iz_pick (zs := [z, 3, 4]) (r := r8) (by simp only [List.length_cons, List.length_nil]; omega)
      have hcell : w8.cell? ⟨w7.heap.size, r8, none⟩ = some (.int .i64 v) := (hL.cell r8).trans hv
      have P4 := P3.out.far G8 C8
      obtain ⟨c0, c1, c2, c3, c4, c5, c6, c7⟩ := P4.b.eight
      have fb := P4.b.free 0
      have P5 := Lib.hid (P4.set 0 (.int .i64 v) (p' := ⟨v, p.k, p.f, p.t, p.l, p.n, p.vs, p.o⟩) rfl rfl)
      clear hL hv hvm P3 P4 C8 G8
      go_upto_region 13 with (fail)
      clear c0 c1 c2 c3 c4 c5 c6 c7 fb hcell
      obtain ⟨c0, c1, c2, c3, c4, c5, c6, c7⟩ := P5.out.b.eight
      obtain ⟨d0, d1, d2, d3, d4, d5, d6, d7⟩ := P5.out.r.eight
      have f0 := P5.out.r.free 0
      have f1 := P5.out.r.free 1
      have f2 := P5.out.r.free 2
      have f3 := P5.out.r.free 3
      have f4 := P5.out.r.free 4
      have f5 := P5.out.r.free 5
      have f6 := P5.out.r.free 6
      have f7 := P5.out.r.free 7
      have HE := Lib.hid P5.out.done
      clear P5
      go_wp2
      obtain ⟨e0, e1, e2, e3, e4, e5, e6, e7⟩ := HE.out.1.eight
      refine bodyPost_ret (v := pvx (⟨v, p.k, p.f, p.t, p.l, p.n, p.vs, p.o⟩, .slice Bu p.vs.length cu)) (by simp [results, Try.results47, go_sem, e0, e1, e2, e3, e4, e5, e6, e7]) rfl ?_
      exact ⟨_, _, rfl, HE.out.2.1, HE.out.2.2.1.more (by omega), HE.out.2.2.2⟩
    · by_cases h1 : r = 1
      · subst h1
        go_wp2_with fail
        refine (raw_any g A n c _ _ P1.out.cur hn (by omega)).mono ?_
        rintro e w7 ⟨z, rfl, hz1, hz2, C7, G7⟩
        have P2 := P1.out.far G7 C7
        have hgl7 := P2.cur.lt
        have P3 := Lib.hid (P2.grow (below_alloc w7 (.cells #[.int .i64 z, .int .i64 15, .int .i64 16] 3)))
        clear P1 P2 C7 G7
        go_wp2_with fail
        refine (pick_any g A n c _ 3 _ P3.out.cur hn (by omega) (by omega) (by omega)).mono ?_
        rintro e w8 ⟨r8, rfl, hr8, C8, G8⟩
        have hL := own_far (Own.new w7 3 (iz [z, 15, 16])) G8 (by omega)
        obtain ⟨v, hv, hvm⟩ := iz_pick (zs := [z, 15, 16]) (r := r8) (by simp only [List.length_cons, List.length_nil]; omega)
        have hcell : w8.cell? ⟨w7.heap.size, r8, none⟩ = some (.int .i64 v) := (hL.cell r8).trans hv
        have P4 := P3.out.far G8 C8
        obtain ⟨c0, c1, c2, c3, c4, c5, c6, c7⟩ := P4.b.eight
        have fb := P4.b.free 4
        have P5 := Lib.hid (P4.set 4 (.int .i64 v) (p' := ⟨p.q, p.k, p.f, p.t, v, p.n, p.vs, p.o⟩) rfl rfl)
        clear hL hv hvm P3 P4 C8 G8
        go_upto_region 13 with (fail)
        clear c0 c1 c2 c3 c4 c5 c6 c7 fb hcell
        obtain ⟨c0, c1, c2, c3, c4, c5, c6, c7⟩ := P5.out.b.eight
        obtain ⟨d0, d1, d2, d3, d4, d5, d6, d7⟩ := P5.out.r.eight
        have f0 := P5.out.r.free 0
        have f1 := P5.out.r.free 1
        have f2 := P5.out.r.free 2
        have f3 := P5.out.r.free 3
        have f4 := P5.out.r.free 4
        have f5 := P5.out.r.free 5
        have f6 := P5.out.r.free 6
        have f7 := P5.out.r.free 7
        have HE := Lib.hid P5.out.done
        clear P5
        go_wp2
        obtain ⟨e0, e1, e2, e3, e4, e5, e6, e7⟩ := HE.out.1.eight
        refine bodyPost_ret (v := pvx (⟨p.q, p.k, p.f, p.t, v, p.n, p.vs, p.o⟩, .slice Bu p.vs.length cu)) (by simp [results, Try.results47, go_sem, e0, e1, e2, e3, e4, e5, e6, e7]) rfl ?_
        exact ⟨_, _, rfl, HE.out.2.1, HE.out.2.2.1.more (by omega), HE.out.2.2.2⟩
      · by_cases h2 : r = 2
        · subst h2
          obtain ⟨c0, c1, c2, c3, c4, c5, c6, c7⟩ := P1.out.b.eight
          have fb := P1.out.b.free 7
          have P5 := Lib.hid (P1.out.set 7 (.bool (!p.o)) (p' := ⟨p.q, p.k, p.f, p.t, p.l, p.n, p.vs, (!p.o)⟩) rfl rfl)
          clear P1
          go_upto_region 13 with (fail)
          clear c0 c1 c2 c3 c4 c5 c6 c7 fb
          obtain ⟨c0, c1, c2, c3, c4, c5, c6, c7⟩ := P5.out.b.eight
          obtain ⟨d0, d1, d2, d3, d4, d5, d6, d7⟩ := P5.out.r.eight
          have f0 := P5.out.r.free 0
          have f1 := P5.out.r.free 1
          have f2 := P5.out.r.free 2
          have f3 := P5.out.r.free 3
          have f4 := P5.out.r.free 4
          have f5 := P5.out.r.free 5
          have f6 := P5.out.r.free 6
          have f7 := P5.out.r.free 7
          have HE := Lib.hid P5.out.done
          clear P5
          go_wp2
          obtain ⟨e0, e1, e2, e3, e4, e5, e6, e7⟩ := HE.out.1.eight
          refine bodyPost_ret (v := pvx (⟨p.q, p.k, p.f, p.t, p.l, p.n, p.vs, (!p.o)⟩, .slice Bu p.vs.length cu)) (by simp [results, Try.results47, go_sem, e0, e1, e2, e3, e4, e5, e6, e7]) rfl ?_
          exact ⟨_, _, rfl, HE.out.2.1, HE.out.2.2.1.more (by omega), HE.out.2.2.2⟩
        · by_cases h3 : r = 3
          · subst h3
            go_wp2_with fail
            refine (raw_any g A n c _ _ P1.out.cur hn (by omega)).mono ?_
            rintro e w7 ⟨z, rfl, hz1, hz2, C7, G7⟩
            have P2 := P1.out.far G7 C7
            have hgl7 := P2.cur.lt
            have P3 := Lib.hid (P2.grow (below_alloc w7 (.cells #[.int .i64 z, .int .i64 1000000, .int .i64 1000001] 3)))
            clear P1 P2 C7 G7
            go_wp2_with fail
            refine (pick_any g A n c _ 3 _ P3.out.cur hn (by omega) (by omega) (by omega)).mono ?_
            rintro e w8 ⟨r8, rfl, hr8, C8, G8⟩
            have hL := own_far (Own.new w7 3 (iz [z, 1000000, 1000001])) G8 (by omega)
            obtain ⟨v, hv, hvm⟩ := iz_pick (zs := [z, 1000000, 1000001]) (r := r8) (by simp only [List.length_cons, List.length_nil]; omega)
            have hcell : w8.cell? ⟨w7.heap.size, r8, none⟩ = some (.int .i64 v) := (hL.cell r8).trans hv
            have P4 := P3.out.far G8 C8
            obtain ⟨c0, c1, c2, c3, c4, c5, c6, c7⟩ := P4.b.eight
            have fb := P4.b.free 5
            have P5 := Lib.hid (P4.set 5 (.int .i64 v) (p' := ⟨p.q, p.k, p.f, p.t, p.l, v, p.vs, p.o⟩) rfl rfl)
            clear hL hv hvm P3 P4 C8 G8
            go_upto_region 13 with (fail)
            clear c0 c1 c2 c3 c4 c5 c6 c7 fb hcell
            obtain ⟨c0, c1, c2, c3, c4, c5, c6, c7⟩ := P5.out.b.eight
            obtain ⟨d0, d1, d2, d3, d4, d5, d6, d7⟩ := P5.out.r.eight
            have f0 := P5.out.r.free 0
            have f1 := P5.out.r.free 1
            have f2 := P5.out.r.free 2
            have f3 := P5.out.r.free 3
            have f4 := P5.out.r.free 4
            have f5 := P5.out.r.free 5
            have f6 := P5.out.r.free 6
            have f7 := P5.out.r.free 7
            have HE := Lib.hid P5.out.done
            clear P5
            go_wp2
            obtain ⟨e0, e1, e2, e3, e4, e5, e6, e7⟩ := HE.out.1.eight
            refine bodyPost_ret (v := pvx (⟨p.q, p.k, p.f, p.t, p.l, v, p.vs, p.o⟩, .slice Bu p.vs.length cu)) (by simp [results, Try.results47, go_sem, e0, e1, e2, e3, e4, e5, e6, e7]) rfl ?_
            exact ⟨_, _, rfl, HE.out.2.1, HE.out.2.2.1.more (by omega), HE.out.2.2.2⟩
          · go_upto_region 13 with (fail)
            obtain ⟨c0, c1, c2, c3, c4, c5, c6, c7⟩ := P1.out.b.eight
            obtain ⟨d0, d1, d2, d3, d4, d5, d6, d7⟩ := P1.out.r.eight
            have f0 := P1.out.r.free 0
            have f1 := P1.out.r.free 1
            have f2 := P1.out.r.free 2
            have f3 := P1.out.r.free 3
            have f4 := P1.out.r.free 4
            have f5 := P1.out.r.free 5
            have f6 := P1.out.r.free 6
            have f7 := P1.out.r.free 7
            have HE := Lib.hid P1.out.done
            clear P1
            go_wp2
            obtain ⟨e0, e1, e2, e3, e4, e5, e6, e7⟩ := HE.out.1.eight
            refine bodyPost_ret (v := pvx (p, .slice Bu p.vs.length cu)) (by simp [results, Try.results47, go_sem, e0, e1, e2, e3, e4, e5, e6, e7]) rfl ?_
            exact ⟨_, _, rfl, HE.out.2.1, HE.out.2.2.1.more (by omega), HE.out.2.2.2⟩
end Go.Proofs.Ytlmlckgnmkjkdaa

/-
  What is drawn for the law on PanesSort: at most nine panes.
-/
namespace Go.Proofs.Ytlmlckgnmkjkdaa
open Go.RowKit

theorem PV.fit {B0 : Nat} {W : World} {p : Pl} {v : Value} (h : PV B0 W p v) : VFit W (p, v) := by
  obtain ⟨B, c, e, h1, h2⟩ := h
  subst e
  exact ⟨B, c, rfl, RowAt.reads (RowAt.of h2), owns_fit h2⟩
theorem PV.grow {B0 : Nat} {W W' : World} {p : Pl} {v : Value} (h : PV B0 W p v) (hb : Below W.heap.size W W') : PV B0 W' p v := by
  obtain ⟨B, c, e, h1, h2⟩ := h
  exact ⟨B, c, e, h1, owns_grow h2 hb⟩
/-- the panes drawn so far -/
structure DP (w1 W : World) (g : Nat) (A : Option Addr) (n c M : Nat) (B : Option Addr) (cb k : Nat) (X : PX) : Prop where
  row : W.ownsRow w1.heap.size 31 8 (.slice B k cb) k (prow X k)
  val : ∀ i, i < k → PV w1.heap.size W (X i).1 (X i).2
  cur : Cur W g A n c M
  gr : w1.grownBy W (some g)
section
variable {w1 W W' : World} {g n c M M' cb k : Nat} {A B : Option Addr} {X : PX}
theorem DP.far (h : DP w1 W g A n c M B cb k X) (hgl : g < w1.heap.size) (hG : W.grownBy W' (some g)) (hC : Cur W' g A n c M') : DP w1 W' g A n c M' B cb k X :=
  ⟨owns_far h.row hG (owns_lt h.row hgl), fun i hi => (h.val i hi).far hG hgl, hC, grown_trans h.gr hG⟩
theorem DP.app {B' : Option Addr} {cb' : Nat} {p : Pl} {u : Value} (h : DP w1 W g A n c M B cb k X) (hgl : g < w1.heap.size) (hp : PV w1.heap.size W p u)
    (hown : W'.ownsRow w1.heap.size 31 8 (.slice B' (k + 1) cb') (k + 1) (prow X k ++ pcx (p, u))) (hg2 : W.grownBy W' (Value.slice B k cb).ownBlock) (hb : Below w1.heap.size W W') :
    DP w1 W' g A n c M B' cb' (k + 1) (updN X k (p, u)) := by
  have hne : ∀ (q : Pl) (v : Value), PV w1.heap.size W q v → PV w1.heap.size W' q v := fun q v hv => by
    obtain ⟨Bq, cq, e, h1, h2⟩ := hv
    refine ⟨Bq, cq, e, h1, h2.kept hg2 ?_⟩
    rcases h.row.2 with ⟨e0, _⟩ | ⟨gb, _, _, e0, _⟩
    · cases e0
      rcases h2.2 with ⟨e3, _⟩ | ⟨gv, _, _, e3, _⟩
      · exact .inl (by rw [e3]; rfl)
      · exact .inr (by rw [e3]; simp [Value.ownBlock])
    · cases e0
      exact .inr (owns_types h.row h2 (by decide))
  refine ⟨?_, fun i hi => ?_, cur_low h.cur hb hgl, low_grown h.gr hb⟩
  · have e1 : prow X k ++ pcx (p, u) = prow (updN X k (p, u)) (k + 1) := by
      unfold prow
      rw [rows_succ, updN_at]
      congr 1
      exact rows_congr fun i hi => by rw [updN_ne (by omega)]
    rw [← e1]; exact hown
  · by_cases c1 : i = k
    · subst c1; rw [updN_at]; exact hne _ _ hp
    · rw [updN_ne c1]; exact hne _ _ (h.val i (by omega))
end

set_option maxRecDepth 100000 in
set_option maxHeartbeats 4000000 in
theorem drawPanesSort_any (A : Option Addr) (n c : Nat) (w : World) (hA : Byt w A n w.heap.size) (hn : n ≤ 1048576) :
    Calls Try.prog 11 #[.slice A n c] w fun e w' => ∃ (B : Option Addr) (cb k : Nat) (X : PX), e = .returned (.slice B k cb) ∧ k ≤ 9 ∧ Rd w' B (prow X k) ∧ (∀ i, i < k → VFit w' (X i)) ∧ (∀ i, i < k → (X i).1.vs.length ≤ 1048576) ∧ Below w.heap.size w w' := by
  go_enter Try.func11, Try.ntmps11
  go_wp2_with fail
  refine (l01Open_any A n c _ hA hn).mono ?_
  rintro e w1 ⟨g, hg, rfl, hC, hB1⟩
  have hgl := hC.lt
  have D0 := Lib.hid (show DP w1 (w1.alloc (.cells #[] 31)) g A n c 0 (some ⟨w1.heap.size, 0, none⟩) 0 0 (fun _ => (pzero, .slice none 0 0)) from
    ⟨owns_empty (Own.new w1 31 []) (Nat.le_refl _), fun i h => by omega, hC.grow (below_alloc _ _), grownBy_of (below_alloc _ _) _⟩)
  clear hC
  go_wp2_with fail
  refine (size_any g A n c 0 9 _ D0.out.cur hn (by omega) (by omega)).mono ?_
  rintro e w2 ⟨r, rfl, hr, C2, G2⟩
  have D1 := Lib.hid (D0.out.far hgl G2 C2)
  clear D0 C2 G2
  go_wp2
  go_loopw [4, 5] (fun s4 s5 wr => ∃ (j : Nat) (B : Option Addr) (cb k : Nat) (X : PX), j ≤ 9 ∧ s5 = .int .i64 (j : Int) ∧ s4 = .slice B k cb ∧ k + j ≤ 9 ∧ Hid (DP w1 wr g A n c (10 + 6000 * (9 - j)) B cb k X)) (fun _ s5 _ => (intOf s5).toNat)
  case atStart => exact ⟨r, _, _, 0, _, hr, rfl, rfl, by omega, Lib.hid { D1.out with cur := D1.out.cur.more (by omega) }⟩
  case round =>
    clear D1 hr
    obtain ⟨j, B, cb, k, X, hj, rfl, rfl, hkj, HD⟩ := hrel
    by_cases hj0 : 0 < j
    · go_wp2_with fail
      refine (pane_any g A n c _ _ HD.out.cur hn (by omega)).mono ?_
      rintro e w3 ⟨p, u, rfl, hp, C3, G3⟩
      have D3 := Lib.hid (HD.out.far hgl G3 C3)
      have hp3 := hp.base (HD.out.gr.size)
      clear HD C3 G3 hp
      obtain ⟨Bu, cu, hu, hl, hrow⟩ := hp3
      subst hu
      have HP := Lib.hid (show PV w1.heap.size w3 p (.slice Bu p.vs.length cu) from ⟨Bu, cu, rfl, hl, hrow⟩)
      clear hl hrow
      have HN1 : Hid (k + 1 ≤ 2097152) := Lib.hid (by omega)
      have hsz := D3.out.gr.size
      go_wp2_with (at_builtin; refine appPane.own rfl _ (.tmp 18) rfl w1.heap.size (.slice B k cb) k (prow X k) rfl (owns_grow D3.out.row (below_alloc _ _)) w3.heap.size 1 1 (pac p.q p.k p.f p.t p.l p.n (.slice Bu p.vs.length cu) p.o) rfl (Own.new w3 _ _) rfl (by intro v hv; simp at hv; rcases hv with rfl | rfl | rfl | rfl | rfl | rfl | rfl | rfl <;> rfl) HN1 (Nat.le_trans hsz (below_alloc _ _).size) ?_; intro B8 cb8 w8 hown8 hgrow8 hb8)
      have D4 : DP w1 (w3.alloc (.cells (pac p.q p.k p.f p.t p.l p.n (.slice Bu p.vs.length cu) p.o).toArray 31)) g A n c (10 + 6000 * (9 - j) + 6000) B cb k X := D3.out.far hgl (grownBy_of (below_alloc _ _) _) (D3.out.cur.grow (below_alloc _ _))
      have D8 := D4.app hgl (HP.out.grow (below_alloc _ _)) hown8 hgrow8 hb8
      have HD8 := Lib.hid (show DP w1 w8 g A n c (10 + 6000 * (9 - (j - 1))) B8 cb8 (k + 1) _ from { D8 with cur := D8.cur.more (by omega) })
      clear D3 D4 D8 HP hown8 hgrow8 hb8 hsz
      go_roundw
      case rel => exact ⟨j - 1, B8, cb8, k + 1, _, by omega, by go_num, rfl, by omega, HD8⟩
      case measure => simp [intOf]; omega
    · obtain rfl : j = 0 := by omega
      have hbw := below_draw hB1 HD.out.gr hg
      go_wp2
      go_ret
      exact ⟨B, cb, k, X, rfl, by omega, RowAt.reads (RowAt.of HD.out.row), fun i hi => (HD.out.val i hi).fit, fun i hi => by obtain ⟨_, _, _, h1, _⟩ := HD.out.val i hi; exact h1, hbw⟩
end Go.Proofs.Ytlmlckgnmkjkdaa

/-
  The law: sorting keeps all panes, sorts them, and is stable: whatever is drawn, the program's answer is the model's, no pane precedes the one before it, and sorting once more changes nothing.
-/
namespace Go.Proofs.Ytlmlckgnmkjkdaa
open Go.RowKit

set_option maxRecDepth 100000 in
set_option maxHeartbeats 8000000 in
theorem fnPanesSort_walk (A : Option Addr) (c n : Nat) (w : World) (hA : Byt w A n w.heap.size) (hn : n ≤ 9223372036854775807) :
    Calls Try.prog 3 #[.slice A n c] w fun e w' => e = .returned (.bool true) ∧ Below w.heap.size w w' := by
  by_cases hbig : 1048576 < n
  · go_enter Try.func3, Try.ntmps3
    go_wp2_with fail
    refine (bigN_any A n c true _ (by simpa using hbig) hn).mono ?_
    rintro e w' ⟨rfl, rfl⟩
    go_wp2
    go_ret
    exact ⟨rfl, Below.refl _ _⟩
  · go_enter Try.func3, Try.ntmps3
    go_wp2_with fail
    refine (bigN_any A n c false _ (by simpa using hbig) hn).mono ?_
    rintro e w' ⟨rfl, rfl⟩
    go_wp2_with fail
    refine (drawPanesSort_any A n c _ hA (by omega)).mono ?_
    rintro e w2 ⟨B, cb, k, X, rfl, hk9, hX, hV, hM, hb⟩
    have hk : k ≤ 1048576 := by omega
    obtain ⟨s, hs⟩ := stab_exists (plo_swo X) k
    have HS := Lib.hid hs
    have HX := Lib.hid (fun W (h : Below w2.heap.size w2 W) => hX.below h)
    have HV := Lib.hid (fun W (h : Below w2.heap.size w2 W) i (hi : i < k) => (hV i hi).below h)
    have HM := Lib.hid hM
    have h2 := Below.refl w2.heap.size w2
    clear hA hbig hn hs hX hV hM
    go_wp2_with fail
    refine (panesSort_any B k cb X s _ (HX.out _ h2) (HV.out _ h2) HM.out hk HS.out).mono ?_
    rintro e w3 ⟨g, Y, rfl, pY, eY, hb3⟩
    replace h2 := below_trans h2 hb3
    replace hb := below_trans hb hb3
    clear hb3
    have HY := Lib.hid eY
    have HMY := Lib.hid (show ∀ i, i < k → (Y i).1.vs.length ≤ 1048576 from fun i hi => by rw [HY.out i hi]; exact HM.out _ (HS.out.lt_at hi))
    clear eY
    go_wp2_with fail
    refine (specPanesSort_any B k cb X _ (HX.out _ h2) (HV.out _ h2) HM.out hk).mono ?_
    rintro e w4 ⟨Bw, cw, Yw, s', rfl, rY, hs', ew, hb4⟩
    replace pY := pY.grow hb4
    replace hb := below_trans hb hb4
    have HW := Lib.hid (show ∀ i, i < k → (Y i).1 = (Yw i).1 from fun i hi => by rw [HY.out i hi, ew i hi, stab_unique HS.out hs'])
    clear hb4 hs' ew h2 HX HV
    go_wp2_with fail
    refine (samePanes_same _ Bw k k cw Y Yw _ (by obtain ⟨_, _, e, h⟩ := pY.rd; cases e; exact h) rY HW.out HMY.out hk).mono ?_
    rintro e w5 ⟨rfl, hb5⟩
    replace pY := pY.grow hb5
    replace hb := below_trans hb hb5
    clear hb5 rY HW
    have hkk : ((k : Int) != (k : Int)) = false := by simp
    have PY := Lib.hid pY
    clear pY
    go_wp2
    go_loopw [5] (fun i wr => ∃ j : Nat, 1 ≤ j ∧ j ≤ k + 1 ∧ i = .int .i64 (j : Int) ∧ Below w5.heap.size w5 wr) (fun i _ => k + 1 - (intOf i).toNat)
    case atStart => exact ⟨1, by omega, by omega, rfl, Below.refl _ _⟩
    case round =>
      obtain ⟨j, hj1, hjk, rfl, hbel⟩ := hrel
      by_cases hlt : j < k
      · obtain ⟨p, rfl⟩ : ∃ p, j = p + 1 := ⟨j - 1, by omega⟩
        have F1 := fun u : Bel wr => (PY.out.grow (below_trans hbel u.ok)).row.1
        have HNL := Lib.hid (show ¬ plt (Y (p + 1)).1.q (Y (p + 1)).1.k (Y (p + 1)).1.f (Y (p + 1)).1.t (Y p).1.q (Y p).1.k (Y p).1.f (Y p).1.t from by
          rw [HY.out (p + 1) hlt, HY.out p (by omega)]
          exact HS.out.up p (p + 1) (by omega) hlt)
        have D1 : ∀ (u : Bel wr) (q : Nat), q < 8 → u.w.cell? ⟨g, (p + 1) * 8 + q, none⟩ = (pcx (Y (p + 1)))[q]? := fun u q hq => by rw [(F1 u).cellAt ((p + 1) * 8 + q) (by omega)]; exact rows_at (pcx_len Y) hlt hq
        have D2 : ∀ (u : Bel wr) (q : Nat), q < 8 → u.w.cell? ⟨g, p * 8 + q, none⟩ = (pcx (Y p))[q]? := fun u q hq => by rw [(F1 u).cellAt (p * 8 + q) (by omega)]; exact rows_at (pcx_len Y) (by omega) hq
        clear F1
        revert D1 D2 HNL
        generalize Y (p + 1) = x
        generalize Y p = y
        obtain ⟨⟨q, kk, f, t, l, nn, vs, o⟩, xv⟩ := x
        obtain ⟨⟨q', kk', f', t', l', nn', vs', o'⟩, yv⟩ := y
        intro HNL D1 D2
        have a0 : ∀ u : Bel wr, u.w.cell? ⟨g, (p + 1) * 8, none⟩ = some (.int .i64 q) := fun u => D1 u 0 (by omega)
        have a1 : ∀ u : Bel wr, u.w.cell? ⟨g, (p + 1) * 8 + 1, none⟩ = some (.int .i64 kk) := fun u => D1 u 1 (by omega)
        have a2 : ∀ u : Bel wr, u.w.cell? ⟨g, (p + 1) * 8 + 2, none⟩ = some (.int .i64 f) := fun u => D1 u 2 (by omega)
        have a3 : ∀ u : Bel wr, u.w.cell? ⟨g, (p + 1) * 8 + 3, none⟩ = some (.int .i64 t) := fun u => D1 u 3 (by omega)
        have a4 : ∀ u : Bel wr, u.w.cell? ⟨g, (p + 1) * 8 + 4, none⟩ = some (.int .i64 l) := fun u => D1 u 4 (by omega)
        have a5 : ∀ u : Bel wr, u.w.cell? ⟨g, (p + 1) * 8 + 5, none⟩ = some (.int .i64 nn) := fun u => D1 u 5 (by omega)
        have a6 : ∀ u : Bel wr, u.w.cell? ⟨g, (p + 1) * 8 + 6, none⟩ = some xv := fun u => D1 u 6 (by omega)
        have a7 : ∀ u : Bel wr, u.w.cell? ⟨g, (p + 1) * 8 + 7, none⟩ = some (.bool o) := fun u => D1 u 7 (by omega)
        have b0 : ∀ u : Bel wr, u.w.cell? ⟨g, p * 8, none⟩ = some (.int .i64 q') := fun u => D2 u 0 (by omega)
        have b1 : ∀ u : Bel wr, u.w.cell? ⟨g, p * 8 + 1, none⟩ = some (.int .i64 kk') := fun u => D2 u 1 (by omega)
        have b2 : ∀ u : Bel wr, u.w.cell? ⟨g, p * 8 + 2, none⟩ = some (.int .i64 f') := fun u => D2 u 2 (by omega)
        have b3 : ∀ u : Bel wr, u.w.cell? ⟨g, p * 8 + 3, none⟩ = some (.int .i64 t') := fun u => D2 u 3 (by omega)
        have b4 : ∀ u : Bel wr, u.w.cell? ⟨g, p * 8 + 4, none⟩ = some (.int .i64 l') := fun u => D2 u 4 (by omega)
        have b5 : ∀ u : Bel wr, u.w.cell? ⟨g, p * 8 + 5, none⟩ = some (.int .i64 nn') := fun u => D2 u 5 (by omega)
        have b6 : ∀ u : Bel wr, u.w.cell? ⟨g, p * 8 + 6, none⟩ = some yv := fun u => D2 u 6 (by omega)
        have b7 : ∀ u : Bel wr, u.w.cell? ⟨g, p * 8 + 7, none⟩ = some (.bool o') := fun u => D2 u 7 (by omega)
        have HL := Lib.hid (fun W => as_bool (tf_no HNL.out).symm (implPaneLess_any q kk f t l nn xv o q' kk' f' t' l' nn' yv o' W))
        clear D1 D2 HNL
        go_wp2
        refine wp_region_bel (by kernel_rfl) (by kernel_rfl) ?_
        repeat (go_big_quiet_step ((go_at_call 15; exact bel_of _ (HL.out _))))
        refine wpQuiet_nil ?_
        rintro _ ⟨u, rfl⟩
        clear a0 a1 a2 a3 a4 a5 a6 a7 b0 b1 b2 b3 b4 b5 b6 b7
        go_wp2
        go_roundw
        case rel => exact ⟨p + 1 + 1, by omega, by omega, by go_num, below_trans hbel u.ok⟩
        case measure => simp [intOf]; omega
      · have hbw := below_trans hb hbel
        have pY := PY.out.grow hbel
        have hid := stab_id (lt := plo Y) (m := k) fun i j hij hj => by
          have := HS.out.up i j hij hj
          unfold plo at this ⊢
          rw [HY.out i (by omega), HY.out j hj]
          exact this
        clear hb hbel PY
        go_wp2_with fail
        refine (panesSort_any _ k k Y _ _ (RowAt.reads pY.row) (fun i hi => (pY.val i hi).fit) HMY.out hk hid).mono ?_
        rintro e w6 ⟨g6, Z, rfl, pZ, eZ, hb6⟩
        replace pY := pY.grow hb6
        replace hbw := below_trans hbw hb6
        have HZ := Lib.hid (show ∀ i, i < k → (Z i).1 = (Y i).1 from fun i hi => by rw [eZ i hi]; simp [hi])
        clear hb6 eZ hid
        go_wp2_with fail
        refine (samePanes_same _ _ k k k Z Y _ (by obtain ⟨_, _, e, h⟩ := pZ.rd; cases e; exact h) (by obtain ⟨_, _, e, h⟩ := pY.rd; cases e; exact h) HZ.out (fun i hi => by rw [HZ.out i hi]; exact HMY.out i hi) hk).mono ?_
        rintro e w7 ⟨rfl, hb7⟩
        replace hbw := below_trans hbw hb7
        go_wp2
        go_ret
        exact ⟨rfl, hbw⟩
end Go.Proofs.Ytlmlckgnmkjkdaa

/-
  From a law's walk to its row: what every row needs.
-/
namespace Go.Proofs.Ytlmlckgnmkjkdaa
open Go.ChangeShapes Go.WideShapes Go.ChangeAt Go.RowKit Go.Joins

theorem Try.ownKnob : ownKnob Try.prog.godebug = none := by kernel_rfl
theorem Try.laidOut : laidOutB Try.prog = true := by kernel_rfl

/-- The arguments read as they did. -/
theorem trodAll_below {H : Type} {enc : TypeId × Value → H} {W W' : World} (hb : Below W.heap.size W W') (ts : List TypeId) (hr : ∀ t ∈ ts, Try.prog.readableRec t = true ∧ t < Try.prog.types.size) :
    ∀ {vs : List Value} {ds : List (DataW H)} {ps : List MemPlace}, DataW.TrodAll enc Try.prog W 0 (fun _ => true) true ts vs ds ps →
      DataW.TrodAll enc Try.prog W' 0 (fun b => decide (b < W.heap.size)) true ts vs ds ps := by
  induction ts with
  | nil =>
    intro vs ds ps h
    obtain ⟨rfl, rfl, rfl⟩ := trodAll_nil h
    exact trodAll_mk0
  | cons t ts ih =>
    intro vs ds ps h
    obtain ⟨v, vs', d, ds', p, q, rfl, rfl, rfl, h0, r⟩ := trodAll_cons h
    have lt0 : ∀ x ∈ p, x.block < W.heap.size := by obtain ⟨m, hm⟩ := h0; exact DataW.trod_lt m _ _ _ hm
    have ht := hr t (List.mem_cons_self ..)
    exact trodAll_cons_mk (Below.trod Try.laidOut ht.1 ht.2 h0 hb lt0) (ih (fun t' h' => hr t' (List.mem_cons_of_mem _ h')) r)

end Go.Proofs.Ytlmlckgnmkjkdaa

/-
  A slice of bytes that came in.
-/
namespace Go.Proofs.Ytlmlckgnmkjkdaa
open Go.ChangeShapes Go.WideShapes Go.ChangeAt Go.RowKit

set_option maxRecDepth 100000 in
theorem bytes_in {H : Type} {enc : TypeId × Value → H} {W : World} {b0 : Nat} {v : Value} {d : DataW H} {p : List MemPlace} (hv : Value.okWide Try.prog W .any b0 22 v)
    (h : DataW.Trod enc Try.prog W 0 (fun _ => true) true 22 v d p) :
    ∃ (A : Option Addr) (ca n : Nat), v = .slice A n ca ∧ Byt W A n W.heap.size ∧ n ≤ 9223372036854775807 ∧ n ≤ ca := by
  obtain ⟨a0, l0, c0, rfl⟩ := okWide_slice Try.underlying22 hv
  obtain ⟨fuel, hf⟩ := h
  rcases open_ints Try.underlying22 Try.underlying5 (by kernel_rfl) hf with ⟨hcs, _⟩ | ⟨a, len, cap, zs, hcs, _, hl, hm, hz, hy, hcell, hwz⟩
  · simp [Value.cells] at hcs
    obtain ⟨rfl, rfl, rfl⟩ := hcs
    exact ⟨none, 0, 0, rfl, (fun k hk => by omega), by simp, Nat.le_refl _⟩
  · simp [Value.cells] at hcs
    obtain ⟨rfl, rfl, rfl⟩ := hcs
    rw [if_pos rfl] at hz
    unfold maxLen at hm
    refine ⟨some a, c0, l0, rfl, fun k hk => ?_, by omega, hl⟩
    have hc := hcell k (by omega)
    have hb := World.block_lt_of_cell? W _ hc
    rw [add_block] at hb
    have hkz : k < zs.length := by omega
    have hmem : zs.getD k 0 ∈ zs := by simp [hkz]
    have hw := hwz _ hmem
    generalize zs.getD k 0 = z at hw hc
    simp [Lit.wf, IntKind.min, IntKind.max, IntKind.signed, IntKind.bits] at hw
    obtain ⟨b, rfl⟩ := Int.eq_ofNat_of_zero_le (show 0 ≤ z by omega)
    exact ⟨a, b, rfl, hb, by omega, hc⟩

end Go.Proofs.Ytlmlckgnmkjkdaa

/-
  The law on sorting panes: whatever is drawn, PanesSort keeps all panes, sorts them, and is stable. No condition.
-/
namespace Go.Proofs.Ytlmlckgnmkjkdaa
open Go.ChangeShapes Go.WideShapes Go.ChangeAt Go.RowKit

set_option maxRecDepth 100000 in
theorem fnPanesSort_lifted (os : Os) (started : os.Started) (H : Type) (enc : TypeId × Value → H) :
    ReturnsInHanded {} Try.checked os 3 .any (Rows.fnPanesSortSpec.pre6 enc Try.prog Try.f3 Rows.fnPanesSortRow.domain false) (Rows.fnPanesSortSpec.post enc Try.prog Try.f3 false true false false) := by
  refine returnsInHanded_of_change (C := Try.checked) Try.ownKnob started (by kernel_rfl) Try.func3
    (ChangeSpec.witness6 (enc := enc) (C := Try.checked) false ⟨#[], #[.slice none 0 0], []⟩ 8 (by kernel_rfl) (by kernel_rfl) (by kernel_rfl) (by kernel_rfl)) ?_
  intro W base args ds gs before hval0 hW _ _
  have hval : ∀ (j : Nat) t v, Try.f3.params[j]? = some t → args[j]? = some v → Value.okWide Try.prog W .any base t v := hval0
  have hW' := hW
  obtain ⟨p, q, hA0, hV, rfl, hfz, hnd⟩ := hW
  have hA : DataW.TrodAll enc Try.prog W 0 (fun _ => true) true Try.f3.params.toList args.toList ds p := hA0
  have hback := fun W' (bel : Below W.heap.size W W') => trodAll_below bel _ (by
    rw [Try.params3]; intro t ht; simp only [List.mem_cons, List.not_mem_nil, or_false] at ht
    rcases ht with rfl <;> exact ⟨by kernel_rfl, of_decide_eq_true (by kernel_rfl)⟩) hA
  rw [Try.params3] at hA hval
  obtain ⟨v0, vs0, d0, ds0, p0, q0, hargs, rfl, rfl, h0, r0⟩ := trodAll_cons hA
  obtain ⟨rfl, rfl, rfl⟩ := trodAll_nil r0
  obtain rfl : args = #[v0] := by cases args; simp_all
  obtain ⟨rfl, rfl⟩ := trodVars_none hV
  obtain ⟨A, ca, n, rfl, hR0, hn0, hz0⟩ := bytes_in (hval 0 22 v0 rfl rfl) h0
  refine (fnPanesSort_walk A ca n W hR0 hn0).mono fun e W' ⟨he, bel⟩ => ?_
  subst he
  exact ⟨_, rfl, _, _, _, [], _, [], hW', trodAll_mk1 (shut_bool Try.underlying4 _), hback W' bel, rfl, bel.frame _, fun h => by cases h⟩

theorem fnPanesSort_holds : Rows.FnPanesSortSaid :=
  OpenClaim.holds_of_wide 3 Try.f3 rfl rfl rfl rfl rfl rfl rfl ⟨rfl, rfl, rfl, rfl, rfl⟩ rfl rfl rfl rfl rfl (by kernel_rfl) Try.func3 (by kernel_rfl)
    (of_decide_eq_true (by kernel_rfl)) (by unfold Func.isWrapper; first | (rw [if_pos (by decide +kernel)]; kernel_rfl) | (rw [if_neg (by decide +kernel)]; exact ⟨rfl, rfl⟩))
    (fun os started H enc _ => fnPanesSort_lifted os started H enc)

end Go.Proofs.Ytlmlckgnmkjkdaa
