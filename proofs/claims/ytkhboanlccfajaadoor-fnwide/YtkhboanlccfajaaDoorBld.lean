/-
  A strings.Builder beside a block of another type: copyCheck, WriteByte.
-/
import Derived.Test.YtkhboanlccfajaaDoorIntRows
import Derived.Lib.Builder
import Derived.Laws.Externs
namespace Go.Proofs.YtkhboanlccfajaaDoor
open Go.RowKit

theorem builderSize : (Tryd.prog.info? 69).map (·.size) = some 2 := by kernel_rfl
theorem info_byte : (Tryd.prog.info? 5).map (fun i => (i.zero, i.size, i.bytes)) = some (some (.int .u8 0), 1, 1) := by kernel_rfl
/-- the builder's own address -/
def selfAt (b : Nat) : Value := .pointer (some ⟨b, 0, none⟩)

set_option maxHeartbeats 1000000 in
theorem copyCheck_used (b : Nat) (w : World) (h0 : w.cell? ⟨b, 0, none⟩ = some (.pointer (some ⟨b, 0, none⟩))) :
    Calls Tryd.prog 42 #[.pointer (some ⟨b, 0, none⟩)] w fun e w' => e = .returned (.tuple #[]) ∧ w = w' := by
  obtain ⟨j, hj, _⟩ := Option.map_eq_some_iff.1 builderSize
  have hne := fun wx => Lib.run_neq_ptr_same (P := Tryd.prog) wx ⟨b, 0, none⟩ Tryd.underlying67 hj
  go_enter Tryd.func42, Tryd.ntmps42
  go_wp2
  go_end0
  exact ⟨rfl, rfl⟩

set_option maxHeartbeats 1000000 in
theorem copyCheck_fresh (b : Nat) (w : World) (h0 : w.cell? ⟨b, 0, none⟩ = some (.pointer none)) (hsh : w.shape? b = some (69, 2)) (hfz : w.frozen? ⟨b, 0, none⟩ = false) :
    Calls Tryd.prog 42 #[.pointer (some ⟨b, 0, none⟩)] w fun e w' => e = .returned (.tuple #[]) ∧ w.setCell ⟨b, 0, none⟩ (.pointer (some ⟨b, 0, none⟩)) = w' := by
  obtain ⟨j, hj, hjs⟩ := Option.map_eq_some_iff.1 builderSize
  have k1 := Lib.run_to_unsafe (P := Tryd.prog) w ⟨b, 0, none⟩ Tryd.underlying67 Tryd.underlying84 hj (by rw [hjs]; decide) hsh (Nat.zero_lt_succ 1)
  have k2 := Lib.run_from_unsafe (P := Tryd.prog) w ⟨b, 0, none⟩ Tryd.underlying84 Tryd.underlying67 hj hsh (by kernel_rfl)
  have k3 : (callFunc 46 #[.pointer (some ⟨b, 0, none⟩)]).run Tryd.prog w = .ok (.value (.pointer (some ⟨b, 0, none⟩))) w := by
    rw [run_callFunc_extern Tryd.func46 (by kernel_rfl) (by kernel_rfl) (by kernel_rfl) (e := Extern.AbiNoEscape.same) (by kernel_rfl), Lib.run_noEscape]; rfl
  go_enter Tryd.func42, Tryd.ntmps42
  go_wp2
  go_end0
  exact ⟨rfl, rfl⟩

theorem cell_at {w : World} {b k : Nat} {t : TypeId} {cs : Array Value} (h : w.heap[b]? = some (.cells cs t (0, 0))) : w.cell? ⟨b, k, none⟩ = cs[k]? := by
  rw [cell_of_row w b k cs t (0, 0) h]
theorem types_far {w : World} {d B n : Nat} {t e : TypeId} {ds cs : List Value} {v : Value} (hd : Own w d t ds) (ht : t ≠ e) (h : w.ownsRow B e 1 v n cs) : v.ownBlock ≠ some d := by
  rcases h.2 with ⟨rfl, _⟩ | ⟨g, cap, cur, rfl, _, hg, _⟩
  · simp [Value.ownBlock]
  · intro e'
    simp [Value.ownBlock] at e'
    subst e'
    unfold Own at hd
    rw [hg] at hd
    simp at hd
    exact ht hd.2.symm

/-- What copyCheck leaves: a builder that knows itself, and the other block as it was. -/
theorem copyCheck_any (B b : Nat) (p : Value) (hp : p = .pointer none ∨ p = selfAt b) (bs : List Value) (w : World) (h : Lib.BuilderAt 69 5 B b p bs w) (d : Nat) (t : TypeId) (ds : List Value) (hd : Own w d t ds) (hdb : d ≠ b) :
    Calls Tryd.prog 42 #[.pointer (some ⟨b, 0, none⟩)] w fun e w' => e = .returned (.tuple #[]) ∧ Lib.BuilderAt 69 5 B b (selfAt b) bs w' ∧ Below B w w' ∧ Own w' d t ds := by
  rcases hp with rfl | rfl
  · refine (copyCheck_fresh b w h.cell0 h.shape h.frozen0).mono ?_
    rintro e w' ⟨rfl, rfl⟩
    exact ⟨rfl, h.used _, (Below.refl B w).setCell (by simpa using h.1) _, hd.far (by simpa using hdb) _⟩
  · refine (copyCheck_used b w h.cell0).mono ?_
    rintro e w' ⟨rfl, rfl⟩
    exact ⟨rfl, h, Below.refl _ _, hd⟩

set_option maxHeartbeats 2000000 in
theorem writeByte_any (B b : Nat) (p : Value) (hp : p = .pointer none ∨ p = selfAt b) (bs : List Value) (c : Int) (w : World) (h : Lib.BuilderAt 69 5 B b p bs w) (hlen : bs.length ≤ 1000) (d : Nat) (t : TypeId) (ds : List Value) (hd : Own w d t ds) (ht : t ≠ 5) (hdb : d ≠ b) (hBw : B ≤ w.heap.size) :
    Calls Tryd.prog 36 #[.pointer (some ⟨b, 0, none⟩), .int .u8 c] w fun e w' => e = .returned .nilIface ∧ Lib.BuilderAt 69 5 B b (selfAt b) (bs ++ [.int .u8 c]) w' ∧ Below B w w' ∧ Own w' d t ds := by
  obtain ⟨i0, hi, hz0, hz1, hz2⟩ := info_parts info_byte
  have HI := Lib.hid (And.intro hi (And.intro hz0 (And.intro hz1 hz2)))
  clear hi hz0 hz1 hz2
  go_enter Tryd.func36, Tryd.ntmps36
  go_wp2_with fail
  refine (copyCheck_any B b p hp bs _ h d t ds hd hdb).mono ?_
  clear h hd hp
  rintro e w1 ⟨rfl, ⟨hB, v, hbk, hown, hne⟩, hb1, hd⟩
  have hBw1 : B ≤ w1.heap.size := Nat.le_trans hBw hb1.size
  have c0 : w1.cell? ⟨b, 0, none⟩ = some (.pointer (some ⟨b, 0, none⟩)) := by rw [cell_at hbk]; rfl
  have c1 : w1.cell? ⟨b, 1, none⟩ = some v := by rw [cell_at hbk]; rfl
  have hlt : b < w1.heap.size := World.block_lt_of_cell? w1 _ c0
  have hdv := types_far hd ht hown
  go_wp2_with (at_builtin; refine wpList_append_own _ rfl _ _ 22 rfl B 5 i0 (.int .u8 0) 1 1 Tryd.underlying22 HI.out.1 HI.out.2.1 HI.out.2.2.1 HI.out.2.2.2 rfl (by decide) _ _ _ rfl (hown.alloc _) ⟨w1.heap.size, 0, none⟩ 1 1 [.int .u8 c] rfl rfl ?c1 ?c2 ?c3 ?c4 ?c5 ?_)
  case c1 =>
    intro j u hj
    match j, hj with
    | 0, hj => simp at hj; subst hj; simp [Addr.add]
  case c2 => intro u hu; simp at hu; subst hu; rfl
  case c3 => unfold maxLen; omega
  case c4 => omega
  case c5 => simp; omega
  intro v' w2 hown' hgrow _
  have hb2 : w2.heap[b]? = some (.cells #[selfAt b, v] 69 (0, 0)) := by
    rw [hgrow.block b (by simp; omega) (fun e => hne e.symm), Below.heap_alloc w1 _ b hlt]; exact hbk
  have hd2 : Own w2 d t ds := (hgrow.block d (by have := hd.lt; simp; omega) (fun e => hdv e.symm)).trans (hd.alloc _)
  have d0 : w2.cell? ⟨b, 0, none⟩ = some (selfAt b) := by rw [cell_at hb2]; rfl
  have d1 : w2.cell? ⟨b, 1, none⟩ = some v := by rw [cell_at hb2]; rfl
  have f1 : w2.frozen? ⟨b, 1, none⟩ = false := by simp [World.frozen?, hb2]
  obtain ⟨A', c', rfl, _⟩ := owns_rd hown'
  have hbel : Below B w w2 := (hb1.alloc hBw1 _).grown hgrow (by simp; omega) (fun k hk => (hown.lt k hk).1)
  clear c0 c1
  go_wp2
  go_ret
  refine ⟨rfl, ?_, hbel.setCell (by simp; omega) _, hd2.far (by simpa using hdb) _⟩
  exact Lib.BuilderAt.put hB hb2 (bs' := bs ++ [.int .u8 c]) (by simpa using hown') (by decide)
end Go.Proofs.YtkhboanlccfajaaDoor
