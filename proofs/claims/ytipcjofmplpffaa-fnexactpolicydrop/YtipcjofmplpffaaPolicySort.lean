/-
  The sort of puncts by place: what slices.SortFunc leaves.
-/
import Derived.Test.YtipcjofmplpffaaSortKit
import Derived.Test.YtipcjofmplpffaaSortLay
import Derived.Test.YtipcjofmplpffaaPolicyOkI
namespace Go.Proofs.Ytipcjofmplpffaa
open Go.RowKit Go.Lib Go.Sort Go.Shelf

def encP (p : Pn) : List Value := [.int .i64 p.1, .int .i64 p.2.1, .int .i64 p.2.2.1, .int .i64 p.2.2.2]
theorem encP_len (p : Pn) : (encP p).length = 4 := rfl
theorem encP_all (ps : List Pn) : ps.flatMap encP = iz (qz ps) := by
  induction ps with
  | nil => rfl
  | cons p ps ih => rw [List.flatMap_cons, ih, qz_cons]; rfl
theorem lt_is (x y : Pn) : ltOf cmpP x y = decide (lessP x y) := by unfold ltOf; exact decide_eq_decide.2 cmpP_neg
theorem swo_places : SWO (ltOf cmpP) where
  irrefl x := by rw [lt_is]; exact decide_eq_false (less_irrefl x)
  trans x y z h1 h2 := by rw [lt_is, decide_eq_true_iff] at *; exact less_trans h1 h2
  ntrans x y z h1 h2 := by rw [lt_is, decide_eq_false_iff_not] at *; unfold lessP at *; omega
theorem cmpLays_places (blk off size : Nat) (w : World) : CmpLays Try.prog 72 #[] encP 4 cmpP blk off size w :=
  fun _ _ _ _ x y => comparePlaces_any x.1 x.2.1 x.2.2.1 x.2.2.2 y.1 y.2.1 y.2.2.1 y.2.2.2 _

set_option maxRecDepth 100000 in
theorem sortPuncts_any (v : Value) (base : Nat) (ss : List Pn) (w : World) (hrow : w.ownsRow base 29 4 v ss.length (iz (qz ss))) (hnil : v ≠ .slice none 0 0) (hn : ss.length ≤ 1048588) :
    Calls Try.prog 78 #[v, .func (.func 72) #[] #[]] w fun e w' => e = .returned (.tuple #[]) ∧
      ∃ ts : List Pn, ts.Perm ss ∧ ts.Pairwise (fun a b => ¬ lessP b a) ∧ w'.ownsRow base 29 4 v ss.length (iz (qz ts)) ∧ w.grownBy w' v.ownBlock := by
  rcases hrow.2 with ⟨h, _⟩ | ⟨g, cap, cur, rfl, hbase, hb, h1, h2, h3, h4⟩
  · exact absurd h hnil
  rw [← encP_all] at h4
  have eg : ∀ args w, (callFunc 72 args).run Try.prog w = .ok (.enter 72 args) w := enters_of Try.func72 (by kernel_rfl) rfl
  have hH := holdsK_block (enc := encP) encP_len hb h4
  have hcon := AnyQ.slices_SortFunc sortP 4 Try.isAgg29 Try.sizeOf29 encP encP_len (fun x v hv => by simp [encP] at hv; rcases hv with rfl | rfl | rfl | rfl <;> rfl) cmpP swo_places 72 #[] g 0 cap ss.toArray w eg (cmpLays_places _ _ _ _) hH ((Array.getElem?_eq_some_iff.1 hb).1) (by simp; omega)
  refine (show Calls Try.prog 78 _ _ _ from hcon).mono ?_
  rintro e w' ⟨he, d', n, os, hp, hs, rfl⟩
  refine ⟨he, d'.toList, perm_of_permIn hp, ?_, ?_, ?_⟩
  · have := sorted_of hp.1 hs
    refine this.imp fun {a b} h => ?_
    rw [lt_is, decide_eq_false_iff_not] at h
    exact h
  · have := ownsRow_sortK (enc := encP) encP_len (w := w) (n := n) (os := os) (ss := ss) (ts := d'.toList) (by simpa using hp.1) hbase hb h1 h2 h3
    rw [encP_all] at this
    simpa using this
  · exact grownBy_sortK d'
end Go.Proofs.Ytipcjofmplpffaa
