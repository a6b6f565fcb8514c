/-
  laws.FnLatEdges returns true.
-/
import Derived.Test.YtandibofnpndlaaDrawE
import Derived.Test.YtandibofnpndlaaSameLat
import Derived.Test.YtandibofnpndlaaNamedMathC
namespace Go.Proofs.Ytandibofnpndlaa
open Go.RowKit

set_option maxRecDepth 100000 in
set_option maxHeartbeats 4000000 in
theorem fnLatEdges_walk (A : Option Addr) (c n : Nat) (w : World) (hA : Byt w A n w.heap.size) (hn : n ≤ 9223372036854775807) :
    Calls Try.prog 3 #[.slice A n c] w fun e w' => e = .returned (.bool true) ∧ Below w.heap.size w w' := by
  by_cases hb : 1048576 < n
  · go_enter Try.func3, Try.ntmps3
    go_wp2_with fail
    refine (big_any A n c true _ (by simpa using hb) hn).mono ?_
    rintro e w' ⟨rfl, rfl⟩
    go_wp2
    go_ret
    exact ⟨rfl, Below.refl _ _⟩
  · go_enter Try.func3, Try.ntmps3
    go_wp2_with fail
    refine (big_any A n c false _ (by simpa using hb) hn).mono ?_
    rintro e w' ⟨rfl, rfl⟩
    go_wp2_with fail
    refine (drawEdges_any A n c _ hA (by omega)).mono ?_
    rintro e w1 ⟨N, rr, xs, rfl, hu, hx9, hrow, hb1⟩
    obtain ⟨R, cR, rfl, hR⟩ := owns_rd hrow
    have HR := Lib.hid (fun W (h : Below w1.heap.size w1 W) => hR.below h)
    have hel := edgesV_le N xs
    obtain ⟨es, hes⟩ : ∃ es, es = edgesV N xs := ⟨_, rfl⟩
    rw [← hes] at hel
    have HE := Lib.hid hes
    have HEd := Lib.hid (fun W (h : Below w1.heap.size w1 W) => hes ▸ implLatEdges_any N R cR xs W (hR.below h) hu (by omega))
    have HSp := Lib.hid (fun W (h : Below w1.heap.size w1 W) => specLatOk_any N R cR xs W (hR.below h) hu (by omega))
    clear hR hrow hA hb hn hes
    generalize hm : xs.length = m at *
    have HM := Lib.hid hm
    generalize hk : es.length = k at *
    have HK := Lib.hid hk
    clear hm hk
    go_wp2_with fail
    refine (HEd.out _ (below_alloc _ _)).mono ?_
    rintro e w2 ⟨v, rfl, hrow2, hb2⟩
    obtain ⟨E, cE, rfl, hRE⟩ := owns_rd hrow2
    obtain ⟨oL, hb2'⟩ := box_own (cs := [.int .i64 N, .slice R m cR]) hb2
    have hbw := below_trans hb1 hb2'
    have HR2 := Lib.hid (fun W (h : Below w2.heap.size w2 W) => HR.out W (below_trans hb2' h))
    have HRE := Lib.hid (fun W (h : Below w2.heap.size w2 W) => hRE.below h)
    have HS2 := Lib.hid (fun W (h : Below w2.heap.size w2 W) => HSp.out W (below_trans hb2' h))
    have HOl := Lib.hid (fun W (h : Below w2.heap.size w2 W) => oL.grow h)
    obtain ⟨c0, c1⟩ := oL.two
    clear hrow2 hb2 hb2' hRE oL HSp HEd HR hb1
    generalize w1.heap.size = lx at *
    by_cases hL : LatP N xs
    · obtain ⟨hOk, hoN, hoX⟩ := edges_back hL (by rw [HM.out]; exact hx9)
      rw [← HE.out] at hOk hoN hoX
      have HOf := Lib.hid (show ∀ W, Rd W E (ez es) → Calls Try.prog 19 #[.int .i64 N, .slice E k cE] W (LatRes W N xs true) from fun W h => by
        have := implLatOf_any N E cE es W h (by rw [HK.out]; omega)
        rwa [hoN, hoX, ← tf_yes hOk, HK.out] at this)
      have HOk := Lib.hid (show ∀ (M : Option Addr) (cM : Nat) W, Rd W M (us xs) → Calls Try.prog 21 #[.agg #[.int .i64 N, .slice M m cM]] W fun e w' => e = .returned (.bool true) ∧ Below W.heap.size W w' from fun M cM W h => by
        have := implLatOk_any N M cM xs W h hu (by rw [HM.out]; omega)
        rwa [← tf_yes hL, HM.out] at this)
      have HT := Lib.hid (tf_yes hL)
      clear hOk hoN hoX hL
      go_wp2_with fail
      refine (as_bool HT.out.symm (HS2.out _ (Below.refl _ _))).mono ?_
      rintro e w3 ⟨rfl, hb3⟩
      clear c0 c1
      obtain ⟨c0, c1⟩ := (HOl.out _ hb3).two
      go_wp2_with fail
      refine (HOf.out _ (HRE.out _ hb3)).mono ?_
      rintro e w4 ⟨v, rfl, hrow4, hq⟩
      have hb4 := below_trans hb3 hq
      clear hq c0 c1
      obtain ⟨M, cM, rfl, hRM⟩ := owns_rd hrow4
      rw [HM.out]
      have oM := Own.new w4 26 [.int .i64 N, .slice M m cM]
      have oL4 := (HOl.out _ hb4).alloc (.cells #[.int .i64 N, .slice M m cM] 26)
      have hb5 := below_trans hb4 (below_alloc w4 (.cells #[.int .i64 N, .slice M m cM] 26))
      have hRM5 := hRM.below (below_alloc w4 (.cells #[.int .i64 N, .slice M m cM] 26))
      obtain ⟨c0, c1⟩ := oL4.two
      clear hrow4 hRM
      go_wp2_with fail
      refine (sameLat_same N M R cM cR m xs _ hRM5 (HR2.out _ hb5) HM.out hx9).mono ?_
      rintro e w6 ⟨rfl, hb6⟩
      have oM6 := oM.grow hb6
      have hR6 := hRM5.below hb6
      have hb7 := below_trans hb5 hb6
      clear oM hRM5 hb6 hb5 oL4 c0 c1
      obtain ⟨c0, c1⟩ := oM6.two
      go_wp2_with fail
      refine (HOk.out M cM _ hR6).mono ?_
      rintro e w8 ⟨rfl, hb8⟩
      replace hb8 := below_trans (below_trans hbw hb7) hb8
      clear c0 c1 oM6 hR6
      go_wp2
      go_ret
      exact ⟨rfl, hb8⟩
    · have hk0 : k = 0 := by rw [← HK.out, HE.out, edgesV_no hL]; rfl
      subst hk0
      have HT := Lib.hid (tf_no hL)
      clear hL
      go_wp2_with fail
      refine (as_bool HT.out.symm (HS2.out _ (Below.refl _ _))).mono ?_
      rintro e w3 ⟨rfl, hb3⟩
      clear c0 c1
      go_wp2
      go_ret
      exact ⟨rfl, below_trans hbw hb3⟩
end Go.Proofs.Ytandibofnpndlaa
