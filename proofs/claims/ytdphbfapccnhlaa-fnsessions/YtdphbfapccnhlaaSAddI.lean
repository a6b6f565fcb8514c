/-
  SessAdd, the program's: what it returns.
-/
import Derived.Test.YtdphbfapccnhlaaMerge
namespace Go.Proofs.Ytdphbfapccnhlaa
open Go.RowKit

open Classical in
/-- the sessions with one window more; nothing where it cannot be added -/
noncomputable def sessAdd (ws : List Wn) (x : Wn) : List Wn := if addOk ws x then addAll ws x else []
theorem sessAdd_yes {ws : List Wn} {x : Wn} (h : addOk ws x) : sessAdd ws x = addAll ws x := by unfold sessAdd; rw [if_pos h]
theorem sessAdd_no {ws : List Wn} {x : Wn} (h : ¬ addOk ws x) : sessAdd ws x = [] := by unfold sessAdd; rw [if_neg h]
/-- a call that could not -/
theorem wb_no {ws : List Wn} {p : Prop} {w w' : World} (h1 : ws = []) (h2 : ¬ p) (hb : Below w.heap.size w w') : WbRes ws (tf p) w (.returned (.tuple #[.slice none 0 0, .bool false])) w' := by
  subst h1
  exact ⟨none, 0, by rw [← tf_no h2]; rfl, rowAt_nil _ _ _, hb⟩
theorem wb_yes {ws ws' : List Wn} {p : Prop} {w w' : World} {A : Option Addr} {n c : Nat} (h1 : ws' = ws) (h2 : p) (hn : ws.length = n) (hr : RowAt w.heap.size w'.heap.size w' 32 2 (.slice A n c) n (ez ws)) (hb : Below w.heap.size w w') :
    WbRes ws' (tf p) w (.returned (.tuple #[.slice A n c, .bool true])) w' := by
  subst h1 hn
  exact ⟨A, c, by rw [← tf_yes h2], hr, hb⟩

set_option maxRecDepth 100000 in
set_option maxHeartbeats 2000000 in
theorem implSessAdd_any (A : Option Addr) (n ca : Nat) (ws : List Wn) (a b : Int) (w : World) (hA : Rd w A (ez ws)) (hz : ws.length = n) (hn : n ≤ 1048576) (hf : SFit A n ca) :
    Calls Try.prog 27 #[.slice A n ca, .agg #[.int .i64 a, .int .i64 b]] w (WbRes (sessAdd ws (a, b)) (tf (addOk ws (a, b))) w) := by
  have HA := Lib.hid (fun W (h : Below w.heap.size w W) => hA.below h)
  have HZ := Lib.hid hz
  have HF := Lib.hid hf
  have HN2 : Hid (n ≤ 2097152) := Lib.hid (by omega)
  clear hA hz hf
  go_enter Try.func27, Try.ntmps27
  go_wp2_with fail
  by_cases hs : sessOk ws
  · refine (as_bool (tf_yes hs).symm (implSessOk_any A n ca ws _ (HA.out _ (below_alloc _ _)) HZ.out HN2.out)).mono ?_
    have HS := Lib.hid hs
    clear hs
    rintro e w1 ⟨rfl, hb1⟩
    obtain ⟨ho, hb⟩ := box_own (cs := [.int .i64 a, .int .i64 b]) hb1
    clear hb1
    obtain ⟨k0, k1⟩ := ho.two
    by_cases hx : winOk (a, b)
    · go_wp2_with fail
      refine (isWin_is (tf_yes hx).symm _).mono ?_
      have HX := Lib.hid hx
      clear hx
      rintro e w2 ⟨rfl, hb2⟩
      obtain ⟨k0, k1⟩ := (ho.grow hb2).two
      have hb' := below_trans hb hb2
      go_wp2_with fail
      refine (mergeSession_any A n ca ws a b _ (HA.out _ hb') HZ.out hn HF.out ((sessOk_iff ws).1 HS.out).2 HX.out).mono ?_
      rintro e w3 ⟨A3, c3, rfl, hrow3, hb3⟩
      have hb'' := below_trans hb' hb3
      have hr3 : RowAt w.heap.size w3.heap.size w3 32 2 (.slice A3 (addAll ws (a, b)).length c3) (addAll ws (a, b)).length (ez (addAll ws (a, b))) := ⟨owns_base hrow3.1 hb'.size, hrow3.2⟩
      have hl := add_length ws (a, b)
      rw [HZ.out] at hl
      by_cases h3 : (addAll ws (a, b)).length ≤ 300
      · have HY := Lib.hid (show addOk ws (a, b) from ⟨HS.out, HX.out, h3⟩)
        generalize hm : (addAll ws (a, b)).length = m at *
        have HM := Lib.hid hm
        clear hm
        go_wp2
        go_ret2
        exact wb_yes (sessAdd_yes HY.out) HY.out HM.out hr3 hb''
      · have HY := Lib.hid (show ¬ addOk ws (a, b) from fun h => h3 h.2.2)
        generalize hm : (addAll ws (a, b)).length = m at *
        have HM := Lib.hid hm
        clear hm
        go_wp2
        go_ret2
        exact wb_no (sessAdd_no HY.out) HY.out hb''
    · go_wp2_with fail
      refine (isWin_is (tf_no hx).symm _).mono ?_
      have HY := Lib.hid (show ¬ addOk ws (a, b) from fun h => hx h.2.1)
      clear hx
      rintro e w2 ⟨rfl, hb2⟩
      go_wp2
      go_ret2
      exact wb_no (sessAdd_no HY.out) HY.out (below_trans hb hb2)
  · refine (as_bool (tf_no hs).symm (implSessOk_any A n ca ws _ (HA.out _ (below_alloc _ _)) HZ.out HN2.out)).mono ?_
    have HY := Lib.hid (show ¬ addOk ws (a, b) from fun h => hs h.1)
    clear hs
    rintro e w1 ⟨rfl, hb1⟩
    go_wp2
    go_ret2
    exact wb_no (sessAdd_no HY.out) HY.out (box_own (cs := [.int .i64 a, .int .i64 b]) hb1).2
end Go.Proofs.Ytdphbfapccnhlaa
