/-
  cmp.Or on ints.
-/
import Derived.Test.YtlmlckgnmkjkdaaCmpInt
import Derived.Test.YtlmlckgnmkjkdaaFlat
namespace Go.Proofs.Ytlmlckgnmkjkdaa
open Go.RowKit

/-- the first that is not 0 -/
def orOf : List Int → Int
  | [] => 0
  | z :: zs => if z = 0 then orOf zs else z
theorem orOf_step {zs : List Int} {k : Nat} (h : k < zs.length) : orOf (zs.drop k) = if zs.getD k 0 = 0 then orOf (zs.drop (k + 1)) else zs.getD k 0 := by
  rw [List.drop_eq_getElem_cons h]
  simp [orOf, h]

set_option maxHeartbeats 400000 in
theorem cmpOr_any (A : Option Addr) (ca : Nat) (zs : List Int) (w : World) (hA : Rd w A (iz zs)) (hn : zs.length ≤ 1048576) :
    Calls Try.prog 52 #[.slice A zs.length ca] w fun e w' => e = .returned (.int .i64 (orOf zs)) ∧ w = w' := by
  go_enter Try.func52, Try.ntmps52
  go_wp2
  go_loop [8] (fun i => ∃ k : Nat, k ≤ zs.length ∧ i = .int .i64 k ∧ orOf zs = orOf (zs.drop k)) (fun i => zs.length - (intOf i).toNat)
  case atStart => exact ⟨0, Nat.zero_le _, rfl, rfl⟩
  case round =>
    obtain ⟨k, hk, rfl, ho⟩ := hrel
    by_cases hlt : k < zs.length
    · obtain ⟨ad, rfl, hb, hc⟩ := hA k _ (iz_at hlt)
      have HS := Lib.hid (orOf_step hlt)
      generalize zs.getD k 0 = z at *
      by_cases hz : z = 0
      · have tz : (z != 0) = false := by simp [hz]
        have HO := Lib.hid (show orOf zs = orOf (zs.drop (k + 1)) by rw [ho, HS.out, if_pos hz])
        clear ho HS hz
        go_wp2
        go_round
        case rel => exact ⟨k + 1, by omega, by go_num, HO.out⟩
        case measure => simp [intOf]; omega
      · have tz : (z != 0) = true := by simpa using hz
        have HO := Lib.hid (show z = orOf zs by rw [ho, HS.out, if_neg hz])
        clear ho HS hz
        go_wp2
        go_ret
        exact ⟨ret_int HO.out, rfl⟩
    · have hkn : k = zs.length := by omega
      subst hkn
      have HO := Lib.hid (show 0 = orOf zs by rw [ho]; simp [orOf])
      clear ho
      go_wp2
      go_ret
      exact ⟨ret_int HO.out, rfl⟩

theorem cmpI_zero {x y : Int} : cmpI x y = 0 ↔ x = y := by unfold cmpI; split; omega; split <;> omega
theorem cmpI_neg {x y : Int} : cmpI x y < 0 ↔ x < y := by unfold cmpI; split; omega; split <;> omega
end Go.Proofs.Ytlmlckgnmkjkdaa
