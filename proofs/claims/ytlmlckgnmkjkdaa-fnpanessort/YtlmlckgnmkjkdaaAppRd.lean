/-
  append of a slice that reads as a list (nil too) onto a row of the call's own; slices that fit.
-/
import Derived.Test.YtlmlckgnmkjkdaaOwnsS
import Derived.Test.YtlmlckgnmkjkdaaPairs
import Derived.Laws.AppendOwnNone
namespace Go.Proofs.Ytlmlckgnmkjkdaa
open Go.RowKit

/-- a slice whose length is at most its capacity; a nil one has none -/
def SFit (A : Option Addr) (n c : Nat) : Prop := n ≤ c ∧ (A = none → c = 0)
theorem owns_fit {w : World} {base : Nat} {e : TypeId} {s : Nat} {A : Option Addr} {n c : Nat} {cs : List Value} (h : w.ownsRow base e s (.slice A n c) n cs) : SFit A n c := by
  rcases h.2 with ⟨h1, _⟩ | ⟨g, cap, cur, h1, _, _, h2, _⟩
  · cases h1; exact ⟨Nat.le_refl _, fun _ => rfl⟩
  · cases h1; exact ⟨h2, fun h => by cases h⟩
theorem wpList_append_rd {P : Program} {w : World} {ops : Array Oper} {rest : List Oper} {o : Oper} {a : Act} {Q : Exit → Act → World → Prop} (hgd : o.guard = none) (s x : Operand) (t : TypeId)
    (ho : o.op = .call { callee := .builtin .append, args := #[s, x], argTypes := #[t, t] })
    (base : Nat) (e : TypeId) (i : TypeInfo) (z : Value) (size bytes : Nat) (ht : P.underlying t = some (.slice e)) (hi : P.info? e = some i) (hz : i.zero = some z)
    (hsize : i.size = size) (hby : i.bytes = bytes) (hzs : z.cells.size = size) (hsz : 0 < size)
    (v : Value) (n : Nat) (xs : List Value) (hs : a.eval s = v) (hown : w.ownsRow base e size v n xs)
    (A : Option Addr) (m c : Nat) (news : List Value) (hx : a.eval x = .slice A m c) (hl : news.length = m * size) (hR : Rd w A news) (hf : SFit A m c) (h1 : ∀ u ∈ news, u.oneCell' = true)
    (h63 : n + m ≤ maxLen) (hbytes : (n + m) * bytes ≤ 140737488355328) (hbase : base ≤ w.heap.size)
    (h : ∀ v' w', w'.ownsRow base e size v' (n + m) (xs ++ news) → w.grownBy w' v.ownBlock → wpList P ops Q rest (a.put o.dst v') w') : wpList P ops Q (o :: rest) a w := by
  cases A with
  | some ad => exact wpList_append_own _ hgd s x t ho base e i z size bytes ht hi hz hsize hby hzs hsz v n xs hs hown ad m c news hx hl (rd_news hR) h1 h63 hbytes hbase (fun v' w' h2 h3 _ => h v' w' h2 h3)
  | none =>
    have hc : c = 0 := hf.2 rfl
    have hm : m = 0 := by have := hf.1; omega
    subst hc hm
    have hn : news = [] := by cases news with
      | nil => rfl
      | cons _ _ => simp at hl
    subst hn
    refine wpList_append_own_none hgd s x t ho base e i size ht hi v n xs hs hown hx (h v w (by simpa using hown) (World.grownBy.refl _ _))
theorem rd_cons {w : World} {A : Option Addr} {s : Int × Int} {l : List (Int × Int)} (h : Rd w A (ez (s :: l))) :
    ∃ b off, A = some ⟨b, off, none⟩ ∧ b < w.heap.size ∧ w.cell? ⟨b, off, none⟩ = some (.int .i64 s.1) ∧ w.cell? ⟨b, off + 1, none⟩ = some (.int .i64 s.2) ∧ Rd w (some ⟨b, off + 2, none⟩) (ez l) := by
  rw [ez_cons] at h
  obtain ⟨ad, rfl, hb, h0⟩ := h 0 _ rfl
  obtain ⟨b, off, rfl⟩ := plain_of h0
  obtain ⟨ad', e', _, h1⟩ := h 1 _ rfl
  cases e'
  rw [plain_add'] at h0 h1
  refine ⟨b, off, rfl, hb, h0, h1, fun k u hu => ?_⟩
  obtain ⟨ad', e', _, h2⟩ := h (k + 1 + 1) u (by simpa using hu)
  cases e'
  rw [plain_add'] at h2
  exact ⟨_, rfl, hb, by rw [plain_add', show off + 2 + k = off + (k + 1 + 1) by omega]; exact h2⟩
theorem ez_one (ws : List (Int × Int)) : ∀ u ∈ ez ws, u.oneCell' = true := by rw [ez_flat]; exact iz_one _
end Go.Proofs.Ytlmlckgnmkjkdaa
