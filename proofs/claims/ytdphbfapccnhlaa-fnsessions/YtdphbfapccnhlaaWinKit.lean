/-
  The laws' helpers on windows, over lists of windows; results that hold windows.
-/
import Derived.Test.YtdphbfapccnhlaaSessOk
import Derived.Test.YtdphbfapccnhlaaOwnsS
namespace Go.Proofs.Ytdphbfapccnhlaa
open Go.RowKit

theorem toWinS_w (A : Option Addr) (n ca : Nat) (ws : List Wn) (w : World) (hA : Rd w A (ez ws)) (hz : ws.length = n) (hn : n ≤ 1048576) :
    Calls Try.prog 36 #[.slice A n ca] w fun e w' => ∃ g, e = .returned (.slice (some ⟨g, 0, none⟩) n n) ∧ RowAt w.heap.size w'.heap.size w' 32 2 (.slice (some ⟨g, 0, none⟩) n n) n (ez ws) ∧ Below w.heap.size w w' :=
  (toWinS_any A n ca (flat ws) w (by rw [← ez_flat]; exact hA) (by rw [flat_length, hz]) hn).mono fun _ _ ⟨g, he, hg, hown, hb⟩ => ⟨g, he, RowAt.of (by rw [ez_flat]; exact hown.ownsS hg (by rw [iz_length, flat_length, hz]) hn), hb⟩
theorem eqWinS_w (A B : Option Addr) (n ca cb : Nat) (ws : List Wn) (w : World) (hA : Rd w A (ez ws)) (hB : Rd w B (ez ws)) (hz : ws.length = n) (hn : n ≤ 1048576) :
    Calls Try.prog 32 #[.slice A n ca, .slice B n cb] w fun e w' => e = .returned (.bool true) ∧ Below w.heap.size w w' :=
  eqWinS_same A B n ca cb (flat ws) w (by rw [← ez_flat]; exact hA) (by rw [← ez_flat]; exact hB) (by rw [flat_length, hz]) hn
theorem markWinS_w (v : Value) (lo hi n : Nat) (ws : List Wn) (k : Int) (w : World) (hr : RowAt lo hi w 32 2 v n (ez ws)) (h0 : 0 ≤ k) (h1 : k ≤ 4611686018427387904) (hz : ws.length = n) (hn : n ≤ 1048576) :
    Calls Try.prog 33 #[v, .int .i64 k] w fun e w' => e = .returned (.int .i64 (k + (n * 2 : Nat))) ∧ RowAt lo hi w' 32 2 v n (iz (marks k (n * 2))) ∧ Only lo hi w w' :=
  markWinS_at v lo hi n (flat ws) k w (by rw [← ez_flat]; exact hr) h0 h1 (by rw [flat_length, hz]) hn
/-- The call hands back windows in memory of its own. -/
def WsRes (ws : List Wn) (w : World) (e : Ending) (w' : World) : Prop :=
  ∃ A c, e = .returned (.slice A ws.length c) ∧ RowAt w.heap.size w'.heap.size w' 32 2 (.slice A ws.length c) ws.length (ez ws) ∧ Below w.heap.size w w'
/-- .. and whether it could. -/
def WbRes (ws : List Wn) (b : Bool) (w : World) (e : Ending) (w' : World) : Prop :=
  ∃ A c, e = .returned (.tuple #[.slice A ws.length c, .bool b]) ∧ RowAt w.heap.size w'.heap.size w' 32 2 (.slice A ws.length c) ws.length (ez ws) ∧ Below w.heap.size w w'
theorem rowAt_nil (w : World) (lo hi : Nat) : RowAt lo hi w 32 2 (.slice none 0 0) 0 (ez []) := ⟨⟨rfl, .inl ⟨rfl, rfl⟩⟩, fun k hk => by cases hk⟩
end Go.Proofs.Ytdphbfapccnhlaa
