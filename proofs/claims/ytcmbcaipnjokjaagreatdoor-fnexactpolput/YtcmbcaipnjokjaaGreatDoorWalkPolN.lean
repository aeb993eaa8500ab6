
/-
  The helpers' walks once more, over rows that a call has made, whatever their address.
-/
import Derived.Test.YtcmbcaipnjokjaaGreatDoorWalkPolM
import Derived.Test.YtcmbcaipnjokjaaGreatDoorMathOwn
namespace Go.Proofs.YtcmbcaipnjokjaaGreatDoor.W
open Go.RowKit

theorem eqP_own {b b' : Nat} {e e' : TypeId} (v v' : Value) (L : List PI) (w : World) (h1 : w.ownsRow b e 2 v L.length (cellsP L)) (h2 : w.ownsRow b' e' 2 v' L.length (cellsP L)) (hn : L.length ≤ 1048576) :
    Calls Tryz.prog 10 #[v, v'] w fun e w' => e = .returned (.bool true) ∧ Below w.heap.size w w' := by
  obtain ⟨A, c, rfl, r1⟩ := rdP_of_own h1
  obtain ⟨A', c', rfl, r2⟩ := rdP_of_own h2
  exact eqPS_same A A' c c' L w r1 r2 (by unfold maxLen; omega)
set_option maxHeartbeats 400000 in
theorem markPS_nil (k : Nat) (w : World) :
    Calls Tryz.prog 11 #[.slice none 0 0, .int .i64 k] w fun e w' => e = .returned (.int .i64 k) ∧ w = w' := by
  go_enter Tryz.func11, Tryz.ntmps11
  go_wp2
  refine wp_loop_rounds 1 ?_
  rw [rounds_succ]
  go_wp2
  go_ret
  exact ⟨rfl, rfl⟩
theorem markP_own {b : Nat} (v : Value) (L : List PI) (w : World) (h : w.ownsRow b 49 2 v L.length (cellsP L)) (hn : L.length ≤ 1048576) :
    Calls Tryz.prog 11 #[v, .int .i64 1] w fun e w' => e = .returned (.int .i64 ((1 + L.length * 2 : Nat) : Int)) ∧ w'.ownsRow b 49 2 v L.length (cellsP (mkP 1 L.length)) ∧ w.grownBy w' v.ownBlock := by
  rcases h.2 with ⟨rfl, hn0⟩ | ⟨g, cap, cur, rfl, _⟩
  · refine (markPS_nil 1 w).mono ?_
    rintro e w' ⟨rfl, rfl⟩
    rw [hn0]
    exact ⟨rfl, World.ownsRow_nil _ _ _ _, World.grownBy.refl _ _⟩
  · refine (markPS_any b g cap 1 L w h (Nat.le_refl _) (by omega)).mono ?_
    rintro e w' ⟨rfl, h2, h3⟩
    exact ⟨rfl, h2, h3⟩
theorem heldP_own {b : Nat} {e : TypeId} (v : Value) (n : Nat) (w : World) (h : w.ownsRow b e 2 v n (cellsP (mkP 1 n))) (hn : n ≤ 1048576) :
    Calls Tryz.prog 12 #[v, .int .i64 1] w fun e w' => e = .returned (.int .i64 ((1 + n * 2 : Nat) : Int)) ∧ Below w.heap.size w w' := by
  have h' : w.ownsRow b e 2 v (mkP 1 n).length (cellsP (mkP 1 n)) := by rw [mkP_length]; exact h
  obtain ⟨A, c, rfl, r1⟩ := rdP_of_own h'
  rw [mkP_length]
  exact heldPS_any A c 1 n w r1 (Nat.le_refl _) (by omega)
end Go.Proofs.YtcmbcaipnjokjaaGreatDoor.W
