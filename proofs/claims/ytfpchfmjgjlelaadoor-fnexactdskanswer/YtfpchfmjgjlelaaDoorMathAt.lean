
/-
  Cells that lie in a block of new memory, carried through calls. No condition.
-/
import Derived.Test.YtfpchfmjgjlelaaDoorMathRow
import Derived.Below
namespace Go.Proofs.YtfpchfmjgjlelaaDoor.W
open Go.RowKit
/-- cells lie in a block that may be written -/
def AtC (w : World) (b : Nat) (cs : Array Value) : Prop := (∀ i u, cs[i]? = some u → w.cell? ⟨b, i, none⟩ = some u) ∧ ∀ i, w.frozen? ⟨b, i, none⟩ = false
theorem atC_new (w : World) (cs : Array Value) (t : TypeId) : AtC (w.alloc (.cells cs t)) w.heap.size cs := ⟨fun i u h => by simpa using h, fun i => by simp⟩
theorem AtC.up {w w' : World} {b : Nat} {cs : Array Value} (h : AtC w b cs) (hb : Below w.heap.size w w') (hl : b < w.heap.size) : AtC w' b cs := ⟨fun i u e => (hb.cell (p := ⟨b, _, none⟩) hl).trans (h.1 i u e), fun i => (hb.frozen (p := ⟨b, _, none⟩) hl).trans (h.2 i)⟩
theorem AtC.alloc {w : World} {b : Nat} {cs : Array Value} (h : AtC w b cs) (hl : b < w.heap.size) (o : Obj) : AtC (w.alloc o) b cs := h.up ((Below.refl _ _).alloc (Nat.le_refl _) o) hl
theorem AtC.set {w : World} {b b' i : Nat} {cs : Array Value} {u : Value} (h : AtC w b cs) (hne : b' ≠ b) : AtC (w.setCell ⟨b', i, none⟩ u) b cs := by
  have e : (w.setCell ⟨b', i, none⟩ u).heap[b]? = w.heap[b]? := Below.heap_setCell _ _ _ _ (fun e => hne e.symm)
  exact ⟨fun j u hj => (World.cell?_of_block (w := w) (a := ⟨b, j, none⟩) e).trans (h.1 j u hj), fun j => (World.frozen?_of_block (w := w) (a := ⟨b, j, none⟩) e).trans (h.2 j)⟩
theorem AtC.own {w : World} {b : Nat} {cs : Array Value} (h : AtC w b cs) (i : Nat) (u : Value) : AtC (w.setCell ⟨b, i, none⟩ u) b (cs.setIfInBounds i u) := by
  constructor
  · intro j v hj
    rw [Array.getElem?_setIfInBounds] at hj
    split at hj
    · next e =>
      subst e
      split at hj
      · next hl =>
        cases hj
        exact World.cell?_setCell_same _ _ _ (h.1 i _ (Array.getElem?_eq_getElem hl))
      · cases hj
    · next e =>
      exact (World.cell?_setCell_other _ _ _ _ (fun q => e (by cases q; rfl))).trans (h.1 j v hj)
  · intro j
    simpa using h.2 j
end Go.Proofs.YtfpchfmjgjlelaaDoor.W
