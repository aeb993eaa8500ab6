
/-
  A block's cells: written, kept, new; what a reader keeps. No condition.
-/
import Derived.Test.YtcdkjlbpcihcjaaWalkDraw2
namespace Go.Proofs.Ytcdkjlbpcihcjaa.W
open Go.RowKit Go.Proofs.Ytcdkjlbpcihcjaa.M

theorem bkSet {w : World} {g k : Nat} {v : Value} {cs : Array Value} {t : TypeId} (h : w.heap[g]? = some (.cells cs t (0, 0))) : (w.setCell ⟨g, k, none⟩ v).heap[g]? = some (.cells (cs.setIfInBounds k v) t (0, 0)) := by
  simp [World.setCell, Array.getElem?_modify, h]
theorem bkCell {w : World} {g k : Nat} {v : Value} {cs : Array Value} {t : TypeId} (h : w.heap[g]? = some (.cells cs t (0, 0))) (hk : cs[k]? = some v) : w.cell? ⟨g, k, none⟩ = some v := by
  simp [World.cell?, h, hk]
theorem bkFrozen {w : World} {g k : Nat} {cs : Array Value} {t : TypeId} (h : w.heap[g]? = some (.cells cs t (0, 0))) : w.frozen? ⟨g, k, none⟩ = false := by
  simp [World.frozen?, h]
theorem bkNew (w : World) (o : Obj) : (w.alloc o).heap[w.heap.size]? = some o := by
  show (w.heap.push o)[w.heap.size]? = _
  simp
theorem gSet (w : World) (g j : Nat) (u : Value) : w.grownBy (w.setCell ⟨g, j, none⟩ u) (some g) :=
  ⟨rfl, rfl, rfl, by simp [World.setCell], fun k _ hn => Below.heap_setCell _ _ _ _ (fun e => hn (by rw [e]))⟩
theorem gNew {w w1 w2 : World} {rb r : Nat} (h : w.grownBy w1 (some rb)) (k : w1.grownBy w2 (some r)) (hr : w.heap.size ≤ r) : w.grownBy w2 (some rb) :=
  ⟨k.os.trans h.os, k.tape.trans h.tape, k.output.trans h.output, Nat.le_trans h.size k.size, fun j hj hne => (k.block j (Nat.lt_of_lt_of_le hj h.size) (fun e => by cases e; omega)).trans (h.block j hj hne)⟩
theorem bkKept {w1 w2 : World} {R rb : Nat} {o : Obj} (h : w1.heap[R]? = some o) (hg : w1.grownBy w2 (some rb)) (hne : R ≠ rb) : w2.heap[R]? = some o :=
  (hg.block R (Array.getElem?_eq_some_iff.1 h).1 (fun e => hne (Option.some.inj e))).trans h
theorem bkOld {w : World} {R : Nat} {o o' : Obj} (h : w.heap[R]? = some o) : (w.alloc o').heap[R]? = some o := (Below.heap_alloc _ _ _ (Array.getElem?_eq_some_iff.1 h).1).trans h
theorem bGrow {w w' : World} (h : Below w.heap.size w w') {row : Option Nat} : w.grownBy w' row := ⟨h.os, h.tape, h.output, h.size, fun j hj _ => h.block j hj⟩
theorem rdBelow {w w' : World} {rb p : Nat} {a : Option Addr} {len cap : Nat} {zs : Nat → Int} (h : Rd w rb p a len cap zs) (hb : Below w.heap.size w w') (hlt : rb < w.heap.size) : Rd w' rb p a len cap zs :=
  h.kept (bGrow (row := none) hb) (fun _ e => by cases e) hlt
theorem belowBy {w w1 w2 : World} (h : w.grownBy w1 none) (k : w1.grownBy w2 (some w.heap.size)) : Below w.heap.size w w2 :=
  ((Below.refl _ _).grown h (Nat.le_refl _) (fun _ e => by cases e)).grown k h.size (fun _ e => by cases e; exact Nat.le_refl _)
theorem out3 {W : World} {R : Nat} {t : TypeId} (a b c : Value) {z0 z1 z2 : Value} (h : W.heap[R]? = some (.cells #[z0, z1, z2] t (0, 0))) :
    (W.cell? ⟨R, 0, none⟩ = some z0 ∧ W.frozen? ⟨R, 0, none⟩ = false) ∧ ((W.setCell ⟨R, 0, none⟩ a).cell? ⟨R, 1, none⟩ = some z1 ∧ (W.setCell ⟨R, 0, none⟩ a).frozen? ⟨R, 1, none⟩ = false) ∧
    (((W.setCell ⟨R, 0, none⟩ a).setCell ⟨R, 1, none⟩ b).cell? ⟨R, 2, none⟩ = some z2 ∧ ((W.setCell ⟨R, 0, none⟩ a).setCell ⟨R, 1, none⟩ b).frozen? ⟨R, 2, none⟩ = false) ∧
    (((W.setCell ⟨R, 0, none⟩ a).setCell ⟨R, 1, none⟩ b).setCell ⟨R, 2, none⟩ c).cell? ⟨R, 0, none⟩ = some a ∧
    (((W.setCell ⟨R, 0, none⟩ a).setCell ⟨R, 1, none⟩ b).setCell ⟨R, 2, none⟩ c).cell? ⟨R, 1, none⟩ = some b ∧
    (((W.setCell ⟨R, 0, none⟩ a).setCell ⟨R, 1, none⟩ b).setCell ⟨R, 2, none⟩ c).cell? ⟨R, 2, none⟩ = some c ∧
    W.grownBy (((W.setCell ⟨R, 0, none⟩ a).setCell ⟨R, 1, none⟩ b).setCell ⟨R, 2, none⟩ c) (some R) := by
  have b1 := bkSet (k := 0) (v := a) h
  have b2 := bkSet (k := 1) (v := b) b1
  have b3 := bkSet (k := 2) (v := c) b2
  exact ⟨⟨bkCell h rfl, bkFrozen h⟩, ⟨bkCell b1 rfl, bkFrozen b1⟩, ⟨bkCell b2 rfl, bkFrozen b2⟩, bkCell b3 rfl, bkCell b3 rfl, bkCell b3 rfl, gtrans (gtrans (gSet W R 0 a) (gSet _ R 1 b)) (gSet _ R 2 c)⟩
end Go.Proofs.Ytcdkjlbpcihcjaa.W
