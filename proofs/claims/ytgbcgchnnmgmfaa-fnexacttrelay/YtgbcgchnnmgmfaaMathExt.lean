
/-
  A region that draws its order, whose operations read, and whose callees write into new memory alone: one walk in the order of the text serves every order. The worlds: all that hold what was there as it was.
-/
import Derived.Test.YtgbcgchnnmgmfaaBase
import Derived.Below
import Derived.BigQuiet
namespace Go.Proofs.Ytgbcgchnnmgmfaa.W
open Go.RowKit

/-- a world in which all that was in w is as it was -/
structure Ext (w : World) where
  world : World
  below : Below w.heap.size w world
theorem Ext.cell {w : World} (x : Ext w) {a : Addr} {u : Value} (h : w.cell? a = some u) : x.world.cell? a = some u := (x.below.cell (World.block_lt_of_cell? _ _ h)).trans h
theorem region_ext {P : Program} {id : Nat} {Q : Exit → Act → World → Prop} {a : Act} {w : World} {l : List Oper} (hm : P.follows .mixedOrders = true) (hB : Region.lexB .any l.toArray = true)
    (h : wpQuiet P l.toArray (fun w' => ∃ x : Ext w, w' = x.world) (fun a' => ∀ w', (∃ x : Ext w, w' = x.world) → Q .normal a' w') l a) : (Code.region id l.toArray true).wp P Q a w :=
  wp_region_quiet (C := fun w' => ∃ x : Ext w, w' = x.world) hm hB ⟨⟨_, (Below.refl _ w).drew⟩, rfl⟩ (by simpa using h)
theorem calls_ext {P : Program} {f : FuncId} {args : Array Value} {w : World} {x : Ext w} {v : Value} (h : Calls P f args x.world fun e w' => e = .returned v ∧ Below x.world.heap.size x.world w') : Calls P f args x.world fun e w'' => e = .returned v ∧ ∃ y : Ext w, w'' = y.world :=
  h.mono fun _ w' ⟨he, hb⟩ => ⟨he, ⟨w', x.below.trans (hb.mono x.below.size)⟩, rfl⟩
end Go.Proofs.Ytgbcgchnnmgmfaa.W
