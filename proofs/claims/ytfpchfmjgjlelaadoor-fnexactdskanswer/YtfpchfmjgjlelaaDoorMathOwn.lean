
/-
  Rows that a call has made, beside each other: what a row keeps while another one is written. No condition.
-/
import Derived.Test.YtfpchfmjgjlelaaDoorMathRow
namespace Go.Proofs.YtfpchfmjgjlelaaDoor.W
open Go.RowKit
theorem keptLo {w w' : World} {b0 B n n1 z z1 : Nat} {e e1 : TypeId} {v0 v1 : Value} {xs xs1 : List Value} (o0 : w.ownsRow b0 e z v0 n xs) (s : ∀ k, v0.ownBlock = some k → k < B) (o1 : w.ownsRow B e1 z1 v1 n1 xs1) (hg : w.grownBy w' v1.ownBlock) : w'.ownsRow b0 e z v0 n xs := by
  refine o0.kept hg ?_
  cases h : v0.ownBlock with
  | none => exact .inl rfl
  | some k => exact .inr fun e => by have := s k h; have := (o1.lt k e.symm).1; omega
theorem keptHi {w w' : World} {b1 B n n1 z z1 : Nat} {e e1 : TypeId} {v0 v1 : Value} {xs xs1 : List Value} (o0 : w.ownsRow B e z v0 n xs) (_o1 : w.ownsRow b1 e1 z1 v1 n1 xs1) (s : ∀ k, v1.ownBlock = some k → k < B) (hg : w.grownBy w' v1.ownBlock) : w'.ownsRow B e z v0 n xs := by
  refine o0.kept hg ?_
  cases h : v0.ownBlock with
  | none => exact .inl rfl
  | some k => exact .inr fun e => by have := (o0.lt k h).1; have := s k e.symm; omega
theorem ownsLt {w : World} {b n z : Nat} {e : TypeId} {v : Value} {xs : List Value} (o : w.ownsRow b e z v n xs) : ∀ k, v.ownBlock = some k → k < w.heap.size := fun k h => (o.lt k h).2
end Go.Proofs.YtfpchfmjgjlelaaDoor.W
