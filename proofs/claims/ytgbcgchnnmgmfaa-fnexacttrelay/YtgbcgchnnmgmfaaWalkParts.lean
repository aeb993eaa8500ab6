
/-
  The walks of PthParts, of the program and of the specification: a row of the names, in new memory; nothing old is written. Texts of at most 4194304 bytes.
-/
import Derived.Test.YtgbcgchnnmgmfaaWalkPth2
import Derived.RangeFuncBox
import Derived.Maps.AppendAt
namespace Go.Proofs.Ytgbcgchnnmgmfaa.W
open Go.RowKit Go.Shelf Go.Proofs.Ytgbcgchnnmgmfaa.M
attribute [local go_sem] Oper.semAt_some

/-- the names of a path; none of a text that is none -/
def partsL (l : List UInt8) : List (List UInt8) := if pthB l then nms l else []

theorem ownsUp {w : World} {B B' : Nat} {e : TypeId} {z : Nat} {v : Value} {n : Nat} {xs : List Value} (h : w.ownsRow B e z v n xs) (hB : B' ≤ B) : w.ownsRow B' e z v n xs := by
  refine ⟨h.1, ?_⟩
  rcases h.2 with h1 | ⟨g, cap, cur, h1, h2, h3⟩
  · exact .inl h1
  · exact .inr ⟨g, cap, cur, h1, Nat.le_trans hB h2, h3⟩

end Go.Proofs.Ytgbcgchnnmgmfaa.W
