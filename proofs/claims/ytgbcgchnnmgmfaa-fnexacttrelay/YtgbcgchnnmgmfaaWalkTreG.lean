/-
  Texts that are not one, as the model asks it. No condition.
  The walks of TreFind, of the program and of the specification. At most 1048576 files.
-/
import Derived.Test.YtgbcgchnnmgmfaaBase
import Derived.Test.YtgbcgchnnmgmfaaRowF
namespace Go.Proofs.Ytgbcgchnnmgmfaa.W
open Go.RowKit
theorem toList_inj {a b : ByteArray} (h : a.toList = b.toList) : a = b := by
  rw [ByteArray.toList_eq, ByteArray.toList_eq] at h
  exact ByteArray.ext (Array.toList_inj.1 h)
/-- two texts that are not one, as the model asks it -/
theorem bytes_ne {a b : ByteArray} (h : ¬ a = b) : (a.toList == b.toList) = false := by
  simpa using fun e => h (toList_inj e)
end Go.Proofs.Ytgbcgchnnmgmfaa.W
namespace Go.Proofs.Ytgbcgchnnmgmfaa.W
open Go.RowKit

/-- the bytes of the first file at a path -/
def findF : List TF → ByteArray → Option ByteArray
  | [], _ => none
  | x :: l, p => if x.pa = p then some x.by_ else findF l p
theorem findF_step (L : List TF) (p : ByteArray) (j : Nat) (h : j < L.length) : findF (L.drop j) p = if (L[j]).pa = p then some (L[j]).by_ else findF (L.drop (j + 1)) p := by
  rw [List.drop_eq_getElem_cons h]; rfl
def findV (L : List TF) (p : ByteArray) : Value := match findF L p with
  | some t => .tuple #[.string t, .bool true]
  | none => .tuple #[.string ByteArray.empty, .bool false]

theorem findV_some {L : List TF} {p t : ByteArray} (h : findF L p = some t) : findV L p = .tuple #[.string t, .bool true] := by unfold findV; rw [h]
theorem findV_none {L : List TF} {p : ByteArray} (h : findF L p = none) : findV L p = .tuple #[.string ByteArray.empty, .bool false] := by unfold findV; rw [h]

end Go.Proofs.Ytgbcgchnnmgmfaa.W
