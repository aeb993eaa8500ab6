
/-
  The walk of the draw of two paths: some two texts of at most 200 bytes; of what lay nothing has turned.
-/
import Derived.Test.YtbceegonaomblaaWalkDraw3
import Derived.Test.YtbceegonaomblaaWalkPth4
namespace Go.Proofs.Ytbceegonaomblaa.W
open Go.RowKit Go.Proofs.Ytbceegonaomblaa.M

theorem joinB_size (a b : ByteArray) : (joinB a b).size ≤ a.size + 1 + b.size := by
  have h : (joinL a.data.toList b.data.toList).length ≤ a.size + 1 + b.size := by
    have e1 : a.data.toList.length = a.size := by simp
    have e2 : b.data.toList.length = b.size := by simp
    unfold joinL
    split
    · split
      · omega
      · split
        · omega
        · split
          · simp; omega
          · simp
    · simp
  unfold joinB; rw [size_mk]; exact h

end Go.Proofs.Ytbceegonaomblaa.W
