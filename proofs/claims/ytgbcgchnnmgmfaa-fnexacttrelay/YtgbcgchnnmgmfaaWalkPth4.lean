
/-
  The walks of PthJoin, of the program and of the specification. Texts of at most 1048576 bytes.
-/
import Derived.Test.YtgbcgchnnmgmfaaWalkPth3
namespace Go.Proofs.Ytgbcgchnnmgmfaa.W
open Go.RowKit Go.Proofs.Ytgbcgchnnmgmfaa.M

/-- two texts with a stroke between -/
abbrev both (a b : ByteArray) : ByteArray := a ++ ⟨#[47]⟩ ++ b
theorem both_list (a b : ByteArray) : (both a b).data.toList = a.data.toList ++ 47 :: b.data.toList := by simp
theorem both_size (a b : ByteArray) : (both a b).size = a.size + 1 + b.size := by
  simp [both, ByteArray.size_append]; rfl
def joinB (a b : ByteArray) : ByteArray := ⟨(joinL a.data.toList b.data.toList).toArray⟩
theorem join_no1 (a b : ByteArray) (h : pthB a.data.toList = false) : joinB a b = ⟨#[]⟩ := by unfold joinB joinL; rw [if_neg (by simp [h])]
theorem join_no2 (a b : ByteArray) (h : pthB b.data.toList = false) : joinB a b = ⟨#[]⟩ := by unfold joinB joinL; rw [if_neg (by simp [h])]
theorem join_nil (a b : ByteArray) (h : pthB a.data.toList = true) (h2 : pthB b.data.toList = true) (e : a.data.toList = []) : joinB a b = b := by
  unfold joinB joinL; rw [if_pos ⟨h, h2⟩, if_pos e]
theorem join_nil2 (a b : ByteArray) (h : pthB a.data.toList = true) (h2 : pthB b.data.toList = true) (e : b.data.toList = []) : joinB a b = a := by
  unfold joinB joinL; rw [if_pos ⟨h, h2⟩]
  by_cases e1 : a.data.toList = []
  · rw [if_pos e1, ← list_eq_iff, e1]; exact e
  · rw [if_neg e1, if_pos e]
theorem join_yes (a b : ByteArray) (h : pthB a.data.toList = true) (h2 : pthB b.data.toList = true) (e : a.data.toList ≠ []) (e2 : b.data.toList ≠ []) (h3 : pthB (both a b).data.toList = true) : joinB a b = both a b := by
  rw [both_list] at h3
  unfold joinB joinL; rw [if_pos ⟨h, h2⟩, if_neg e, if_neg e2, if_pos h3, ← both_list]
theorem join_no3 (a b : ByteArray) (h : pthB a.data.toList = true) (h2 : pthB b.data.toList = true) (e : a.data.toList ≠ []) (e2 : b.data.toList ≠ []) (h3 : pthB (both a b).data.toList = false) : joinB a b = ⟨#[]⟩ := by
  rw [both_list] at h3
  unfold joinB joinL; rw [if_pos ⟨h, h2⟩, if_neg e, if_neg e2, if_neg (by simp [h3])]

end Go.Proofs.Ytgbcgchnnmgmfaa.W
