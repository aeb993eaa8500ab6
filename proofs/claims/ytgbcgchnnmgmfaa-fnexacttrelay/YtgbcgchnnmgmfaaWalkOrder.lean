
/-
  'Under' is an order on texts that are paths, and the laws' last look, 'chOk', is true.
-/
import Derived.Test.YtgbcgchnnmgmfaaWalkPth3
namespace Go.Proofs.Ytgbcgchnnmgmfaa.W
open Go.RowKit Go.Proofs.Ytgbcgchnnmgmfaa.M

theorem und_iff (a b : List UInt8) : undB a b = true ↔ pthB a = true ∧ pthB b = true ∧ (a = [] ∨ a = b ∨ (a ++ [47]) <+: b) := by
  simp [undB, Bool.and_eq_true, and_assoc, List.isPrefixOf_iff_prefix, or_assoc]
theorem und_trans (a b c : List UInt8) (h1 : undB a b = true) (h2 : undB b c = true) : undB a c = true := by
  rw [und_iff] at *
  obtain ⟨ha, _, h1⟩ := h1
  obtain ⟨_, hc, h2⟩ := h2
  refine ⟨ha, hc, ?_⟩
  rcases h1 with h1 | h1 | h1
  · exact .inl h1
  · subst h1; exact h2
  · rcases h2 with h2 | h2 | h2
    · subst h2; have := h1.length_le; simp at this
    · subst h2; exact .inr (.inr h1)
    · exact .inr (.inr (h1.trans ((List.prefix_append b [47]).trans h2)))
theorem und_anti (a b : List UInt8) (h1 : undB a b = true) (h2 : undB b a = true) : a = b := by
  rw [und_iff] at *
  obtain ⟨_, _, h1⟩ := h1
  obtain ⟨_, _, h2⟩ := h2
  rcases h1 with h1 | h1 | h1
  · rcases h2 with h2 | h2 | h2
    · rw [h1, h2]
    · exact h2.symm
    · subst h1; have := h2.length_le; simp at this
  · exact h1
  · have l1 := h1.length_le
    simp at l1
    rcases h2 with h2 | h2 | h2
    · subst h2; simp at l1
    · exact h2.symm
    · have l2 := h2.length_le; simp at l2; omega
theorem und_self (a : List UInt8) : undB a a = pthB a := by
  unfold undB; simp
theorem und_none (a : List UInt8) : undB [] a = pthB a := by
  unfold undB; rw [pth_nil]; simp
theorem eq_t (a b : ByteArray) (e : a.data.toList = b.data.toList) : (a.toList == b.toList) = true := by rw [eqS]; simpa using e

end Go.Proofs.Ytgbcgchnnmgmfaa.W
