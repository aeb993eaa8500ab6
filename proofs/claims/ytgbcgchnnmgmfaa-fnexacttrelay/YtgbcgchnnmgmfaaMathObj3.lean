
/-
  Plain mathematics of sheets, entry by entry: which entry makes the sheet empty, and what its text is if none does. No condition but 60 entries at most where it is said.
-/
import Derived.Test.YtgbcgchnnmgmfaaMathObj2
namespace Go.Proofs.Ytgbcgchnnmgmfaa.M
open Go.RowKit

theorem enc_snoc (xs : List En) (e : En) : encL (xs ++ [e]) = encL xs ++ encE e := by
  induction xs with
  | nil => simp [encL]
  | cons a r ih => simp [encL, ih]
theorem rise_at (es : List En) : riseB es = true → ∀ j (h : j + 1 < es.length), Op.bytesLess (es[j]).nm (es[j + 1]).nm = true := by
  induction es with
  | nil => intro _ j h; simp at h
  | cons a r ih =>
    intro hr j h
    cases r with
    | nil => simp at h
    | cons b r =>
      simp only [riseB, Bool.and_eq_true] at hr
      cases j with
      | zero => exact hr.1
      | succ j => exact ih hr.2 j (by simpa using h)
theorem rise_of (es : List En) : (∀ j (h : j + 1 < es.length), Op.bytesLess (es[j]).nm (es[j + 1]).nm = true) → riseB es = true := by
  induction es with
  | nil => intro _; rfl
  | cons a r ih =>
    intro h
    cases r with
    | nil => rfl
    | cons b r =>
      simp only [riseB, Bool.and_eq_true]
      exact ⟨h 0 (by simp), ih fun j hj => h (j + 1) (by simpa using hj)⟩
theorem bad_ok (es : List En) (j : Nat) (h : j < es.length) (h2 : okE es[j] = false) : sheetT es = [] := by
  have : es.all okE = false := by rw [Bool.eq_false_iff]; intro ha; have := List.all_eq_true.1 ha _ (List.getElem_mem h); rw [h2] at this; cases this
  unfold sheetT okL; rw [this]; simp
theorem bad_rise (es : List En) (j : Nat) (h : j + 1 < es.length) (h2 : Op.bytesLess (es[j]).nm (es[j + 1]).nm = false) : sheetT es = [] := by
  have : riseB es = false := by rw [Bool.eq_false_iff]; intro ha; have := rise_at es ha j h; rw [h2] at this; cases this
  unfold sheetT okL; rw [this]; simp
theorem good (es : List En) (hl : es.length ≤ 60) (h1 : ∀ j (h : j < es.length), okE es[j] = true) (h2 : ∀ j (h : j + 1 < es.length), Op.bytesLess (es[j]).nm (es[j + 1]).nm = true) : sheetT es = 83 :: encL es := by
  have a : es.all okE = true := by rw [List.all_eq_true]; intro x hx; obtain ⟨i, hi, rfl⟩ := List.getElem_of_mem hx; exact h1 i hi
  unfold sheetT okL; rw [a, rise_of es h2, decide_eq_true hl]; rfl
end Go.Proofs.Ytgbcgchnnmgmfaa.M
