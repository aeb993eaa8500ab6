
/-
  Plain mathematics of a path and its names: joined one behind the other they make the path again; the first one and the rest are those of the names. No condition but that the text is a path.
-/
import Derived.Test.YtgbcgchnnmgmfaaMathJoin
import Derived.Test.YtgbcgchnnmgmfaaWalkParts
namespace Go.Proofs.Ytgbcgchnnmgmfaa.M
open Go.RowKit Go.Proofs.Ytgbcgchnnmgmfaa.W

/-- names joined with strokes -/
def glue : List (List UInt8) → List UInt8
  | [] => []
  | x :: r => if r = [] then x else x ++ 47 :: glue r
theorem glue_spl (l : List UInt8) : glue (spl l) = l := by
  induction l with
  | nil => rfl
  | cons c r ih =>
    obtain ⟨h, t, e⟩ := spl_ne r
    by_cases hc : c = 47
    · subst hc; simp only [spl, if_true, glue]; rw [ih, if_neg (by rw [e]; simp)]; rfl
    · rw [e] at ih
      simp only [spl, hc, if_false, e, List.headD_cons, List.tail_cons, glue] at ih ⊢
      by_cases ht : t = []
      · rw [if_pos ht] at ih ⊢; rw [ih]
      · rw [if_neg ht] at ih ⊢; rw [← ih]; rfl
theorem nms_inj (a b : List UInt8) (h : nms a = nms b) : a = b := by
  unfold nms at h
  obtain ⟨h1, t1, e1⟩ := spl_ne a
  obtain ⟨h2, t2, e2⟩ := spl_ne b
  by_cases ha : a = []
  · by_cases hb : b = []
    · rw [ha, hb]
    · rw [if_pos ha, if_neg hb, e2] at h; cases h
  · by_cases hb : b = []
    · rw [if_neg ha, if_pos hb, e1] at h; cases h
    · rw [if_neg ha, if_neg hb] at h
      rw [← glue_spl a, ← glue_spl b, h]
theorem low_has (l : List UInt8) (h : l.all low = true) : has l = false := by
  induction l with
  | nil => rfl
  | cons c r ih =>
    simp only [List.all_cons, Bool.and_eq_true] at h
    have hc : c ≠ 47 := by rintro rfl; exact absurd h.1 (by decide)
    unfold has; rw [if_neg hc]; exact ih h.2
theorem nam_one (x : List UInt8) (h : namB x = true) : pthB x = true ∧ nms x = [x] := by
  have h' := h
  unfold namB at h'
  simp only [Bool.and_eq_true, decide_eq_true_iff] at h'
  have hx : x ≠ [] := by rintro rfl; simp at h'
  have e : nms x = [x] := by unfold nms; rw [if_neg hx, spl_not x (low_has x h'.2.2)]
  refine ⟨?_, e⟩
  unfold pthB; rw [e]; simp [h]
/-- names joined one behind the other -/
def foldJ (xs : List (List UInt8)) : List UInt8 := xs.foldl joinL []
theorem foldJ_snoc (xs : List (List UInt8)) (x : List UInt8) : foldJ (xs ++ [x]) = joinL (foldJ xs) x := by simp [foldJ]
theorem foldJ_ok (n : Nat) : ∀ xs : List (List UInt8), xs.length = n → xs.all namB = true → xs.length ≤ 3 → pthB (foldJ xs) = true ∧ nms (foldJ xs) = xs := by
  induction n with
  | zero => intro xs h _ _; have : xs = [] := List.length_eq_zero_iff.1 h; subst this; exact ⟨rfl, rfl⟩
  | succ n ih =>
    intro xs h ha hl
    rcases List.eq_nil_or_concat xs with e | ⟨ys, x, e⟩
    · subst e; simp at h
    · have e' : xs = ys ++ [x] := by rw [e]; simp
      subst e'
      simp only [List.all_append, Bool.and_eq_true, List.length_append, List.length_cons, List.length_nil] at h ha hl
      have hx : namB x = true := by simpa using ha.2
      have i := ih ys (by omega) ha.1 (by omega)
      have o := nam_one x hx
      rw [foldJ_snoc]
      have f := join_fit (foldJ ys) x i.1 o.1 (by rw [i.2, o.2]; simp; omega)
      rw [i.2, o.2] at f
      exact f
theorem foldJ_le (xs : List (List UInt8)) (h : xs.all namB = true) (hl : xs.length ≤ 3) : (foldJ xs).length ≤ 12 := pth_le _ (foldJ_ok _ xs rfl h hl).1
theorem fold_all (l : List UInt8) (h : pthB l = true) : foldJ (nms l) = l := by
  have h' := h
  unfold pthB at h'; simp only [Bool.and_eq_true, decide_eq_true_iff] at h'
  exact nms_inj _ _ (foldJ_ok _ _ rfl h'.2 h'.1).2
theorem aft_nms (l : List UInt8) (h : pthB l = true) (hl : l ≠ []) : pthB (aft l) = true ∧ nms (aft l) = (nms l).drop 1 := by
  have h' := h
  unfold pthB at h'; simp only [Bool.and_eq_true, decide_eq_true_iff] at h'
  have e : nms l = spl l := by unfold nms; rw [if_neg hl]
  cases hh : has l
  · rw [e, spl_not l hh]
    rcases idx_cases l with ⟨_, _, _, e4⟩ | ⟨_, _, _, e3, _, _⟩
    · rw [e4]; exact ⟨rfl, rfl⟩
    · rw [hh] at e3; cases e3
  · rw [e, spl_has l hh] at h'
    simp only [List.all_cons, Bool.and_eq_true, List.length_cons] at h'
    have hne : aft l ≠ [] := by intro e0; rw [e0] at h'; simp [spl, namB] at h'
    have e2 : nms (aft l) = spl (aft l) := by unfold nms; rw [if_neg hne]
    rw [e, spl_has l hh, List.drop_succ_cons, List.drop_zero]
    refine ⟨?_, e2⟩
    unfold pthB; rw [e2]; simp only [Bool.and_eq_true, decide_eq_true_iff]; exact ⟨by omega, h'.2.2⟩
theorem fold_rest (l : List UInt8) (h : pthB l = true) (hl : l ≠ []) : foldJ ((nms l).drop 1) = restL l := by
  have a := aft_nms l h hl
  unfold restL; rw [if_pos h, ← a.2]; exact fold_all _ a.1
theorem first_is (l : List UInt8) (h : pthB l = true) (hl : l ≠ []) : (nms l)[0]? = some (firstL l) := by
  have e : nms l = spl l := by unfold nms; rw [if_neg hl]
  obtain ⟨t, et⟩ := spl_head l
  unfold firstL; rw [e, et, if_pos h]; rfl
theorem drop_take (L : List (List UInt8)) (j : Nat) (h : j < L.length) (hj : 1 ≤ j) : (L.take (j + 1)).drop 1 = (L.take j).drop 1 ++ [L[j]] := by
  rw [List.take_succ_eq_append_getElem h, List.drop_append_of_le_length (by simp; omega)]
theorem all_take (L : List (List UInt8)) (j : Nat) (h : L.all namB = true) : (L.take j).all namB = true := by
  rw [List.all_eq_true] at *; intro x hx; exact h x (List.mem_of_mem_take hx)
theorem all_drop (L : List (List UInt8)) (j : Nat) (h : L.all namB = true) : (L.drop j).all namB = true := by
  rw [List.all_eq_true] at *; intro x hx; exact h x (List.mem_of_mem_drop hx)
theorem joinB_mk (a b : List UInt8) : joinB ⟨a.toArray⟩ ⟨b.toArray⟩ = ⟨(joinL a b).toArray⟩ := by unfold joinB; simp
end Go.Proofs.Ytgbcgchnnmgmfaa.M
