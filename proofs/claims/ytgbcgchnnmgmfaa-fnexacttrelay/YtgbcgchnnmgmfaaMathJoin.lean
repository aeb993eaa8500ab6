
/-
  Plain mathematics of joining paths: what is joined lies under what is ahead; to join hangs on no brackets where the names are few enough. No other condition.
-/
import Derived.Test.YtgbcgchnnmgmfaaWalkOrder
import Derived.Test.YtgbcgchnnmgmfaaWalkPth4
namespace Go.Proofs.Ytgbcgchnnmgmfaa.M
open Go.RowKit Go.Proofs.Ytgbcgchnnmgmfaa.W

theorem spl_both (a b : List UInt8) : spl (a ++ 47 :: b) = spl a ++ spl b := by
  induction a with
  | nil => simp [spl]
  | cons c r ih =>
    obtain ⟨h, t, e⟩ := spl_ne r
    by_cases hc : c = 47
    · simp [spl, hc, ih]
    · simp [spl, hc, ih, e]
theorem nms_both (a b : List UInt8) (ha : a ≠ []) (hb : b ≠ []) : nms (a ++ 47 :: b) = nms a ++ nms b := by
  unfold nms; rw [if_neg ha, if_neg hb, if_neg (by simp), spl_both]
theorem pth_both (a b : List UInt8) (ha : a ≠ []) (hb : b ≠ []) (pa : pthB a = true) (pb : pthB b = true) (h : (nms a).length + (nms b).length ≤ 3) : pthB (a ++ 47 :: b) = true := by
  unfold pthB at *
  rw [nms_both a b ha hb]
  simp only [Bool.and_eq_true, decide_eq_true_iff, List.all_append, List.length_append] at *
  exact ⟨h, pa.2, pb.2⟩
theorem join_fit (a b : List UInt8) (pa : pthB a = true) (pb : pthB b = true) (h : (nms a).length + (nms b).length ≤ 3) : pthB (joinL a b) = true ∧ nms (joinL a b) = nms a ++ nms b := by
  unfold joinL
  rw [if_pos ⟨pa, pb⟩]
  by_cases e1 : a = []
  · subst e1; simpa [nms] using pb
  · rw [if_neg e1]
    by_cases e2 : b = []
    · subst e2; simpa [nms] using pa
    · rw [if_neg e2, if_pos (pth_both a b e1 e2 pa pb h)]
      exact ⟨pth_both a b e1 e2 pa pb h, nms_both a b e1 e2⟩
theorem join_is (a b : List UInt8) (pa : pthB a = true) (pb : pthB b = true) (h : (nms a).length + (nms b).length ≤ 3) : joinL a b = if a = [] then b else if b = [] then a else a ++ 47 :: b := by
  unfold joinL
  rw [if_pos ⟨pa, pb⟩]
  by_cases e1 : a = []
  · rw [if_pos e1, if_pos e1]
  · rw [if_neg e1, if_neg e1]
    by_cases e2 : b = []
    · rw [if_pos e2, if_pos e2]
    · rw [if_neg e2, if_neg e2, if_pos (pth_both a b e1 e2 pa pb h)]
theorem join_assoc (a b c : List UInt8) (pa : pthB a = true) (pb : pthB b = true) (pc : pthB c = true) (h : (nms a).length + (nms b).length + (nms c).length ≤ 3) : joinL (joinL a b) c = joinL a (joinL b c) := by
  have h1 := join_fit a b pa pb (by omega)
  have h2 := join_fit b c pb pc (by omega)
  rw [join_is (joinL a b) c h1.1 pc (by rw [h1.2, List.length_append]; omega), join_is a (joinL b c) pa h2.1 (by rw [h2.2, List.length_append]; omega), join_is a b pa pb (by omega), join_is b c pb pc (by omega)]
  by_cases e1 : a = []
  · simp [e1]
  · by_cases e2 : b = []
    · simp [e1, e2]
    · by_cases e3 : c = []
      · simp [e1, e2, e3]
      · simp [e1, e2, e3]
theorem join_und (a b : List UInt8) (h : joinL a b ≠ []) : undB a (joinL a b) = true := by
  unfold joinL at *
  split at h
  · rename_i hp
    rw [und_iff, if_pos hp]
    refine ⟨hp.1, ?_⟩
    split at h
    · rename_i e; exact ⟨by rw [if_pos e]; exact hp.2, .inl e⟩
    · rename_i e
      rw [if_neg e]
      split at h
      · rename_i e2; rw [if_pos e2]; exact ⟨hp.1, .inr (.inl rfl)⟩
      · rename_i e2
        rw [if_neg e2]
        split at h
        · rename_i e3; rw [if_pos e3]; exact ⟨e3, .inr (.inr ⟨b, by simp⟩)⟩
        · exact absurd rfl h
  · exact absurd rfl h
end Go.Proofs.Ytgbcgchnnmgmfaa.M
