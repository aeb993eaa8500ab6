
/-
  What stands behind a path: its first name is the name of the longer path at that place. No condition.
-/
import Derived.Test.YtgbcgchnnmgmfaaMathNames
import Derived.Test.YtgbcgchnnmgmfaaMathSort
import Derived.Test.YtgbcgchnnmgmfaaMathJoin
import Derived.Test.YtgbcgchnnmgmfaaRowF
namespace Go.Proofs.Ytgbcgchnnmgmfaa.M

/-- what stands behind a path -/
def behind (p f : List UInt8) : List UInt8 := if p = [] then f else f.drop (p.length + 1)
theorem und_split (p f : List UInt8) (h : undB p f = true) (hne : p ≠ f) : pthB p = true ∧ pthB f = true ∧ behind p f ≠ [] ∧ pthB (behind p f) = true ∧ nms f = nms p ++ nms (behind p f) ∧ (p ≠ [] → p.length + 1 ≤ f.length) := by
  unfold undB at h
  simp only [Bool.and_eq_true, Bool.or_eq_true, decide_eq_true_eq] at h
  obtain ⟨⟨hp, hf⟩, h3⟩ := h
  by_cases he : p = []
  · subst he
    have : behind [] f = f := rfl
    rw [this]
    exact ⟨hp, hf, fun e => hne e.symm, hf, by simp [nms], fun e => absurd rfl e⟩
  · have h4 : (p ++ [47]).isPrefixOf f = true := by
      rcases h3 with (h3 | h3) | h3
      · exact absurd h3 he
      · exact absurd h3 hne
      · exact h3
    obtain ⟨t, ht⟩ := List.isPrefixOf_iff_prefix.1 h4
    have hf2 : f = p ++ 47 :: t := by rw [← ht]; simp
    have hb : behind p f = t := by
      unfold behind
      rw [if_neg he, ← ht]
      exact List.drop_left' (by simp)
    rw [hb]
    have hspl := spl_both p t
    have hfn : f ≠ [] := by rw [hf2]; simp
    have hall : (spl f).all namB = true ∧ (spl f).length ≤ 3 := by
      have := pth_of f hfn
      rw [hf] at this
      simpa using this.symm
    rw [hf2, hspl] at hall
    obtain ⟨ha, hl⟩ := hall
    rw [List.all_append, Bool.and_eq_true] at ha
    have htn : t ≠ [] := by
      intro e
      subst e
      exact absurd ha.2 (by decide)
    refine ⟨hp, hf, htn, ?_, by rw [hf2]; exact nms_both p t he htn, fun _ => by rw [hf2]; simp⟩
    rw [pth_of t htn, ha.2]
    rw [List.length_append] at hl
    simp
    omega
theorem und_name (p f : List UInt8) (h : undB p f = true) (hne : p ≠ f) : (nms f)[(nms p).length]? = some (firstL (behind p f)) ∧ (nms p).length < (nms f).length := by
  obtain ⟨h1, h2, h3, h4, h5, _⟩ := und_split p f h hne
  have h6 := first_is _ h4 h3
  have h7 : 0 < (nms (behind p f)).length := (List.getElem?_eq_some_iff.1 h6).1
  rw [h5]
  refine ⟨?_, by rw [List.length_append]; omega⟩
  rw [List.getElem?_append_right (Nat.le_refl _), Nat.sub_self]
  exact h6
open Go.Proofs.Ytgbcgchnnmgmfaa.W in
/-- the names behind a path, as they come -/
def rawN (L : List TF) (p : List UInt8) : List (List UInt8) := (L.filter fun x => undB p x.pa.data.toList && decide (p ≠ x.pa.data.toList)).map fun x => firstL (behind p x.pa.data.toList)
open Go.Proofs.Ytgbcgchnnmgmfaa.W in
theorem rawN_no (L : List TF) (p : List UInt8) (j : Nat) (h : j < L.length) (hn : (undB p (L[j]).pa.data.toList && decide (p ≠ (L[j]).pa.data.toList)) = false) : rawN (L.take (j + 1)) p = rawN (L.take j) p := by
  unfold rawN
  rw [List.take_succ_eq_append_getElem h, List.filter_append, List.map_append]
  simp only [List.filter_cons, hn, Bool.false_eq_true, if_false, List.filter_nil, List.map_nil, List.append_nil]
open Go.Proofs.Ytgbcgchnnmgmfaa.W in
theorem rawN_yes (L : List TF) (p : List UInt8) (j : Nat) (h : j < L.length) (hn : (undB p (L[j]).pa.data.toList && decide (p ≠ (L[j]).pa.data.toList)) = true) : rawN (L.take (j + 1)) p = rawN (L.take j) p ++ [firstL (behind p (L[j]).pa.data.toList)] := by
  unfold rawN
  rw [List.take_succ_eq_append_getElem h, List.filter_append, List.map_append]
  simp only [List.filter_cons, hn, if_true, List.filter_nil, List.map_cons, List.map_nil]
open Go.Proofs.Ytgbcgchnnmgmfaa.W in
theorem rawN_len (L : List TF) (p : List UInt8) : (rawN L p).length ≤ L.length := by
  unfold rawN
  rw [List.length_map]
  exact List.length_filter_le ..
theorem namesB_len (l : List (List UInt8)) : (namesB l).length ≤ l.length := by
  rw [← sortCompact]
  refine Nat.le_trans (Lib.compact_length_le _) ?_
  rw [List.length_mergeSort]
  exact Nat.le_refl _
end Go.Proofs.Ytgbcgchnnmgmfaa.M
