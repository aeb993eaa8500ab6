
/-
  Plain mathematics of a path's first name, its rest, what lies under it, and of joining. No condition.
-/
import Derived.Test.YtgbcgchnnmgmfaaMathPth
namespace Go.Proofs.Ytgbcgchnnmgmfaa.M
open Go.RowKit

def firstL (l : List UInt8) : List UInt8 := if pthB l then bef l else []
def restL (l : List UInt8) : List UInt8 := if pthB l then aft l else []
/-- the second path is the first one, or lies under it -/
def undB (a b : List UInt8) : Bool := pthB a && pthB b && (decide (a = []) || decide (a = b) || (a ++ [47]).isPrefixOf b)
/-- two paths, one behind the other -/
def joinL (a b : List UInt8) : List UInt8 :=
  if pthB a = true ∧ pthB b = true then (if a = [] then b else if b = [] then a else if pthB (a ++ 47 :: b) then a ++ 47 :: b else []) else []

theorem spl_head (l : List UInt8) : ∃ t, spl l = bef l :: t := by
  rcases idx_cases l with ⟨_, e2, e3, _⟩ | ⟨_, _, _, e2, _, _⟩
  · exact ⟨[], by rw [spl_not l e2, e3]⟩
  · exact ⟨_, spl_has l e2⟩
theorem aft_of (l : List UInt8) (k : Nat) (h : k < l.length) (h1 : ∀ j, j < k → l[j]? ≠ some 47) (h2 : l[k]? = some 47) : aft l = l.drop (k + 1) := by
  induction l generalizing k with
  | nil => simp at h
  | cons a r ih =>
    cases k with
    | zero => simp at h2; subst h2; simp [aft]
    | succ k =>
      have ha : a ≠ 47 := fun e => h1 0 (by omega) (by simp [e])
      simp only [aft, ha, if_false, List.drop_succ_cons]
      exact ih k (by simpa using h) (fun j hj => by simpa using h1 (j + 1) (by omega)) (by simpa using h2)
theorem aft_none (l : List UInt8) (h1 : ∀ j, j < l.length → l[j]? ≠ some 47) : aft l = [] := by
  induction l with
  | nil => rfl
  | cons a r ih =>
    have ha : a ≠ 47 := fun e => h1 0 (by simp) (by simp [e])
    simp only [aft, ha, if_false]
    exact ih (fun j hj => by simpa using h1 (j + 1) (by simpa using hj))
theorem prefix_snoc (a b : List UInt8) : (a ++ [47]).isPrefixOf b = (decide (a.length < b.length) && (decide (b.take a.length = a) && decide (b[a.length]? = some 47))) := by
  rw [Bool.eq_iff_iff]
  simp only [List.isPrefixOf_iff_prefix, Bool.and_eq_true, decide_eq_true_iff]
  constructor
  · rintro ⟨t, rfl⟩
    simp
  · rintro ⟨h1, h2, h3⟩
    refine ⟨b.drop (a.length + 1), ?_⟩
    have e : b.take (a.length + 1) = a ++ [47] := by
      rw [List.take_add_one, h2, h3]; rfl
    rw [← e, List.take_append_drop]
end Go.Proofs.Ytgbcgchnnmgmfaa.M
