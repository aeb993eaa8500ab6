/-
  Plain mathematics of a path's first name, its rest, what lies under it, and of joining. No condition.
  The walks of PthFirst and PthRest, of the program and of the specification. Texts of at most 4194304 bytes.
  The walks of PthUnder and PthJoin, of the program and of the specification. Texts of at most 1048576 bytes.
-/
import Derived.Test.YtcdkjlbpcihcjaaMathPth
import Derived.Test.YtcdkjlbpcihcjaaWalkOk
import Derived.Test.YtcdkjlbpcihcjaaWalkPthSpec
namespace Go.Proofs.Ytcdkjlbpcihcjaa.M
open Go.RowKit

def firstL (l : List UInt8) : List UInt8 := if pthB l then bef l else []
def restL (l : List UInt8) : List UInt8 := if pthB l then aft l else []
/-- the second path is the first one, or lies under it -/
def undB (a b : List UInt8) : Bool := pthB a && pthB b && (decide (a = []) || decide (a = b) || (a ++ [47]).isPrefixOf b)
/-- two paths, one behind the other -/
def joinL (a b : List UInt8) : List UInt8 :=
  if pthB a = true ∧ pthB b = true then (if a = [] then b else if b = [] then a else if pthB (a ++ 47 :: b) then a ++ 47 :: b else []) else []

theorem spl_head (l : List UInt8) : ∃ t, spl l = bef l :: t := by
  rcases idx_cases l with ⟨_, e2, e3, _⟩ | ⟨_, _, _, e2, _, _⟩
  · exact ⟨[], by rw [spl_not l e2, e3]⟩
  · exact ⟨_, spl_has l e2⟩
theorem aft_of (l : List UInt8) (k : Nat) (h : k < l.length) (h1 : ∀ j, j < k → l[j]? ≠ some 47) (h2 : l[k]? = some 47) : aft l = l.drop (k + 1) := by
  induction l generalizing k with
  | nil => simp at h
  | cons a r ih =>
    cases k with
    | zero => simp at h2; subst h2; simp [aft]
    | succ k =>
      have ha : a ≠ 47 := fun e => h1 0 (by omega) (by simp [e])
      simp only [aft, ha, if_false, List.drop_succ_cons]
      exact ih k (by simpa using h) (fun j hj => by simpa using h1 (j + 1) (by omega)) (by simpa using h2)
theorem aft_none (l : List UInt8) (h1 : ∀ j, j < l.length → l[j]? ≠ some 47) : aft l = [] := by
  induction l with
  | nil => rfl
  | cons a r ih =>
    have ha : a ≠ 47 := fun e => h1 0 (by simp) (by simp [e])
    simp only [aft, ha, if_false]
    exact ih (fun j hj => by simpa using h1 (j + 1) (by simpa using hj))
theorem prefix_snoc (a b : List UInt8) : (a ++ [47]).isPrefixOf b = (decide (a.length < b.length) && (decide (b.take a.length = a) && decide (b[a.length]? = some 47))) := by
  rw [Bool.eq_iff_iff]
  simp only [List.isPrefixOf_iff_prefix, Bool.and_eq_true, decide_eq_true_iff]
  constructor
  · rintro ⟨t, rfl⟩
    simp
  · rintro ⟨h1, h2, h3⟩
    refine ⟨b.drop (a.length + 1), ?_⟩
    have e : b.take (a.length + 1) = a ++ [47] := by
      rw [List.take_add_one, h2, h3]; rfl
    rw [← e, List.take_append_drop]
end Go.Proofs.Ytcdkjlbpcihcjaa.M
namespace Go.Proofs.Ytcdkjlbpcihcjaa.W
open Go.RowKit Go.Proofs.Ytcdkjlbpcihcjaa.M

theorem ok_yes (s : ByteArray) (w : World) (hs : s.size ≤ 4194304) (h : pthB s.data.toList = true) :
    Calls Try.prog 28 #[.string s] w fun e w' => e = .returned (.bool true) ∧ Below w.heap.size w w' := by
  have := ok_any s w hs; rwa [h] at this
theorem ok_no (s : ByteArray) (w : World) (hs : s.size ≤ 4194304) (h : pthB s.data.toList = false) :
    Calls Try.prog 28 #[.string s] w fun e w' => e = .returned (.bool false) ∧ Below w.heap.size w w' := by
  have := ok_any s w hs; rwa [h] at this
theorem sok_yes (s : ByteArray) (w : World) (hs : s.size ≤ 4194304) (h : pthB s.data.toList = true) :
    Calls Try.prog 20 #[.string s] w fun e w' => e = .returned (.bool true) ∧ Below w.heap.size w w' := by
  have := pthOk_spec s w hs; rwa [h] at this
theorem sok_no (s : ByteArray) (w : World) (hs : s.size ≤ 4194304) (h : pthB s.data.toList = false) :
    Calls Try.prog 20 #[.string s] w fun e w' => e = .returned (.bool false) ∧ Below w.heap.size w w' := by
  have := pthOk_spec s w hs; rwa [h] at this
theorem ret_ss {a b c d : ByteArray} (h1 : a = b) (h2 : c = d) : Ending.returned (.tuple #[.string a, .string c]) = .returned (.tuple #[.string b, .string d]) := by rw [h1, h2]

end Go.Proofs.Ytcdkjlbpcihcjaa.W
namespace Go.Proofs.Ytcdkjlbpcihcjaa.W
open Go.RowKit Go.Proofs.Ytcdkjlbpcihcjaa.M

theorem list_eq_iff (a b : ByteArray) : a.data.toList = b.data.toList ↔ a = b := by
  constructor
  · intro h; cases a; cases b; congr; exact Array.toList_inj.1 h
  · rintro rfl; rfl

theorem eqS (a b : ByteArray) : (a.toList == b.toList) = decide (a.data.toList = b.data.toList) := by
  rw [Lib.toList_data, Lib.toList_data, Bool.eq_iff_iff]; simp
theorem pre_eq (s p : ByteArray) : ((s.extract 0 p.size).toList == p.toList) = p.data.toList.isPrefixOf s.data.toList := by
  rw [eqS, extract_pre, Bool.eq_iff_iff, decide_eq_true_iff, List.isPrefixOf_iff_prefix]
  constructor
  · intro e; rw [← e]; exact List.take_prefix _ _
  · rintro ⟨t, e⟩
    show s.data.toList.take p.size = p.data.toList
    rw [← e]; simp
theorem not_pre (s p : ByteArray) (h : ¬ p.size ≤ s.size) : p.data.toList.isPrefixOf s.data.toList = false := by
  rw [Bool.eq_false_iff]; intro e
  have := (List.isPrefixOf_iff_prefix.1 e).length_le
  simp at this; omega

theorem und_no1 (a b : List UInt8) (h : pthB a = false) : undB a b = false := by simp [undB, h]
theorem und_no2 (a b : List UInt8) (h : pthB b = false) : undB a b = false := by simp [undB, h]
theorem und_yes (a b : List UInt8) (h : pthB a = true) (h2 : pthB b = true) : undB a b = (decide (a = []) || decide (a = b) || (a ++ [47]).isPrefixOf b) := by simp [undB, h, h2]
theorem und_nil (a b : List UInt8) (h : pthB a = true) (h2 : pthB b = true) (e : a = []) : undB a b = true := by rw [und_yes a b h h2]; simp [e]
theorem und_same (a b : List UInt8) (h : pthB a = true) (h2 : pthB b = true) (e : a = b) : undB a b = true := by rw [und_yes a b h h2]; simp [e]
theorem und_else (a b : List UInt8) (h : pthB a = true) (h2 : pthB b = true) (e : a ≠ []) (e2 : a ≠ b) : undB a b = (a ++ [47]).isPrefixOf b := by rw [und_yes a b h h2]; simp [e, e2]
theorem nonempty_f (a : ByteArray) (e : a.data.toList ≠ []) : a.toList.isEmpty = false := by rw [isEmpty_list]; simpa using e
theorem empty_t (a : ByteArray) (e : a.data.toList = []) : a.toList.isEmpty = true := by rw [isEmpty_list, e]; rfl
theorem eq_f (a b : ByteArray) (e : a.data.toList ≠ b.data.toList) : (a.toList == b.toList) = false := by rw [eqS]; simpa using e

theorem pre_short (a b : ByteArray) (h : ¬ a.size < b.size) : (a.data.toList ++ [47]).isPrefixOf b.data.toList = false := by
  rw [prefix_snoc, decide_eq_false (by simpa using h)]; rfl
theorem pre_part (a b : ByteArray) (h2 : ((b.extract 0 a.size).toList == a.toList) = false) : (a.data.toList ++ [47]).isPrefixOf b.data.toList = false := by
  rw [prefix_snoc]
  have e : decide (b.data.toList.take a.data.toList.length = a.data.toList) = false := by
    rw [eqS, extract_pre] at h2
    have : decide (b.data.toList.take a.size = a.data.toList) = false := h2
    simpa using this
  rw [e]; simp
theorem pre_whole (a b : ByteArray) (h : a.size < b.size) (h2 : ((b.extract 0 a.size).toList == a.toList) = true) : (((b[a.size].toNat : Int)) == 47) = (a.data.toList ++ [47]).isPrefixOf b.data.toList := by
  rw [prefix_snoc]
  have e : decide (b.data.toList.take a.data.toList.length = a.data.toList) = true := by
    rw [eqS, extract_pre] at h2
    have : decide (b.data.toList.take a.size = a.data.toList) = true := h2
    simpa using this
  have e2 : decide (a.data.toList.length < b.data.toList.length) = true := by simpa using h
  have e3 : b.data.toList[a.data.toList.length]? = some b[a.size] := by
    have := at_idx b a.size h; simpa using this
  rw [e, e2, e3, Bool.eq_iff_iff]
  constructor
  · intro hh; rw [is_stroke _ hh]; simp
  · intro hh; simp at hh; rw [hh]; decide

end Go.Proofs.Ytcdkjlbpcihcjaa.W
