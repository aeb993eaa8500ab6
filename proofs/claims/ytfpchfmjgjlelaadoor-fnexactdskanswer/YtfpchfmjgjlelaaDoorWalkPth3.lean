
/-
  The walks of PthUnder and PthJoin, of the program and of the specification. Texts of at most 1048576 bytes.
-/
import Derived.Test.YtfpchfmjgjlelaaDoorWalkPth2
namespace Go.Proofs.YtfpchfmjgjlelaaDoor.W
open Go.RowKit Go.Proofs.YtfpchfmjgjlelaaDoor.M

theorem list_eq_iff (a b : ByteArray) : a.data.toList = b.data.toList ↔ a = b := by
  constructor
  · intro h; cases a; cases b; congr; exact Array.toList_inj.1 h
  · rintro rfl; rfl

theorem eqS (a b : ByteArray) : (a.toList == b.toList) = decide (a.data.toList = b.data.toList) := by
  rw [Lib.toList_data, Lib.toList_data, Bool.eq_iff_iff]; simp
theorem pre_eq (s p : ByteArray) : ((s.extract 0 p.size).toList == p.toList) = p.data.toList.isPrefixOf s.data.toList := by
  rw [eqS, extract_pre, Bool.eq_iff_iff, decide_eq_true_iff, List.isPrefixOf_iff_prefix]
  constructor
  · intro e; rw [← e]; exact List.take_prefix _ _
  · rintro ⟨t, e⟩
    show s.data.toList.take p.size = p.data.toList
    rw [← e]; simp
theorem not_pre (s p : ByteArray) (h : ¬ p.size ≤ s.size) : p.data.toList.isPrefixOf s.data.toList = false := by
  rw [Bool.eq_false_iff]; intro e
  have := (List.isPrefixOf_iff_prefix.1 e).length_le
  simp at this; omega

theorem und_no1 (a b : List UInt8) (h : pthB a = false) : undB a b = false := by simp [undB, h]
theorem und_no2 (a b : List UInt8) (h : pthB b = false) : undB a b = false := by simp [undB, h]
theorem und_yes (a b : List UInt8) (h : pthB a = true) (h2 : pthB b = true) : undB a b = (decide (a = []) || decide (a = b) || (a ++ [47]).isPrefixOf b) := by simp [undB, h, h2]
theorem und_nil (a b : List UInt8) (h : pthB a = true) (h2 : pthB b = true) (e : a = []) : undB a b = true := by rw [und_yes a b h h2]; simp [e]
theorem und_same (a b : List UInt8) (h : pthB a = true) (h2 : pthB b = true) (e : a = b) : undB a b = true := by rw [und_yes a b h h2]; simp [e]
theorem und_else (a b : List UInt8) (h : pthB a = true) (h2 : pthB b = true) (e : a ≠ []) (e2 : a ≠ b) : undB a b = (a ++ [47]).isPrefixOf b := by rw [und_yes a b h h2]; simp [e, e2]
theorem nonempty_f (a : ByteArray) (e : a.data.toList ≠ []) : a.toList.isEmpty = false := by rw [isEmpty_list]; simpa using e
theorem empty_t (a : ByteArray) (e : a.data.toList = []) : a.toList.isEmpty = true := by rw [isEmpty_list, e]; rfl
theorem eq_f (a b : ByteArray) (e : a.data.toList ≠ b.data.toList) : (a.toList == b.toList) = false := by rw [eqS]; simpa using e

theorem pre_short (a b : ByteArray) (h : ¬ a.size < b.size) : (a.data.toList ++ [47]).isPrefixOf b.data.toList = false := by
  rw [prefix_snoc, decide_eq_false (by simpa using h)]; rfl
theorem pre_part (a b : ByteArray) (h2 : ((b.extract 0 a.size).toList == a.toList) = false) : (a.data.toList ++ [47]).isPrefixOf b.data.toList = false := by
  rw [prefix_snoc]
  have e : decide (b.data.toList.take a.data.toList.length = a.data.toList) = false := by
    rw [eqS, extract_pre] at h2
    have : decide (b.data.toList.take a.size = a.data.toList) = false := h2
    simpa using this
  rw [e]; simp
theorem pre_whole (a b : ByteArray) (h : a.size < b.size) (h2 : ((b.extract 0 a.size).toList == a.toList) = true) : (((b[a.size].toNat : Int)) == 47) = (a.data.toList ++ [47]).isPrefixOf b.data.toList := by
  rw [prefix_snoc]
  have e : decide (b.data.toList.take a.data.toList.length = a.data.toList) = true := by
    rw [eqS, extract_pre] at h2
    have : decide (b.data.toList.take a.size = a.data.toList) = true := h2
    simpa using this
  have e2 : decide (a.data.toList.length < b.data.toList.length) = true := by simpa using h
  have e3 : b.data.toList[a.data.toList.length]? = some b[a.size] := by
    have := at_idx b a.size h; simpa using this
  rw [e, e2, e3, Bool.eq_iff_iff]
  constructor
  · intro hh; rw [is_stroke _ hh]; simp
  · intro hh; simp at hh; rw [hh]; decide

end Go.Proofs.YtfpchfmjgjlelaaDoor.W
