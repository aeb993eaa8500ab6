
/-
  Plain mathematics of paths: a text cut at its strokes, and which text is a path. No condition.
-/
import Derived.WalkKit
import Derived.Lib.Bytealg
import Derived.Lib.Strings
import Derived.Test.YtgbcgchnnmgmfaaMathNam
namespace Go.Proofs.Ytgbcgchnnmgmfaa.M
open Go.RowKit

/-- what stands ahead of the first stroke -/
def bef : List UInt8 → List UInt8
  | [] => []
  | c :: r => if c = 47 then [] else c :: bef r
/-- what stands behind the first stroke -/
def aft : List UInt8 → List UInt8
  | [] => []
  | c :: r => if c = 47 then r else aft r
/-- there is a stroke -/
def has : List UInt8 → Bool
  | [] => false
  | c :: r => if c = 47 then true else has r
/-- a text cut at its strokes -/
def spl : List UInt8 → List (List UInt8)
  | [] => [[]]
  | c :: r => if c = 47 then [] :: spl r else (c :: (spl r).headD []) :: (spl r).tail
/-- the names that a path's iterator tells -/
def nms (l : List UInt8) : List (List UInt8) := if l = [] then [] else spl l
/-- a text is a path -/
def pthB (l : List UInt8) : Bool := decide ((nms l).length ≤ 3) && (nms l).all namB

theorem idx_cases (l : List UInt8) : (Lib.indexByte l 47 = -1 ∧ has l = false ∧ bef l = l ∧ aft l = []) ∨
    ∃ k : Nat, Lib.indexByte l 47 = (k : Int) ∧ k < l.length ∧ has l = true ∧ bef l = l.take k ∧ aft l = l.drop (k + 1) := by
  induction l with
  | nil => left; simp [Lib.indexByte, has, bef, aft]
  | cons c r ih =>
    by_cases h : c = 47
    · right; subst h; exact ⟨0, by simp [Lib.indexByte], by simp, by simp [has], by simp [bef], by simp [aft]⟩
    · have hb : (c == 47) = false := by simpa using h
      rcases ih with ⟨e1, e2, e3, e4⟩ | ⟨k, e1, e2, e3, e4, e5⟩
      · left; simp [Lib.indexByte, has, bef, aft, h, hb, e1, e2, e3, e4]
      · right
        have hk : ¬ (k : Int) = -1 := by omega
        refine ⟨k + 1, ?_, by simp; omega, by simp [has, h, e3], by simp [bef, h, e4], by simp [aft, h, e5]⟩
        simp [Lib.indexByte, hb, e1, hk]
theorem spl_ne (l : List UInt8) : ∃ h t, spl l = h :: t := by
  cases l with
  | nil => exact ⟨_, _, rfl⟩
  | cons c r => unfold spl; split <;> exact ⟨_, _, rfl⟩
theorem spl_has (l : List UInt8) (h : has l = true) : spl l = bef l :: spl (aft l) := by
  induction l with
  | nil => simp [has] at h
  | cons c r ih =>
    by_cases hc : c = 47
    · simp [spl, bef, aft, hc]
    · simp [has, hc] at h; simp [spl, bef, aft, hc, ih h]
theorem spl_not (l : List UInt8) (h : has l = false) : spl l = [l] := by
  induction l with
  | nil => rfl
  | cons c r ih =>
    by_cases hc : c = 47
    · simp [has, hc] at h
    · simp [has, hc] at h; simp [spl, hc, ih h]
theorem bef_le (l : List UInt8) : (bef l).length ≤ l.length := by
  induction l with
  | nil => simp [bef]
  | cons c r ih => unfold bef; split <;> simp; omega
theorem aft_le (l : List UInt8) : (aft l).length ≤ l.length - 1 := by
  induction l with
  | nil => simp [aft]
  | cons c r ih => unfold aft; split <;> simp; omega
theorem extract_pre (s : ByteArray) (k : Nat) : s.extract 0 k = ⟨(s.data.toList.take k).toArray⟩ := by
  apply ByteArray.ext; apply Array.toList_inj.1; rw [Lib.extract_data]; simp
theorem extract_suf (s : ByteArray) (k : Nat) : s.extract k s.size = ⟨(s.data.toList.drop k).toArray⟩ := by
  apply ByteArray.ext; apply Array.toList_inj.1; rw [Lib.extract_data]; simp [List.take_of_length_le]
theorem whole (s : ByteArray) : s = ⟨s.data.toList.toArray⟩ := by cases s; simp
theorem size_mk (l : List UInt8) : (ByteArray.mk l.toArray).size = l.length := by simp [ByteArray.size]
theorem isEmpty_list (s : ByteArray) : s.toList.isEmpty = s.data.toList.isEmpty := by rw [Lib.toList_data]
theorem nms_start (s : ByteArray) : nms s.data.toList = [] ++ (if !s.toList.isEmpty then spl s.data.toList else []) := by
  rw [isEmpty_list]; unfold nms
  cases h : s.data.toList <;> simp
theorem pre_step (pre : List (List UInt8)) (l r : List UInt8) (h : nms l = pre ++ spl r) : nms l = (pre ++ [bef r]) ++ (if has r then spl (aft r) else []) := by
  rw [h]
  cases e : has r
  · rw [spl_not r e]
    rcases idx_cases r with ⟨_, _, e3, _⟩ | ⟨_, _, _, e3, _, _⟩
    · simp [e3]
    · rw [e] at e3; cases e3
  · rw [spl_has r e]; simp
theorem aft_lt (l : List UInt8) (h : has l = true) : (aft l).length < l.length := by
  rcases idx_cases l with ⟨_, e2, _, _⟩ | ⟨k, _, e2, _, _, e5⟩
  · rw [h] at e2; cases e2
  · rw [e5]; simp; omega
theorem spl_snoc (c : UInt8) : ∀ (l : List UInt8) (o : List (List UInt8)) (x : List UInt8), spl l = o ++ [x] →
    spl (l ++ [c]) = if c = 47 then (o ++ [x]) ++ [[]] else o ++ [x ++ [c]] := by
  intro l
  induction l with
  | nil =>
    intro o x h
    cases o with
    | nil => simp [spl] at h; subst h; by_cases hc : c = 47 <;> simp [spl, hc]
    | cons a o => simp [spl] at h
  | cons a r ih =>
    intro o x h
    obtain ⟨hd, tl, e⟩ := spl_ne r
    by_cases ha : a = 47
    · simp only [List.cons_append, spl, ha, if_true] at h ⊢
      cases o with
      | nil => simp at h; rw [e] at h; simp at h
      | cons b o => simp at h; obtain ⟨h1, h2⟩ := h; rw [ih o x h2, ← h1]; by_cases hc : c = 47 <;> simp [hc]
    · simp only [List.cons_append, spl, ha, if_false] at h ⊢
      rw [e] at h
      cases o with
      | nil =>
        simp at h; obtain ⟨h1, h2⟩ := h
        rw [ih [] hd (by rw [e, h2]; rfl), ← h1]
        by_cases hc : c = 47 <;> simp [hc]
      | cons b o =>
        simp at h; obtain ⟨h1, h2⟩ := h
        rw [ih (hd :: o) x (by rw [e, h2]; rfl), ← h1]
        by_cases hc : c = 47 <;> simp [hc]
theorem spl_len (l : List UInt8) : (spl l).length ≤ l.length + 1 := by
  induction l with
  | nil => simp [spl]
  | cons a r ih => obtain ⟨hd, tl, e⟩ := spl_ne r; rw [e] at ih; unfold spl; split <;> simp [e] at ih ⊢ <;> omega
theorem len_of_spl (l : List UInt8) : l.length + 1 = ((spl l).map fun x => x.length + 1).sum := by
  induction l with
  | nil => simp [spl]
  | cons a r ih =>
    obtain ⟨hd, tl, e⟩ := spl_ne r
    rw [e] at ih
    unfold spl; split <;> simp [e] at ih ⊢ <;> omega
theorem le_sum_map (L : List (List UInt8)) (x : List UInt8) (h : x ∈ L) : x.length + 1 ≤ (L.map fun x => x.length + 1).sum := by
  induction L with
  | nil => simp at h
  | cons a r ih =>
    rcases List.mem_cons.1 h with rfl | h
    · simp
    · have := ih h; simp at this ⊢; omega
theorem spl_mem_len (l : List UInt8) : ∀ x ∈ spl l, x.length ≤ l.length := by
  intro x hx
  have h := len_of_spl l
  have := le_sum_map _ x hx
  omega
theorem namB_le (l : List UInt8) (h : namB l = true) : l.length ≤ 3 := by
  unfold namB at h; simp at h; omega
theorem sum_le (L : List (List UInt8)) (h : L.all namB = true) : (L.map fun x => x.length + 1).sum ≤ 4 * L.length := by
  induction L with
  | nil => simp
  | cons a r ih =>
    simp at h
    have := namB_le a h.1
    have := ih (by simpa using h.2)
    simp; omega
theorem pth_le (l : List UInt8) (h : pthB l = true) : l.length ≤ 12 := by
  unfold pthB nms at h
  by_cases e : l = []
  · simp [e]
  · rw [if_neg e, Bool.and_eq_true, decide_eq_true_iff] at h
    have h1 := len_of_spl l
    have h2 := sum_le _ h.2
    omega
theorem pth_nil : pthB [] = true := rfl
theorem pth_of (l : List UInt8) (h : l ≠ []) : pthB l = ((spl l).all namB && decide ((spl l).length ≤ 3)) := by
  unfold pthB nms; rw [if_neg h, Bool.and_comm]
theorem pth_long (l : List UInt8) (h : 12 < l.length) : pthB l = false := by
  rw [Bool.eq_false_iff]; intro e; have := pth_le l e; omega
theorem take_at (s : ByteArray) (k : Nat) (h : k < s.size) : s.data.toList.take (k + 1) = s.data.toList.take k ++ [s[k]] := by
  rw [List.take_succ_eq_append_getElem (by simpa using h)]; rfl
theorem is_stroke (c : UInt8) (h : (((c.toNat : Int)) == 47) = true) : c = 47 := by
  have : c.toNat = 47 := by have := eq_of_beq h; omega
  exact UInt8.toNat.inj this
theorem no_stroke (c : UInt8) (h : (((c.toNat : Int)) == 47) = false) : c ≠ 47 := by
  rintro rfl; exact absurd h (by decide)
theorem spl_next_no (s : ByteArray) (k : Nat) (h : k < s.size) (L : List (List UInt8)) (x : List UInt8) (e : spl (s.data.toList.take k) = L ++ [x]) (hc : (((s[k].toNat : Int)) == 47) = false) :
    spl (s.data.toList.take (k + 1)) = L ++ [x ++ [s[k]]] := by
  rw [take_at s k h, spl_snoc _ _ _ _ e, if_neg (no_stroke _ hc)]
theorem spl_next_yes (s : ByteArray) (k : Nat) (h : k < s.size) (L : List (List UInt8)) (x : List UInt8) (e : spl (s.data.toList.take k) = L ++ [x]) (hc : (((s[k].toNat : Int)) == 47) = true) :
    spl (s.data.toList.take (k + 1)) = (L ++ [x]) ++ [[]] := by
  rw [take_at s k h, spl_snoc _ _ _ _ e, if_pos (is_stroke _ hc)]
theorem append_mk (x : List UInt8) (c : UInt8) : (ByteArray.mk x.toArray ++ ByteArray.mk #[c]) = ⟨(x ++ [c]).toArray⟩ := by
  apply ByteArray.ext; simp
end Go.Proofs.Ytgbcgchnnmgmfaa.M
