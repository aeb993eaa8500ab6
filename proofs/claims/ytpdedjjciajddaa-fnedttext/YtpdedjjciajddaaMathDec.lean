
/-
  Plain mathematics of bytes read from their digits. No condition.
-/
import Derived.Test.YtpdedjjciajddaaMathRead
import Derived.Test.YtpdedjjciajddaaWalkEdtT
namespace Go.Proofs.Ytpdedjjciajddaa.M
open Go.RowKit

/-- the byte of two digits -/
def two (a b : UInt8) : UInt8 := UInt8.ofNat ((hexV a).toNat * 16 + (hexV b).toNat)
/-- the bytes of digits, two each -/
def dec : List UInt8 → Option (List UInt8)
  | [] => some []
  | [_] => none
  | a :: b :: r => if hexV a < 0 ∨ hexV b < 0 then none else (dec r).map (two a b :: ·)
theorem dec_bad (a b : UInt8) (r : List UInt8) (h : hexV a < 0 ∨ hexV b < 0) : dec (a :: b :: r) = none := by
  unfold dec; rw [if_pos h]
theorem dec_good (a b : UInt8) (r : List UInt8) (h : ¬ (hexV a < 0 ∨ hexV b < 0)) : dec (a :: b :: r) = (dec r).map (two a b :: ·) := by
  conv => lhs; unfold dec
  rw [if_neg h]
theorem dec_odd : ∀ (n : Nat) (l : List UInt8), l.length ≤ n → l.length % 2 = 1 → dec l = none
  | 0, [], _, h => by simp at h
  | 0, _ :: _, h, _ => by simp at h
  | n + 1, [], _, h => by simp at h
  | n + 1, [_], _, _ => rfl
  | n + 1, a :: b :: r, hn, h => by
    by_cases hb : hexV a < 0 ∨ hexV b < 0
    · exact dec_bad a b r hb
    · rw [dec_good a b r hb, dec_odd n r (by simp at hn; omega) (by simp at h; omega)]; rfl
theorem dec_len : ∀ (n : Nat) (l b : List UInt8), l.length ≤ n → dec l = some b → 2 * b.length = l.length
  | _, [], b, _, h => by cases h; rfl
  | _, [_], _, _, h => by cases h
  | 0, _ :: _ :: _, _, hn, _ => by simp at hn
  | n + 1, a :: b :: r, x, hn, h => by
    by_cases hb : hexV a < 0 ∨ hexV b < 0
    · rw [dec_bad a b r hb] at h; cases h
    · rw [dec_good a b r hb] at h
      cases hr : dec r with
      | none => rw [hr] at h; cases h
      | some y =>
        rw [hr] at h
        cases h
        have := dec_len n r y (by simp at hn; omega) hr
        simp; omega
theorem drop2 (s : ByteArray) (k : Nat) (h : k + 1 < s.size) : s.data.toList.drop k = s[k]'(by omega) :: s[k + 1] :: s.data.toList.drop (k + 2) := by
  rw [drop_at s k (by omega), drop_at s (k + 1) h]
/-- what the program reads of digits, and what the specification does -/
def rbB (d : ByteArray) : Option (List UInt8) := if d.data.toList = [45] then some [] else dec d.data.toList
def lbB (d : ByteArray) : Option (List UInt8) := if d.data.toList = [45] then some [] else if d.size = 0 ∨ 12 < d.size then none else dec d.data.toList
theorem lb_rb (d : ByteArray) (b : List UInt8) (h : lbB d = some b) : rbB d = some b := by
  unfold lbB at h; unfold rbB
  split at h
  · rename_i e; rw [if_pos e]; exact h
  · rename_i e; rw [if_neg e]
    split at h
    · cases h
    · exact h
theorem lb_no (d : ByteArray) (b : List UInt8) (h : lbB d = none) (h2 : rbB d = some b) : (d.size = 0 ∧ b = []) ∨ 6 < b.length := by
  unfold lbB at h; unfold rbB at h2
  split at h
  · cases h
  · rename_i e
    rw [if_neg e] at h2
    split at h
    · rename_i k
      rcases k with k | k
      · left
        refine ⟨k, ?_⟩
        have : d.data.toList = [] := List.length_eq_zero_iff.1 (by simpa using k)
        rw [this] at h2; cases h2; rfl
      · right
        have := dec_len _ _ _ (Nat.le_refl _) h2
        simp at this
        have e2 : d.data.size = d.size := rfl
        omega
    · rw [h] at h2; cases h2
theorem idxc (c : UInt8) (l : List UInt8) : (Lib.indexByte l c = -1 ∧ ∀ j : Nat, l[j]? ≠ some c) ∨ ∃ k : Nat, Lib.indexByte l c = k ∧ k < l.length ∧ l[k]? = some c ∧ ∀ j : Nat, j < k → l[j]? ≠ some c := by
  induction l with
  | nil => left; exact ⟨rfl, fun j => by simp⟩
  | cons x l ih =>
    by_cases e : x = c
    · right
      refine ⟨0, ?_, by simp, by simp [e], fun j h => by omega⟩
      simp [Lib.indexByte, e]
    · rcases ih with ⟨h1, h2⟩ | ⟨k, h1, h2, h3, h4⟩
      · left
        refine ⟨?_, fun j => ?_⟩
        · simp [Lib.indexByte, e, h1]
        · cases j with
          | zero => simpa using e
          | succ j => simpa using h2 j
      · right
        refine ⟨k + 1, ?_, by simp; omega, by simpa using h3, fun j hj => ?_⟩
        · simp [Lib.indexByte, e, h1]
        · cases j with
          | zero => simpa using e
          | succ j => simpa using h4 j (by omega)
end Go.Proofs.Ytpdedjjciajddaa.M
