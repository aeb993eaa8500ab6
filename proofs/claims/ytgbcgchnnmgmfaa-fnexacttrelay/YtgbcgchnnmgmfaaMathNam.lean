
/-
  Plain mathematics of names: letters a to z at the beginning of a text, and which text is a name. No condition.
-/
import Derived.WalkKit
namespace Go.Proofs.Ytgbcgchnnmgmfaa.M

/-- a letter from a to z -/
def low (c : UInt8) : Bool := decide (97 ≤ (c.toNat : Int)) && decide ((c.toNat : Int) ≤ 122)

/-- how many letters a text begins with -/
def letN (l : List UInt8) : Nat := (l.takeWhile low).length

/-- a text is a name -/
def namB (l : List UInt8) : Bool := decide (1 ≤ l.length) && (decide (l.length ≤ 3) && l.all low)

theorem letN_le (l : List UInt8) : letN l ≤ l.length := by
  unfold letN; exact List.Sublist.length_le (List.takeWhile_sublist _)

theorem letN_of (l : List UInt8) (k : Nat) (hk : k ≤ l.length) (h1 : ∀ j, j < k → ∃ c, l[j]? = some c ∧ low c = true)
    (h2 : k = l.length ∨ ∃ c, l[k]? = some c ∧ low c = false) : letN l = k := by
  induction l generalizing k with
  | nil => simp at hk; subst hk; rfl
  | cons a r ih =>
    cases k with
    | zero =>
      rcases h2 with h | ⟨c, hc, hl⟩
      · simp at h
      · simp at hc; subst hc; simp [letN, hl]
    | succ k =>
      obtain ⟨c, hc, hl⟩ := h1 0 (by omega)
      simp at hc; subst hc
      have e : letN r = k := ih k (by simpa using hk) (fun j hj => by simpa using h1 (j + 1) (by omega)) (by simpa using h2)
      simp [letN, hl] at e ⊢; exact e

theorem all_low_iff (l : List UInt8) : l.all low = decide (letN l = l.length) := by
  induction l with
  | nil => rfl
  | cons a r ih =>
    by_cases h : low a = true
    · simp [letN, h] at ih ⊢; rw [ih, Bool.eq_iff_iff]; exact ⟨fun h => by have := of_decide_eq_true h; simp [this], fun h => decide_eq_true (by simpa using h)⟩
    · have h' : low a = false := by simpa using h
      simp [letN, h']

theorem namB_eq (l : List UInt8) : namB l = (decide (1 ≤ l.length) && (decide (l.length ≤ 3) && decide (letN l = l.length))) := by
  unfold namB; rw [all_low_iff]

theorem all_of_idx (l : List UInt8) (h : ∀ j, j < l.length → ∃ c, l[j]? = some c ∧ low c = true) : l.all low = true := by
  rw [all_low_iff]; simp; exact letN_of l l.length (Nat.le_refl _) h (.inl rfl)

theorem not_all_of_idx (l : List UInt8) (k : Nat) (c : UInt8) (h : l[k]? = some c) (hl : low c = false) : l.all low = false := by
  rw [Bool.eq_false_iff]; intro ha
  have := List.all_eq_true.mp ha c (List.mem_of_getElem? h)
  rw [hl] at this; cases this

theorem low_t (c : UInt8) (h1 : 97 ≤ (c.toNat : Int)) (h2 : (c.toNat : Int) ≤ 122) : low c = true := by simp [low, h1, h2]
theorem low_f1 (c : UInt8) (h1 : (c.toNat : Int) < 97) : low c = false := by simp [low]; omega
theorem low_f2 (c : UInt8) (h1 : 122 < (c.toNat : Int)) : low c = false := by simp [low]; omega
theorem low_f (c : UInt8) (h1 : (c.toNat : Int) < 97 ∨ 122 < (c.toNat : Int)) : low c = false := by simp [low]; omega
theorem at_idx (s : ByteArray) (k : Nat) (h : k < s.size) : s.data.toList[k]? = some s[k] := by
  rw [List.getElem?_eq_getElem (by simpa using h)]; rfl
end Go.Proofs.Ytgbcgchnnmgmfaa.M
