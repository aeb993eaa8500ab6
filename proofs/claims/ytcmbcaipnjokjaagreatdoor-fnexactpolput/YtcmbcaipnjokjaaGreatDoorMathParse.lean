
/-
  Plain mathematics of reading a sheet, entry by entry: how much fuel there is makes no difference. No condition.
-/
import Derived.Test.YtcmbcaipnjokjaaGreatDoorMathObj2
namespace Go.Proofs.YtcmbcaipnjokjaaGreatDoor.M
open Go.RowKit

/-- all entries of a text -/
def parse (l : List UInt8) : Option (List En) := parseF (l.length + 1) l
theorem parse_fuel : ∀ (n f : Nat) (l : List UInt8), l.length ≤ n → l.length < f → parseF f l = parseF (l.length + 1) l
  | _, 0, _, _, h => by omega
  | n, f + 1, [], _, _ => by simp [parseF]
  | 0, f + 1, c :: l, h, _ => by simp at h
  | n + 1, f + 1, c :: l, hn, hf => by
    show (match cutL (c :: l) with | none => none | some (e, r) => (parseF f r).map (e :: ·)) = (match cutL (c :: l) with | none => none | some (e, r) => (parseF (c :: l).length r).map (e :: ·))
    cases hc : cutL (c :: l) with
    | none => rfl
    | some x =>
      obtain ⟨e, r⟩ := x
      obtain ⟨_, hr⟩ := enc_cut _ _ _ hc
      simp only [List.length_cons] at hr hn hf ⊢
      rw [parse_fuel n f r (by omega) (by omega), parse_fuel n (l.length + 1) r (by omega) (by omega)]
theorem parse_nil : parse [] = some [] := rfl
theorem parse_bad (l : List UInt8) (hl : l ≠ []) (h : cutL l = none) : parse l = none := by
  cases l with
  | nil => exact absurd rfl hl
  | cons c l => show (match cutL (c :: l) with | none => none | some (e, r) => (parseF (c :: l).length r).map (e :: ·)) = none; rw [h]
theorem parse_cut (l : List UInt8) (hl : l ≠ []) (e : En) (r : List UInt8) (h : cutL l = some (e, r)) : parse l = (parse r).map (e :: ·) := by
  cases l with
  | nil => exact absurd rfl hl
  | cons c l =>
    obtain ⟨_, hr⟩ := enc_cut _ _ _ h
    show (match cutL (c :: l) with | none => none | some (e, r) => (parseF (c :: l).length r).map (e :: ·)) = _
    rw [h]
    simp only
    rw [parse_fuel _ (c :: l).length r (Nat.le_refl _) hr]; rfl
theorem cut_len (l : List UInt8) (e : En) (r : List UInt8) (h : cutL l = some (e, r)) : r.length + 9 ≤ l.length ∧ e.nm.length ≤ l.length := by
  unfold cutL at h
  split at h
  · cases h
  · rename_i hlen
    split at h
    · cases h
    · rename_i c t hd
      split at h
      · split at h
        · simp only [Option.some.injEq, Prod.mk.injEq] at h
          obtain ⟨rfl, rfl⟩ := h
          have hl : t.length + 1 = l.length - letN l := by
            have := congrArg List.length hd
            simp at this; omega
          simp
          omega
        · cases h
      · cases h
theorem sheetI_parse (l : List UInt8) : sheetI l = match parse l with
    | some es => if okL es then some es else none
    | none => none := by
  unfold sheetI parse
  cases parseF (l.length + 1) l <;> rfl
end Go.Proofs.YtcmbcaipnjokjaaGreatDoor.M
