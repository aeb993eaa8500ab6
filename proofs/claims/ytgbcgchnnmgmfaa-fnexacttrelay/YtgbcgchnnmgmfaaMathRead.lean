
/-
  Plain mathematics of reading an id's digits. No condition.
-/
import Derived.WalkKit
import Derived.Lib.Bytealg
import Derived.Test.YtgbcgchnnmgmfaaMathHex
namespace Go.Proofs.Ytgbcgchnnmgmfaa.M
open Go.RowKit

/-- the number of a digit; -1 of any other byte -/
def hexV (c : UInt8) : Int := if 48 ≤ c.toNat ∧ c.toNat ≤ 57 then (c.toNat : Int) - 48 else if 97 ≤ c.toNat ∧ c.toNat ≤ 102 then (c.toNat : Int) - 87 else -1
def rdF : Nat → List UInt8 → Option Nat
  | acc, [] => some acc
  | acc, c :: r => if hexV c < 0 then none else rdF (acc * 16 + (hexV c).toNat) r
/-- the number that eight digits are, 0 if they are none -/
def rdN (l : List UInt8) : Nat := if l.length = 8 then (rdF 0 l).getD 0 else 0
def rdB (l : List UInt8) : Bool := decide (0 < rdN l)

theorem hexV_bd (c : UInt8) : -1 ≤ hexV c ∧ hexV c ≤ 15 := by unfold hexV; split <;> (try split) <;> omega
theorem idx_hex : ∀ c : UInt8, Lib.indexByte [48, 49, 50, 51, 52, 53, 54, 55, 56, 57, 97, 98, 99, 100, 101, 102] c = hexV c := by
  have h : ∀ n : Fin 256, Lib.indexByte [48, 49, 50, 51, 52, 53, 54, 55, 56, 57, 97, 98, 99, 100, 101, 102] (UInt8.ofNat n.val) = hexV (UInt8.ofNat n.val) := by decide +kernel
  intro c
  have := h ⟨c.toNat, c.toNat_lt⟩
  simpa using this
theorem rdF_none (m : Nat) (c : UInt8) (r : List UInt8) (h : hexV c < 0) : rdF m (c :: r) = none := by simp [rdF, h]
theorem rdF_some (m : Nat) (c : UInt8) (r : List UInt8) (h : ¬ hexV c < 0) : rdF m (c :: r) = rdF (m * 16 + (hexV c).toNat) r := by simp [rdF, h]
theorem drop_at (s : ByteArray) (k : Nat) (h : k < s.size) : s.data.toList.drop k = s[k] :: s.data.toList.drop (k + 1) := by
  rw [List.drop_eq_getElem_cons (by simpa using h)]; rfl
theorem rdN_short (l : List UInt8) (h : ¬ l.length = 8) : rdN l = 0 := by simp [rdN, h]
theorem rdN_no (l : List UInt8) (h : l.length = 8) (h2 : rdF 0 l = none) : rdN l = 0 := by simp [rdN, h, h2]
theorem rdN_yes (l : List UInt8) (m : Nat) (h : l.length = 8) (h2 : rdF 0 l = some m) : rdN l = m := by simp [rdN, h, h2]
theorem rdB_of0 (l : List UInt8) (h : rdN l = 0) : rdB l = false := by simp [rdB, h]
theorem pow_step (m k : Nat) (v : Int) (h : m < 16 ^ k) (h1 : 0 ≤ v) (h2 : v ≤ 15) : m * 16 + v.toNat < 16 ^ (k + 1) := by
  rw [Nat.pow_succ]; omega
end Go.Proofs.Ytgbcgchnnmgmfaa.M
