
/-
  Of two texts one comes first, or they are one, as the model asks it. No condition.
-/
import Derived.Test.YtgbcgchnnmgmfaaBase
namespace Go.Proofs.Ytgbcgchnnmgmfaa.W
open Go.RowKit
theorem blTri : ∀ (x y : List UInt8), (Op.bytesLess x y || x == y) = !(Op.bytesLess y x) := by
  intro x
  induction x with
  | nil => intro y; cases y <;> rfl
  | cons a x ih =>
    intro y
    cases y with
    | nil => rfl
    | cons b y =>
      have h := ih y
      by_cases e : a = b
      · subst e
        have hlt : ¬ a < a := UInt8.lt_irrefl a
        simp only [Op.bytesLess, hlt, decide_false, beq_self_eq_true, Bool.true_and, Bool.false_or]
        rw [← h]
        simp [BEq.beq, List.beq]
      · have hb : (a == b) = false := by simpa using e
        have hb' : (b == a) = false := by simpa using Ne.symm e
        have hl : ((a :: x) == (b :: y)) = false := by simp [e]
        simp only [Op.bytesLess, hb, hb', hl, Bool.false_and, Bool.or_false]
        have : (a < b) ∨ (b < a) := by
          have h1 : a.toNat ≠ b.toNat := fun q => e (UInt8.toNat.inj q)
          rw [UInt8.lt_iff_toNat_lt, UInt8.lt_iff_toNat_lt]; omega
        rcases this with q | q
        · have q' : ¬ b < a := by rw [UInt8.lt_iff_toNat_lt] at *; omega
          simp [q, q']
        · have q' : ¬ a < b := by rw [UInt8.lt_iff_toNat_lt] at *; omega
          simp [q, q']

end Go.Proofs.Ytgbcgchnnmgmfaa.W
