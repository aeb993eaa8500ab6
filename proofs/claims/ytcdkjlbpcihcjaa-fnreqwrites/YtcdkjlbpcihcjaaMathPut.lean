
/-
  One operation of a region, and the slot that it fills. No condition.
-/
import Derived.Test.YtcdkjlbpcihcjaaMathInv
namespace Go.Proofs.Ytcdkjlbpcihcjaa.W
open Go.RowKit

theorem wpOp_do {P : Program} {ops : Array Oper} {Q : Exit → Act → World → Prop} {i : Nat} {o : Oper} {K : Act → World → Prop} {a : Act} {w : World} (ho : ops[i]? = some o) (hg : o.guard = none) (h : o.wp P a w K Q) : wpOp P ops Q i K a w := by
  unfold wpOp
  rw [ho]
  simp only [Region.wanted, hg, if_true]
  exact .inl h
theorem put_get (a : Act) (d t : Nat) (v : Value) : (a.put (some d) v).tmps[t]?.getD undef = if d = t ∧ t < a.tmps.size then v else a.tmps[t]?.getD undef := by
  show (a.tmps.setIfInBounds d v)[t]?.getD undef = _
  by_cases h : d = t
  · subst h
    by_cases hs : d < a.tmps.size
    · simp [hs]
    · simp [hs]
  · rw [Array.getElem?_setIfInBounds_ne h, if_neg (fun q => h q.1)]
theorem put_size (a : Act) (d : Option Tmp) (v : Value) : (a.put d v).tmps.size = a.tmps.size := by
  cases d with
  | none => rfl
  | some d => show (a.tmps.setIfInBounds d v).size = _; simp
theorem put_defers (a : Act) (d : Option Tmp) (v : Value) : (a.put d v).defers = a.defers := by cases d <;> rfl
end Go.Proofs.Ytcdkjlbpcihcjaa.W
