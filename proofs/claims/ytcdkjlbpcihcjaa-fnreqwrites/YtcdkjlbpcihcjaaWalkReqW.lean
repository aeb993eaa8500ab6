
/-
  ReqWrites of the program and of the specification. No condition.
-/
import Derived.Test.YtcdkjlbpcihcjaaRowQ
namespace Go.Proofs.Ytcdkjlbpcihcjaa.W
open Go.RowKit
def wrB (x : RQ) : Bool := decide (x.kind = 1) || (decide (x.kind = 9) || decide (x.kind = 10))
set_option maxRecDepth 100000 in
set_option maxHeartbeats 1000000 in
theorem writes_spec (x : RQ) (v : Value) (w : World) :
    Calls Try.prog 6 #[.agg (x.at_ v)] w fun e w' => e = .returned (.bool (wrB x)) ∧ Below w.heap.size w w' := by
  obtain ⟨w0, hw0, D, B0⟩ : ∃ w0, w.alloc (.cells (x.at_ v) 27) = w0 ∧ AtQ w0 w.heap.size x v ∧ Below w.heap.size w w0 := ⟨_, rfl, atQ_new w x _ _, (Below.refl _ w).alloc (Nat.le_refl _) _⟩
  have d3 := D.all.2.2.2.1
  clear D
  simp only [RQ.at_] at hw0 ⊢
  unfold wrB
  generalize x.kind = k at *
  go_enter Try.func6, Try.ntmps6
  by_cases h1 : k = 1
  · subst h1
    go_wp2
    go_ret
    exact ⟨rfl, B0⟩
  by_cases h2 : k = 9
  · subst h2
    go_wp2
    go_ret
    exact ⟨rfl, B0⟩
  by_cases h3 : k = 10
  · subst h3
    go_wp2
    go_ret
    exact ⟨rfl, B0⟩
  have q1 : (decide (k = 1) || (decide (k = 9) || decide (k = 10))) = false := by simp [h1, h2, h3]
  rw [q1]
  go_wp2
  go_ret
  exact ⟨ret_bool (by simp [h1, h2, h3]), B0⟩
set_option maxRecDepth 100000 in
set_option maxHeartbeats 1000000 in
theorem writes_impl (x : RQ) (v : Value) (w : World) :
    Calls Try.prog 5 #[.agg (x.at_ v)] w fun e w' => e = .returned (.bool (wrB x)) ∧ Below w.heap.size w w' := by
  obtain ⟨w0, hw0, D, B0⟩ : ∃ w0, w.alloc (.cells (x.at_ v) 27) = w0 ∧ AtQ w0 w.heap.size x v ∧ Below w.heap.size w w0 := ⟨_, rfl, atQ_new w x _ _, (Below.refl _ w).alloc (Nat.le_refl _) _⟩
  have d3 := D.all.2.2.2.1
  clear D
  simp only [RQ.at_] at hw0 ⊢
  unfold wrB
  generalize x.kind = k at *
  go_enter Try.func5, Try.ntmps5
  by_cases h1 : k = 1
  · subst h1
    go_wp2
    go_ret
    exact ⟨rfl, B0⟩
  by_cases h2 : k = 9
  · subst h2
    go_wp2
    go_ret
    exact ⟨rfl, B0⟩
  by_cases h3 : k = 10
  · subst h3
    go_wp2
    go_ret
    exact ⟨rfl, B0⟩
  have q1 : (decide (k = 1) || (decide (k = 9) || decide (k = 10))) = false := by simp [h1, h2, h3]
  rw [q1]
  go_wp2
  go_ret
  exact ⟨ret_bool (by simp [h1, h2, h3]), B0⟩
end Go.Proofs.Ytcdkjlbpcihcjaa.W
