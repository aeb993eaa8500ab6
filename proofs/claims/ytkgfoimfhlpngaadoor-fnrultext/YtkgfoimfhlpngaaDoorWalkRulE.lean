
/-
  Whether two rules are the same, as the model asks it; the walks of the specification's l5Same and of slices.Index and slices.Contains at rules. At most 1048576 rules.
-/
import Derived.Test.YtkgfoimfhlpngaaDoorWalkRul2
import Derived.Test.YtkgfoimfhlpngaaDoorMathExt
import Derived.Test.YtkgfoimfhlpngaaDoorMathTxt
import Derived.Laws.StructEq
namespace Go.Proofs.YtkgfoimfhlpngaaDoor.W
open Go.RowKit

/-- two rules are the same -/
def eqR (x y : RR) : Bool := (x.user == y.user) && ((x.ref.toList == y.ref.toList) && ((x.path.toList == y.path.toList) && (x.write == y.write)))
theorem eqR_iff (x y : RR) : eqR x y = true ↔ x = y := by
  obtain ⟨a, b, c, d⟩ := x
  obtain ⟨a', b', c', d'⟩ := y
  unfold eqR
  have e : ∀ p q : ByteArray, p.toList = q.toList ↔ p = q := fun p q => by
    rw [ByteArray.toList_eq, ByteArray.toList_eq]
    constructor
    · intro h; apply ByteArray.ext; exact Array.ext' (by simpa using h)
    · intro h; rw [h]
  simp [e]
theorem eqR_self (x : RR) : eqR x x = true := (eqR_iff x x).2 rfl
theorem eqR_comm (x y : RR) : eqR x y = eqR y x := by
  rw [Bool.eq_iff_iff, eqR_iff, eqR_iff]; exact eq_comm
theorem run_eqR (w : World) (x y : RR) : (binOp .eql 23 (.agg #[.int .i64 x.user, .string x.ref, .string x.path, .bool x.write]) (.agg #[.int .i64 y.user, .string y.ref, .string y.path, .bool y.write])).run Tryd.prog w = .ok (.bool (eqR x y)) w := by
  have u1 := Tryd.underlying3
  have a1 := Tryd.isAgg3
  have z1 := Tryd.sizeOf3
  have u2 := Tryd.underlying9
  have a2 := Tryd.isAgg9
  have z2 := Tryd.sizeOf9
  have u3 := Tryd.underlying4
  have a3 := Tryd.isAgg4
  have z3 := Tryd.sizeOf4
  have hS : Tryd.prog.underlying 23 = some (.struct (Tryd.prog.fieldsOf 23)) := by kernel_rfl
  have hp : Tryd.prog.stoodInHeld 23 = false := by kernel_rfl
  rw [run_eql_struct, show (10000 : Nat) = 9999 + 1 from rfl, run_equalIn_agg w 9999 23 _ _ hS hp]
  simp only [Program.fieldsOf, Tryd.underlying23]
  go_simp
  unfold eqR
  cases h1 : (x.user == y.user) <;> cases h2 : (x.ref.toList == y.ref.toList) <;> cases h3 : (x.path.toList == y.path.toList) <;> cases h4 : x.write <;> cases h5 : y.write <;> simp_all
theorem run_neR (w : World) (x y : RR) : (binOp .neq 23 (.agg #[.int .i64 x.user, .string x.ref, .string x.path, .bool x.write]) (.agg #[.int .i64 y.user, .string y.ref, .string y.path, .bool y.write])).run Tryd.prog w = .ok (.bool (!eqR x y)) w := by
  have h := run_eqR w x y
  rw [run_eql_struct] at h
  rw [run_neq_struct]
  revert h
  generalize (Op.equalIn 10000 23 (.agg #[.int .i64 x.user, .string x.ref, .string x.path, .bool x.write]) (.agg #[.int .i64 y.user, .string y.ref, .string y.path, .bool y.write])).run Tryd.prog w = r
  intro h
  cases r with
  | ok b w' => simp at h ⊢; exact ⟨by rw [h.1], h.2⟩
  | halt x w' => simp [Result.andThen] at h
theorem guardR : Tryd.prog.eqGuardType Tryd.prog.depth 23 = false := by kernel_rfl

theorem any_stepE {α : Type} (L : List α) (P : α → Bool) (j : Nat) (h : j < L.length) : (L.drop j).any P = (P L[j] || (L.drop (j + 1)).any P) := by
  rw [List.drop_eq_getElem_cons h]; rfl

end Go.Proofs.YtkgfoimfhlpngaaDoor.W
