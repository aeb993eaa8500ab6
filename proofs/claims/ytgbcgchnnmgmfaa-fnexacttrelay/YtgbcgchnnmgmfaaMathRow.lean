
/-
  What 'make' lays, as a list: the zero value's cells, over and over. No condition.
-/
import Derived.Test.YtgbcgchnnmgmfaaBase
import Derived.OwnWalk
import Derived.Below
namespace Go.Proofs.Ytgbcgchnnmgmfaa.W
open Go.RowKit

theorem flat_len (l : List Value) (n : Nat) : (List.replicate n l).flatten.length = n * l.length := by
  induction n with
  | zero => simp
  | succ n ih => rw [List.replicate_succ, List.flatten_cons, List.length_append, ih, Nat.succ_mul]; omega
theorem flat_get (l : List Value) (n i : Nat) (h : i < n * l.length) : (List.replicate n l).flatten[i]? = l[i % l.length]? := by
  induction n generalizing i with
  | zero => simp at h
  | succ n ih =>
    rw [List.replicate_succ, List.flatten_cons]
    by_cases hi : i < l.length
    · rw [List.getElem?_append_left hi, Nat.mod_eq_of_lt hi]
    · have hge : l.length ≤ i := by omega
      rw [List.getElem?_append_right hge, ih (i - l.length) (by rw [Nat.succ_mul] at h; omega), Nat.mod_eq_sub_mod hge]
theorem made_flat (z : Array Value) (n k : Nat) (hk : z.size = k) (h0 : 0 < k) : (madeCells z (n * k)).toList = (List.replicate n z.toList).flatten := by
  subst hk
  apply List.ext_getElem?
  intro i
  by_cases hi : i < n * z.size
  · rw [flat_get _ _ _ (by simpa using hi)]
    have hm : i % z.size < z.size := Nat.mod_lt _ h0
    simp [madeCells, hi, hm]
  · rw [List.getElem?_eq_none (by simp [madeCells]; omega), List.getElem?_eq_none (by rw [flat_len]; simp; omega)]
/-- a row stays owned where nothing below the heap's old size has turned -/
theorem ownsUnder {w w' : World} {base : Nat} {e : TypeId} {z : Nat} {v : Value} {n : Nat} {xs : List Value} (h : w.ownsRow base e z v n xs) {B : Nat} (hb : Below B w w') (hB : w.heap.size ≤ B) : w'.ownsRow base e z v n xs :=
  h.kept (row := none) ⟨hb.os, hb.tape, hb.output, hb.size, fun q hq _ => hb.block q (by omega)⟩ (by cases h : v.ownBlock <;> simp)
/-- its cells are there -/
theorem ownsCell {w : World} {base : Nat} {e : TypeId} {z g n cap : Nat} {xs : List Value} (h : w.ownsRow base e z (.slice (some ⟨g, 0, none⟩) n cap) n xs) (j : Nat) (hj : j < n * z) : ∃ u, w.cell? ⟨g, j, none⟩ = some u :=
  ⟨_, (h.cellAt j hj).trans (List.getElem?_eq_getElem (by rw [h.1]; exact hj))⟩
end Go.Proofs.Ytgbcgchnnmgmfaa.W
