
/-
  Rows of TreEdit: what it is that a slice reads as such a row; the walks of the exact laws' own helpers 'sz', 'to' and 'eq' on them. No condition but those named. (Written by genstruct.py.)
-/
import Derived.Test.YtbceegonaomblaaBase
import Derived.Test.YtbceegonaomblaaMathRow
import Derived.OwnWalk
import Derived.Below
import Derived.BigQuiet
import Derived.Deep.QuietTactic
import Derived.Deep.RegionWith
namespace Go.Proofs.Ytbceegonaomblaa.W
open Go.RowKit

structure TE where
  pa : ByteArray
  by_ : ByteArray
  gone : Bool

def cellsE (L : List TE) : List Value := L.flatMap fun x => [.string x.pa, .string x.by_, .bool x.gone]
theorem cellsE_cons (x : TE) (l : List TE) : cellsE (x :: l) = .string x.pa :: .string x.by_ :: .bool x.gone :: cellsE l := by simp [cellsE]
theorem cellsE_length (L : List TE) : (cellsE L).length = L.length * 3 := by
  induction L with
  | nil => rfl
  | cons x l ih => rw [cellsE_cons]; simp; omega
theorem cellsE_snoc (L : List TE) (x : TE) : cellsE (L ++ [x]) = cellsE L ++ [.string x.pa, .string x.by_, .bool x.gone] := by simp [cellsE]
theorem cellsE_get (L : List TE) (j : Nat) (h : j < L.length) : (cellsE L)[j * 3]? = some (.string (L[j]).pa) ∧ (cellsE L)[j * 3 + 1]? = some (.string (L[j]).by_) ∧ (cellsE L)[j * 3 + 2]? = some (.bool (L[j]).gone) := by
  induction L generalizing j with
  | nil => simp at h
  | cons x l ih =>
    rw [cellsE_cons]
    cases j with
    | zero => simp
    | succ j =>
      have := ih j (by simpa using h)
      rw [show (j + 1) * 3 = j * 3 + 1 + 1 + 1 by omega]
      simpa using this
def RdE (B : Nat) (w : World) (A : Option Addr) (L : List TE) : Prop :=
  ∀ j (h : j < L.length), ∃ b o, A = some ⟨b, o, none⟩ ∧ b < B ∧ w.cell? ⟨b, o + j * 3, none⟩ = some (.string (L[j]).pa) ∧ w.cell? ⟨b, o + j * 3 + 1, none⟩ = some (.string (L[j]).by_) ∧ w.cell? ⟨b, o + j * 3 + 2, none⟩ = some (.bool (L[j]).gone)
theorem RdE.below {B B' : Nat} {w w' : World} {A : Option Addr} {L : List TE} (h : RdE B w A L) (hb : Below B' w w') (hB : B ≤ B') : RdE B w' A L := fun j hj => by
  obtain ⟨b, o, e, hl, c1, c2, c3⟩ := h j hj
  exact ⟨b, o, e, hl, (hb.cell (p := ⟨b, _, none⟩) (by show b < B'; omega)).trans c1, (hb.cell (p := ⟨b, _, none⟩) (by show b < B'; omega)).trans c2, (hb.cell (p := ⟨b, _, none⟩) (by show b < B'; omega)).trans c3⟩
theorem RdE.mono {B B' : Nat} {w : World} {A : Option Addr} {L : List TE} (h : RdE B w A L) (hB : B ≤ B') : RdE B' w A L := fun j hj => by
  obtain ⟨b, o, e, hl, c⟩ := h j hj
  exact ⟨b, o, e, by omega, c⟩
theorem RdE.up {w w' : World} {A : Option Addr} {L : List TE} (h : RdE w.heap.size w A L) (hb : Below w.heap.size w w') : RdE w'.heap.size w' A L := (h.below hb (Nat.le_refl _)).mono hb.size
theorem rdE_of_own {w : World} {base : Nat} {e : TypeId} {v : Value} {L : List TE} (h : w.ownsRow base e 3 v L.length (cellsE L)) : ∃ A c, v = .slice A L.length c ∧ RdE w.heap.size w A L := by
  have hl := h.lt
  rcases h.2 with ⟨rfl, hn⟩ | ⟨g, cap, cur, rfl, _⟩
  · exact ⟨none, 0, by rw [hn], fun j hj => by omega⟩
  · refine ⟨some ⟨g, 0, none⟩, cap, rfl, fun j hj => ⟨g, 0, rfl, (hl g rfl).2, ?_, ?_, ?_⟩⟩
    · rw [Nat.zero_add, h.cellAt (j * 3) (by omega)]; exact (cellsE_get L j hj).1
    · rw [Nat.zero_add, h.cellAt (j * 3 + 1) (by omega)]; exact (cellsE_get L j hj).2.1
    · rw [Nat.zero_add, h.cellAt (j * 3 + 2) (by omega)]; exact (cellsE_get L j hj).2.2

def szE (L : List TE) : Nat := (L.map fun x => x.pa.size + x.by_.size).sum
theorem szE_snoc (L : List TE) (j : Nat) (h : j < L.length) : szE (L.take (j + 1)) = szE (L.take j) + ((L[j]).pa.size + (L[j]).by_.size) := by
  unfold szE
  rw [List.take_succ_eq_append_getElem h]
  simp only [List.map_append, List.sum_append, List.map_cons, List.map_nil, List.sum_cons, List.sum_nil, Nat.add_zero]
theorem szE_le (L : List TE) (j : Nat) : szE (L.take j) ≤ szE L := by
  unfold szE
  conv => rhs; rw [← List.take_append_drop j L]
  simp only [List.map_append, List.sum_append]
  omega

theorem infoE : (Try.prog.info? 43).map (fun i => (i.zero, i.size, i.bytes)) = some (some (.agg #[.string ByteArray.empty, .string ByteArray.empty, .bool false]), 3, 40) := by kernel_rfl
def laidE (L : List TE) (j : Nat) : List Value := cellsE (L.take j) ++ (List.replicate (L.length - j) [Value.string ByteArray.empty, .string ByteArray.empty, .bool false]).flatten
theorem laidE_zero (L : List TE) : laidE L 0 = (madeCells #[.string ByteArray.empty, .string ByteArray.empty, .bool false] (L.length * 3)).toList := by
  rw [made_flat _ _ 3 rfl (by decide)]; simp [laidE, cellsE]
theorem laidE_all (L : List TE) : laidE L L.length = cellsE L := by simp [laidE]
theorem laidE_step (L : List TE) (j : Nat) (h : j < L.length) : ((((laidE L j).set (j * 3) (.string (L[j]).pa)).set (j * 3 + 1) (.string (L[j]).by_)).set (j * 3 + 2) (.bool (L[j]).gone)) = laidE L (j + 1) := by
  unfold laidE
  have hl : (cellsE (L.take j)).length = j * 3 := by rw [cellsE_length]; simp; omega
  obtain ⟨m, hm⟩ : ∃ m, L.length - j = m + 1 := ⟨L.length - j - 1, by omega⟩
  have hm' : L.length - (j + 1) = m := by omega
  rw [hm, hm', List.replicate_succ, List.flatten_cons, List.take_succ_eq_append_getElem h, cellsE_snoc]
  rw [List.set_append_right _ _ (by omega), hl, show j * 3 - j * 3 = 0 by omega]
  simp only [List.cons_append, List.nil_append, List.set_cons_zero]
  rw [List.set_append_right _ _ (by omega), hl, show j * 3 + 1 - j * 3 = 1 by omega]
  simp only [List.set_cons_zero, List.set_cons_succ]
  rw [List.set_append_right _ _ (by omega), hl, show j * 3 + 2 - j * 3 = 2 by omega]
  simp only [List.set_cons_zero, List.set_cons_succ]
  simp

end Go.Proofs.Ytbceegonaomblaa.W
