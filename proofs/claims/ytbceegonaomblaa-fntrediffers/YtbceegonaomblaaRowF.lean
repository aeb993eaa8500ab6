
/-
  Rows of TreFile: what it is that a slice reads as such a row; the walks of the exact laws' own helpers 'sz', 'to' and 'eq' on them. No condition but those named. (Written by genstruct.py.)
-/
import Derived.Test.YtbceegonaomblaaBase
import Derived.Test.YtbceegonaomblaaMathRow
import Derived.OwnWalk
import Derived.Below
import Derived.BigQuiet
import Derived.Deep.QuietTactic
import Derived.Deep.RegionWith
namespace Go.Proofs.Ytbceegonaomblaa.W
open Go.RowKit

structure TF where
  pa : ByteArray
  by_ : ByteArray

def cellsF (L : List TF) : List Value := L.flatMap fun x => [.string x.pa, .string x.by_]
theorem cellsF_cons (x : TF) (l : List TF) : cellsF (x :: l) = .string x.pa :: .string x.by_ :: cellsF l := by simp [cellsF]
theorem cellsF_length (L : List TF) : (cellsF L).length = L.length * 2 := by
  induction L with
  | nil => rfl
  | cons x l ih => rw [cellsF_cons]; simp; omega
theorem cellsF_snoc (L : List TF) (x : TF) : cellsF (L ++ [x]) = cellsF L ++ [.string x.pa, .string x.by_] := by simp [cellsF]
theorem cellsF_get (L : List TF) (j : Nat) (h : j < L.length) : (cellsF L)[j * 2]? = some (.string (L[j]).pa) ∧ (cellsF L)[j * 2 + 1]? = some (.string (L[j]).by_) := by
  induction L generalizing j with
  | nil => simp at h
  | cons x l ih =>
    rw [cellsF_cons]
    cases j with
    | zero => simp
    | succ j =>
      have := ih j (by simpa using h)
      rw [show (j + 1) * 2 = j * 2 + 1 + 1 by omega]
      simpa using this
def RdF (B : Nat) (w : World) (A : Option Addr) (L : List TF) : Prop :=
  ∀ j (h : j < L.length), ∃ b o, A = some ⟨b, o, none⟩ ∧ b < B ∧ w.cell? ⟨b, o + j * 2, none⟩ = some (.string (L[j]).pa) ∧ w.cell? ⟨b, o + j * 2 + 1, none⟩ = some (.string (L[j]).by_)
theorem RdF.below {B B' : Nat} {w w' : World} {A : Option Addr} {L : List TF} (h : RdF B w A L) (hb : Below B' w w') (hB : B ≤ B') : RdF B w' A L := fun j hj => by
  obtain ⟨b, o, e, hl, c1, c2⟩ := h j hj
  exact ⟨b, o, e, hl, (hb.cell (p := ⟨b, _, none⟩) (by show b < B'; omega)).trans c1, (hb.cell (p := ⟨b, _, none⟩) (by show b < B'; omega)).trans c2⟩
theorem RdF.mono {B B' : Nat} {w : World} {A : Option Addr} {L : List TF} (h : RdF B w A L) (hB : B ≤ B') : RdF B' w A L := fun j hj => by
  obtain ⟨b, o, e, hl, c⟩ := h j hj
  exact ⟨b, o, e, by omega, c⟩
theorem RdF.up {w w' : World} {A : Option Addr} {L : List TF} (h : RdF w.heap.size w A L) (hb : Below w.heap.size w w') : RdF w'.heap.size w' A L := (h.below hb (Nat.le_refl _)).mono hb.size
theorem rdF_of_own {w : World} {base : Nat} {e : TypeId} {v : Value} {L : List TF} (h : w.ownsRow base e 2 v L.length (cellsF L)) : ∃ A c, v = .slice A L.length c ∧ RdF w.heap.size w A L := by
  have hl := h.lt
  rcases h.2 with ⟨rfl, hn⟩ | ⟨g, cap, cur, rfl, _⟩
  · exact ⟨none, 0, by rw [hn], fun j hj => by omega⟩
  · refine ⟨some ⟨g, 0, none⟩, cap, rfl, fun j hj => ⟨g, 0, rfl, (hl g rfl).2, ?_, ?_⟩⟩
    · rw [Nat.zero_add, h.cellAt (j * 2) (by omega)]; exact (cellsF_get L j hj).1
    · rw [Nat.zero_add, h.cellAt (j * 2 + 1) (by omega)]; exact (cellsF_get L j hj).2

def szF (L : List TF) : Nat := (L.map fun x => x.pa.size + x.by_.size).sum
theorem szF_snoc (L : List TF) (j : Nat) (h : j < L.length) : szF (L.take (j + 1)) = szF (L.take j) + ((L[j]).pa.size + (L[j]).by_.size) := by
  unfold szF
  rw [List.take_succ_eq_append_getElem h]
  simp only [List.map_append, List.sum_append, List.map_cons, List.map_nil, List.sum_cons, List.sum_nil, Nat.add_zero]
theorem szF_le (L : List TF) (j : Nat) : szF (L.take j) ≤ szF L := by
  unfold szF
  conv => rhs; rw [← List.take_append_drop j L]
  simp only [List.map_append, List.sum_append]
  omega

theorem infoF : (Try.prog.info? 51).map (fun i => (i.zero, i.size, i.bytes)) = some (some (.agg #[.string ByteArray.empty, .string ByteArray.empty]), 2, 32) := by kernel_rfl
def laidF (L : List TF) (j : Nat) : List Value := cellsF (L.take j) ++ (List.replicate (L.length - j) [Value.string ByteArray.empty, .string ByteArray.empty]).flatten
theorem laidF_zero (L : List TF) : laidF L 0 = (madeCells #[.string ByteArray.empty, .string ByteArray.empty] (L.length * 2)).toList := by
  rw [made_flat _ _ 2 rfl (by decide)]; simp [laidF, cellsF]
theorem laidF_all (L : List TF) : laidF L L.length = cellsF L := by simp [laidF]
theorem laidF_step (L : List TF) (j : Nat) (h : j < L.length) : (((laidF L j).set (j * 2) (.string (L[j]).pa)).set (j * 2 + 1) (.string (L[j]).by_)) = laidF L (j + 1) := by
  unfold laidF
  have hl : (cellsF (L.take j)).length = j * 2 := by rw [cellsF_length]; simp; omega
  obtain ⟨m, hm⟩ : ∃ m, L.length - j = m + 1 := ⟨L.length - j - 1, by omega⟩
  have hm' : L.length - (j + 1) = m := by omega
  rw [hm, hm', List.replicate_succ, List.flatten_cons, List.take_succ_eq_append_getElem h, cellsF_snoc]
  rw [List.set_append_right _ _ (by omega), hl, show j * 2 - j * 2 = 0 by omega]
  simp only [List.cons_append, List.nil_append, List.set_cons_zero]
  rw [List.set_append_right _ _ (by omega), hl, show j * 2 + 1 - j * 2 = 1 by omega]
  simp only [List.set_cons_zero, List.set_cons_succ]
  simp

end Go.Proofs.Ytbceegonaomblaa.W
