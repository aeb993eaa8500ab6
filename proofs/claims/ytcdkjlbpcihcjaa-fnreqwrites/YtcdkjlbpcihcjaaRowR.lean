
/-
  Rows of RulRule: what it is that a slice reads as such a row; the walks of the exact laws' own helpers 'sz', 'to' and 'eq' on them. No condition but those named. (Written by genstruct.py.)
-/
import Derived.Test.YtcdkjlbpcihcjaaBase
import Derived.Test.YtcdkjlbpcihcjaaMathRow
import Derived.OwnWalk
import Derived.Below
import Derived.BigQuiet
import Derived.Deep.QuietTactic
import Derived.Deep.RegionWith
namespace Go.Proofs.Ytcdkjlbpcihcjaa.W
open Go.RowKit

structure RR where
  user : Int
  ref : ByteArray
  path : ByteArray
  write : Bool

def cellsR (L : List RR) : List Value := L.flatMap fun x => [.int .i64 x.user, .string x.ref, .string x.path, .bool x.write]
theorem cellsR_cons (x : RR) (l : List RR) : cellsR (x :: l) = .int .i64 x.user :: .string x.ref :: .string x.path :: .bool x.write :: cellsR l := by simp [cellsR]
theorem cellsR_length (L : List RR) : (cellsR L).length = L.length * 4 := by
  induction L with
  | nil => rfl
  | cons x l ih => rw [cellsR_cons]; simp; omega
theorem cellsR_snoc (L : List RR) (x : RR) : cellsR (L ++ [x]) = cellsR L ++ [.int .i64 x.user, .string x.ref, .string x.path, .bool x.write] := by simp [cellsR]
theorem cellsR_get (L : List RR) (j : Nat) (h : j < L.length) : (cellsR L)[j * 4]? = some (.int .i64 (L[j]).user) ∧ (cellsR L)[j * 4 + 1]? = some (.string (L[j]).ref) ∧ (cellsR L)[j * 4 + 2]? = some (.string (L[j]).path) ∧ (cellsR L)[j * 4 + 3]? = some (.bool (L[j]).write) := by
  induction L generalizing j with
  | nil => simp at h
  | cons x l ih =>
    rw [cellsR_cons]
    cases j with
    | zero => simp
    | succ j =>
      have := ih j (by simpa using h)
      rw [show (j + 1) * 4 = j * 4 + 1 + 1 + 1 + 1 by omega]
      simpa using this
def RdR (B : Nat) (w : World) (A : Option Addr) (L : List RR) : Prop :=
  ∀ j (h : j < L.length), ∃ b o, A = some ⟨b, o, none⟩ ∧ b < B ∧ w.cell? ⟨b, o + j * 4, none⟩ = some (.int .i64 (L[j]).user) ∧ w.cell? ⟨b, o + j * 4 + 1, none⟩ = some (.string (L[j]).ref) ∧ w.cell? ⟨b, o + j * 4 + 2, none⟩ = some (.string (L[j]).path) ∧ w.cell? ⟨b, o + j * 4 + 3, none⟩ = some (.bool (L[j]).write)
theorem RdR.below {B B' : Nat} {w w' : World} {A : Option Addr} {L : List RR} (h : RdR B w A L) (hb : Below B' w w') (hB : B ≤ B') : RdR B w' A L := fun j hj => by
  obtain ⟨b, o, e, hl, c1, c2, c3, c4⟩ := h j hj
  exact ⟨b, o, e, hl, (hb.cell (p := ⟨b, _, none⟩) (by show b < B'; omega)).trans c1, (hb.cell (p := ⟨b, _, none⟩) (by show b < B'; omega)).trans c2, (hb.cell (p := ⟨b, _, none⟩) (by show b < B'; omega)).trans c3, (hb.cell (p := ⟨b, _, none⟩) (by show b < B'; omega)).trans c4⟩
theorem RdR.mono {B B' : Nat} {w : World} {A : Option Addr} {L : List RR} (h : RdR B w A L) (hB : B ≤ B') : RdR B' w A L := fun j hj => by
  obtain ⟨b, o, e, hl, c⟩ := h j hj
  exact ⟨b, o, e, by omega, c⟩
theorem RdR.up {w w' : World} {A : Option Addr} {L : List RR} (h : RdR w.heap.size w A L) (hb : Below w.heap.size w w') : RdR w'.heap.size w' A L := (h.below hb (Nat.le_refl _)).mono hb.size
theorem rdR_of_own {w : World} {base : Nat} {e : TypeId} {v : Value} {L : List RR} (h : w.ownsRow base e 4 v L.length (cellsR L)) : ∃ A c, v = .slice A L.length c ∧ RdR w.heap.size w A L := by
  have hl := h.lt
  rcases h.2 with ⟨rfl, hn⟩ | ⟨g, cap, cur, rfl, _⟩
  · exact ⟨none, 0, by rw [hn], fun j hj => by omega⟩
  · refine ⟨some ⟨g, 0, none⟩, cap, rfl, fun j hj => ⟨g, 0, rfl, (hl g rfl).2, ?_, ?_, ?_, ?_⟩⟩
    · rw [Nat.zero_add, h.cellAt (j * 4) (by omega)]; exact (cellsR_get L j hj).1
    · rw [Nat.zero_add, h.cellAt (j * 4 + 1) (by omega)]; exact (cellsR_get L j hj).2.1
    · rw [Nat.zero_add, h.cellAt (j * 4 + 2) (by omega)]; exact (cellsR_get L j hj).2.2.1
    · rw [Nat.zero_add, h.cellAt (j * 4 + 3) (by omega)]; exact (cellsR_get L j hj).2.2.2

def szR (L : List RR) : Nat := (L.map fun x => x.ref.size + x.path.size).sum
theorem szR_snoc (L : List RR) (j : Nat) (h : j < L.length) : szR (L.take (j + 1)) = szR (L.take j) + ((L[j]).ref.size + (L[j]).path.size) := by
  unfold szR
  rw [List.take_succ_eq_append_getElem h]
  simp only [List.map_append, List.sum_append, List.map_cons, List.map_nil, List.sum_cons, List.sum_nil, Nat.add_zero]
theorem szR_le (L : List RR) (j : Nat) : szR (L.take j) ≤ szR L := by
  unfold szR
  conv => rhs; rw [← List.take_append_drop j L]
  simp only [List.map_append, List.sum_append]
  omega

theorem infoR : (Try.prog.info? 25).map (fun i => (i.zero, i.size, i.bytes)) = some (some (.agg #[.int .i64 0, .string ByteArray.empty, .string ByteArray.empty, .bool false]), 4, 48) := by kernel_rfl
def laidR (L : List RR) (j : Nat) : List Value := cellsR (L.take j) ++ (List.replicate (L.length - j) [Value.int .i64 0, .string ByteArray.empty, .string ByteArray.empty, .bool false]).flatten
theorem laidR_zero (L : List RR) : laidR L 0 = (madeCells #[.int .i64 0, .string ByteArray.empty, .string ByteArray.empty, .bool false] (L.length * 4)).toList := by
  rw [made_flat _ _ 4 rfl (by decide)]; simp [laidR, cellsR]
theorem laidR_all (L : List RR) : laidR L L.length = cellsR L := by simp [laidR]
theorem laidR_step (L : List RR) (j : Nat) (h : j < L.length) : (((((laidR L j).set (j * 4) (.int .i64 (L[j]).user)).set (j * 4 + 1) (.string (L[j]).ref)).set (j * 4 + 2) (.string (L[j]).path)).set (j * 4 + 3) (.bool (L[j]).write)) = laidR L (j + 1) := by
  unfold laidR
  have hl : (cellsR (L.take j)).length = j * 4 := by rw [cellsR_length]; simp; omega
  obtain ⟨m, hm⟩ : ∃ m, L.length - j = m + 1 := ⟨L.length - j - 1, by omega⟩
  have hm' : L.length - (j + 1) = m := by omega
  rw [hm, hm', List.replicate_succ, List.flatten_cons, List.take_succ_eq_append_getElem h, cellsR_snoc]
  rw [List.set_append_right _ _ (by omega), hl, show j * 4 - j * 4 = 0 by omega]
  simp only [List.cons_append, List.nil_append, List.set_cons_zero]
  rw [List.set_append_right _ _ (by omega), hl, show j * 4 + 1 - j * 4 = 1 by omega]
  simp only [List.set_cons_zero, List.set_cons_succ]
  rw [List.set_append_right _ _ (by omega), hl, show j * 4 + 2 - j * 4 = 2 by omega]
  simp only [List.set_cons_zero, List.set_cons_succ]
  rw [List.set_append_right _ _ (by omega), hl, show j * 4 + 3 - j * 4 = 3 by omega]
  simp only [List.set_cons_zero, List.set_cons_succ]
  simp

end Go.Proofs.Ytcdkjlbpcihcjaa.W
