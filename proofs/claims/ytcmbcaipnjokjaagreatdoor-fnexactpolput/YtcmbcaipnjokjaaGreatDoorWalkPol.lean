
/-
  Rows of items of a pool: what it is that a slice reads as items; the walks of the exact laws' own helpers on them: 'szPolItem', 'szPolItemS', 'toPolItem', 'eqPolItem'. No condition but those named.
-/
import Derived.Test.YtcmbcaipnjokjaaGreatDoorBase
import Derived.OwnWalk
import Derived.Below
import Derived.BigQuiet
import Derived.Deep.QuietTactic
import Derived.Deep.RegionWith
namespace Go.Proofs.YtcmbcaipnjokjaaGreatDoor.W
open Go.RowKit

/-- an item: a number and a text -/
structure PI where
  id : Int
  tx : ByteArray

/-- the cells of items, one behind the other -/
def cellsP (L : List PI) : List Value := L.flatMap fun x => [.int .i64 x.id, .string x.tx]
theorem cellsP_length (L : List PI) : (cellsP L).length = L.length * 2 := by
  induction L with
  | nil => rfl
  | cons x l ih => simp [cellsP] at *; omega
theorem cellsP_snoc (L : List PI) (x : PI) : cellsP (L ++ [x]) = cellsP L ++ [.int .i64 x.id, .string x.tx] := by simp [cellsP]
theorem cellsP_get (L : List PI) (j : Nat) (h : j < L.length) : (cellsP L)[j * 2]? = some (.int .i64 (L[j]).id) ∧ (cellsP L)[j * 2 + 1]? = some (.string (L[j]).tx) := by
  induction L generalizing j with
  | nil => simp at h
  | cons x l ih =>
    have e : cellsP (x :: l) = .int .i64 x.id :: .string x.tx :: cellsP l := by simp [cellsP]
    rw [e]
    cases j with
    | zero => simp
    | succ j =>
      have := ih j (by simpa using h)
      rw [show (j + 1) * 2 = j * 2 + 1 + 1 by omega]
      simpa using this

/-- the slice at A reads as the items L; its block lies below B -/
def RdP (B : Nat) (w : World) (A : Option Addr) (L : List PI) : Prop :=
  ∀ j (h : j < L.length), ∃ b o, A = some ⟨b, o, none⟩ ∧ b < B ∧ w.cell? ⟨b, o + j * 2, none⟩ = some (.int .i64 (L[j]).id) ∧ w.cell? ⟨b, o + j * 2 + 1, none⟩ = some (.string (L[j]).tx)
theorem RdP.below {B B' : Nat} {w w' : World} {A : Option Addr} {L : List PI} (h : RdP B w A L) (hb : Below B' w w') (hB : B ≤ B') : RdP B w' A L := fun j hj => by
  obtain ⟨b, o, e, hl, c1, c2⟩ := h j hj
  exact ⟨b, o, e, hl, (hb.cell (p := ⟨b, _, none⟩) (by show b < B'; omega)).trans c1, (hb.cell (p := ⟨b, _, none⟩) (by show b < B'; omega)).trans c2⟩
theorem RdP.mono {B B' : Nat} {w : World} {A : Option Addr} {L : List PI} (h : RdP B w A L) (hB : B ≤ B') : RdP B' w A L := fun j hj => by
  obtain ⟨b, o, e, hl, c⟩ := h j hj
  exact ⟨b, o, e, by omega, c⟩
theorem RdP.up {w w' : World} {A : Option Addr} {L : List PI} (h : RdP w.heap.size w A L) (hb : Below w.heap.size w w') : RdP w'.heap.size w' A L := (h.below hb (Nat.le_refl _)).mono hb.size
/-- a row that the call made reads as what it holds -/
theorem rdP_of_own {w : World} {base : Nat} {e : TypeId} {v : Value} {L : List PI} (h : w.ownsRow base e 2 v L.length (cellsP L)) : ∃ A c, v = .slice A L.length c ∧ RdP w.heap.size w A L := by
  have hl := h.lt
  rcases h.2 with ⟨rfl, hn⟩ | ⟨g, cap, cur, rfl, _⟩
  · exact ⟨none, 0, by rw [hn], fun j hj => by omega⟩
  · refine ⟨some ⟨g, 0, none⟩, cap, rfl, fun j hj => ⟨g, 0, rfl, (hl g rfl).2, ?_, ?_⟩⟩
    · rw [Nat.zero_add, h.cellAt (j * 2) (by omega)]; exact (cellsP_get L j hj).1
    · rw [Nat.zero_add, h.cellAt (j * 2 + 1) (by omega)]; exact (cellsP_get L j hj).2

/-- how many bytes the texts have -/
def szP (L : List PI) : Nat := (L.map fun x => x.tx.size).sum
theorem szP_snoc (L : List PI) (j : Nat) (h : j < L.length) : szP (L.take (j + 1)) = szP (L.take j) + (L[j]).tx.size := by
  unfold szP
  rw [List.take_succ_eq_append_getElem h]
  simp only [List.map_append, List.sum_append, List.map_cons, List.map_nil, List.sum_cons, List.sum_nil, Nat.add_zero]
theorem szP_le (L : List PI) (j : Nat) : szP (L.take j) ≤ szP L := by
  unfold szP
  conv => rhs; rw [← List.take_append_drop j L]
  simp only [List.map_append, List.sum_append]
  omega

set_option maxHeartbeats 400000 in
theorem szPolItem_fits (i : Int) (t : ByteArray) (left : Nat) (w : World) (hl : left ≤ 1048576) (h : t.size ≤ left) :
    Calls Tryz.prog 24 #[.agg #[.int .i64 i, .string t], .int .i64 left] w fun e w' => e = .returned (.int .i64 ((left - t.size : Nat) : Int)) ∧ Below w.heap.size w w' := by
  go_enter Tryz.func24, Tryz.ntmps24
  go_wp2
  go_ret
  exact ⟨ret_int (by go_num), (Below.refl _ _).alloc (Nat.le_refl _) _⟩

set_option maxHeartbeats 400000 in
theorem szPolItem_over (i : Int) (t : ByteArray) (left : Nat) (w : World) (hl : left ≤ 1048576) (ht : t.size ≤ maxLen) (h : left < t.size) :
    Calls Tryz.prog 24 #[.agg #[.int .i64 i, .string t], .int .i64 left] w fun e w' => e = .returned (.int .i64 (-1)) ∧ Below w.heap.size w w' := by
  unfold maxLen at ht
  go_enter Tryz.func24, Tryz.ntmps24
  go_wp2
  go_ret
  exact ⟨rfl, (Below.refl _ _).alloc (Nat.le_refl _) _⟩

set_option maxHeartbeats 400000 in
theorem toPolItem_any (i : Int) (t : ByteArray) (w : World) :
    Calls Tryz.prog 28 #[.agg #[.int .i64 i, .string t]] w fun e w' => e = .returned (.agg #[.int .i64 i, .string t]) ∧ Below w.heap.size w w' := by
  go_enter Tryz.func28, Tryz.ntmps28
  go_wp2
  refine bodyPost_ret (v := .agg #[.int .i64 i, .string t]) (by simp [results, Tryz.results28, go_sem]) rfl ?_
  exact ⟨rfl, (((Below.refl _ _).alloc (Nat.le_refl _) _).alloc (by simp) _).alloc (by simp; omega) _⟩

set_option maxHeartbeats 400000 in
theorem eqPolItem_same (i : Int) (t : ByteArray) (w : World) :
    Calls Tryz.prog 32 #[.agg #[.int .i64 i, .string t], .agg #[.int .i64 i, .string t]] w fun e w' => e = .returned (.bool true) ∧ Below w.heap.size w w' := by
  go_enter Tryz.func32, Tryz.ntmps32
  go_wp2
  go_ret
  exact ⟨rfl, ((Below.refl _ _).alloc (Nat.le_refl _) _).alloc (by simp) _⟩
end Go.Proofs.YtcmbcaipnjokjaaGreatDoor.W
