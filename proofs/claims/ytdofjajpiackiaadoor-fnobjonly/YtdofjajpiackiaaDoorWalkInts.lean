
/-
  Rows of numbers: the walks of the exact laws' own 'eqIntS', 'markIntS', 'heldIntS' over rows that a call has made. Rows of at most 1048576 numbers.
-/
import Derived.Test.YtdofjajpiackiaaDoorBase
import Derived.Test.YtdofjajpiackiaaDoorMathOwn
import Derived.OwnWalk
import Derived.Below
import Derived.BigQuiet
import Derived.Deep.QuietTactic
import Derived.Deep.RegionWith
namespace Go.Proofs.YtdofjajpiackiaaDoor.W
open Go.RowKit

def cellsI (L : List Int) : List Value := L.map fun x => .int .i64 x
theorem cellsI_get (L : List Int) (j : Nat) (h : j < L.length) : (cellsI L)[j]? = some (.int .i64 L[j]) := by simp [cellsI, h]
def RdI (B : Nat) (w : World) (A : Option Addr) (L : List Int) : Prop :=
  ∀ j (h : j < L.length), ∃ b o, A = some ⟨b, o, none⟩ ∧ b < B ∧ w.cell? ⟨b, o + j, none⟩ = some (.int .i64 (L[j]))
theorem RdI.below {B B' : Nat} {w w' : World} {A : Option Addr} {L : List Int} (h : RdI B w A L) (hb : Below B' w w') (hB : B ≤ B') : RdI B w' A L := fun j hj => by
  obtain ⟨b, o, e, hl, c1⟩ := h j hj
  exact ⟨b, o, e, hl, (hb.cell (p := ⟨b, _, none⟩) (by show b < B'; omega)).trans c1⟩
theorem RdI.mono {B B' : Nat} {w : World} {A : Option Addr} {L : List Int} (h : RdI B w A L) (hB : B ≤ B') : RdI B' w A L := fun j hj => by
  obtain ⟨b, o, e, hl, c⟩ := h j hj
  exact ⟨b, o, e, by omega, c⟩
theorem RdI.up {w w' : World} {A : Option Addr} {L : List Int} (h : RdI w.heap.size w A L) (hb : Below w.heap.size w w') : RdI w'.heap.size w' A L := (h.below hb (Nat.le_refl _)).mono hb.size
theorem rdI_of_own {w : World} {base : Nat} {e : TypeId} {v : Value} {L : List Int} (h : w.ownsRow base e 1 v L.length (cellsI L)) : ∃ A c, v = .slice A L.length c ∧ RdI w.heap.size w A L := by
  have hl := h.lt
  rcases h.2 with ⟨rfl, hn⟩ | ⟨g, cap, cur, rfl, _⟩
  · exact ⟨none, 0, by rw [hn], fun j hj => by omega⟩
  · refine ⟨some ⟨g, 0, none⟩, cap, rfl, fun j hj => ⟨g, 0, rfl, (hl g rfl).2, ?_⟩⟩
    rw [Nat.zero_add, h.cellAt j (by omega)]; exact cellsI_get L j hj

/-- numbers that rise by one, from k on -/
def mkI (k n : Nat) : List Int := (List.range n).map fun j => ((k + j : Nat) : Int)
theorem mkI_length (k n : Nat) : (mkI k n).length = n := by simp [mkI]
def markedI (L : List Int) (k j : Nat) : List Int := mkI k j ++ L.drop j
theorem markedI_zero (L : List Int) (k : Nat) : markedI L k 0 = L := by simp [markedI, mkI]
theorem markedI_all (L : List Int) (k : Nat) : markedI L k L.length = mkI k L.length := by simp [markedI]
theorem markedI_step (L : List Int) (k j : Nat) (h : j < L.length) : (markedI L k j).set j ((k + j : Nat) : Int) = markedI L k (j + 1) := by
  unfold markedI
  rw [List.set_append_right _ _ (by rw [mkI_length]; omega), mkI_length, Nat.sub_self, List.drop_eq_getElem_cons h, List.set_cons_zero]
  have e : mkI k (j + 1) = mkI k j ++ [((k + j : Nat) : Int)] := by
    unfold mkI; rw [List.range_succ, List.map_append]; rfl
  rw [e]; simp
theorem mkI_get (k n j : Nat) (h : j < (mkI k n).length) : (mkI k n)[j] = ((k + j : Nat) : Int) := by simp [mkI]
theorem grownBy_trans {w w' w'' : World} {r : Option Nat} (h : w.grownBy w' r) (k : w'.grownBy w'' r) : w.grownBy w'' r :=
  ⟨k.os.trans h.os, k.tape.trans h.tape, k.output.trans h.output, Nat.le_trans h.size k.size, fun i hi hn => (k.block i (Nat.lt_of_lt_of_le hi h.size) hn).trans (h.block i hi hn)⟩
theorem grownBy_set (w : World) (g j : Nat) (u : Value) : w.grownBy (w.setCell ⟨g, j, none⟩ u) (some g) :=
  ⟨rfl, rfl, rfl, by simp [World.setCell], fun k _ hn => Below.heap_setCell _ _ _ _ (fun e => hn (by rw [e]))⟩

end Go.Proofs.YtdofjajpiackiaaDoor.W
