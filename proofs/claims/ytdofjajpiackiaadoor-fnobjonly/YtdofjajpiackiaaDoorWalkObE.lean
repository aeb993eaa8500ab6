
/-
  ObjEntries of the program and of the specification as one list. Texts of at most 1048576 bytes.
-/
import Derived.Test.YtdofjajpiackiaaDoorWalkObS2
namespace Go.Proofs.YtdofjajpiackiaaDoor.W
open Go.RowKit Go.Proofs.YtdofjajpiackiaaDoor.M

/-- the entries of a text -/
def enL (s : ByteArray) : List OE := if kd s = 2 then ((sheetI (s.data.toList.drop 1)).getD []).map oeOf else []
theorem oe_en (x : OE) : oeOf (enO x) = x := by
  obtain ⟨nm, sh, id⟩ := x
  simp only [oeOf, enO, wholeB]
theorem map_oe (L : List OE) : (L.map enO).map oeOf = L := by
  induction L with
  | nil => rfl
  | cons x l ih => simp only [List.map_cons, oe_en, ih]
theorem enL_no (s : ByteArray) (h : kd s ≠ 2) : enL s = [] := by unfold enL; rw [if_neg h]
theorem enL_yes (s : ByteArray) (L : List OE) (h : kd s = 2) (hk : sheetI (s.data.toList.drop 1) = some (L.map enO)) : enL s = L := by
  unfold enL; rw [if_pos h, hk]; exact map_oe L
theorem enL_len (s : ByteArray) : (enL s).length ≤ 60 := by
  unfold enL
  split
  · cases hk : sheetI (s.data.toList.drop 1) with
    | none => simp
    | some es =>
      have h1 := ((sheetI_iff _ _).1 hk).1
      have h2 := (Go.Proofs.YtdofjajpiackiaaDoor.M.okL_parts es h1).1
      simpa using h2
  · simp
theorem enS_any (s : ByteArray) (w : World) (hs : s.size ≤ 1048576) :
    Calls Tryd.prog 30 #[.string s] w fun e w' => (∃ v, e = .returned (.tuple #[v, .bool (decide (kd s = 2))]) ∧ w'.ownsRow w.heap.size 34 3 v (enL s).length (cellsO (enL s))) ∧ Below w.heap.size w w' := by
  refine (objEntries_spec s w hs).mono ?_
  rintro e w' ⟨⟨A, c, rfl, hk, ow⟩ | ⟨A, c, L, rfl, hk, hk2, ow⟩, hb⟩
  · rw [enL_no s hk, decide_eq_false hk]
    exact ⟨⟨_, rfl, ow⟩, hb⟩
  · rw [enL_yes s L hk hk2, decide_eq_true hk]
    exact ⟨⟨_, rfl, ow⟩, hb⟩
theorem enI_any (s : ByteArray) (w : World) (hs : s.size ≤ 1048576) (hg : TypeCell w) :
    Calls Tryd.prog 13 #[.string s] w fun e w' => (∃ v, e = .returned (.tuple #[v, .bool (decide (kd s = 2))]) ∧ w'.ownsRow w.heap.size 34 3 v (enL s).length (cellsO (enL s))) ∧ Below w.heap.size w w' := by
  refine (objEntries_impl s w hs hg).mono ?_
  rintro e w' ⟨⟨rfl, hk⟩ | ⟨A, c, L, rfl, hk, hk2, ow⟩, hb⟩
  · rw [enL_no s hk, decide_eq_false hk]
    exact ⟨⟨_, rfl, World.ownsRow_nil _ _ _ _⟩, hb⟩
  · rw [enL_yes s L hk hk2, decide_eq_true hk]
    exact ⟨⟨_, rfl, ow⟩, hb⟩
end Go.Proofs.YtdofjajpiackiaaDoor.W
