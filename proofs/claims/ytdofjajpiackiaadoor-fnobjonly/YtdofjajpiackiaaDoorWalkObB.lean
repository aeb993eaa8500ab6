
/-
  Objects there and back: what a leaf's text and a sheet's text are read as. Two entries held against each other. No condition.
-/
import Derived.Test.YtdofjajpiackiaaDoorWalkObE
import Derived.Test.YtdofjajpiackiaaDoorWalkLeaf
import Derived.Laws.StructEq
namespace Go.Proofs.YtdofjajpiackiaaDoor.W
open Go.RowKit Go.Proofs.YtdofjajpiackiaaDoor.M

theorem list_eq_iff' (a b : ByteArray) : a.data.toList = b.data.toList ↔ a = b := by
  constructor
  · intro h; apply ByteArray.ext; exact Array.ext' h
  · intro h; rw [h]
theorem isE (s : ByteArray) : s.toList.isEmpty = decide (s.data.toList = []) := by
  rw [Lib.toList_data]
  cases s.data.toList <;> simp
theorem leaf_yes (b : ByteArray) (h : b.size ≤ 6) : (leafB b).toList.isEmpty = false ∧ kd (leafB b) = 1 ∧ byB (leafB b) = b := by
  have e : leafB b = ⟨#[76]⟩ ++ b := (leafB_yes b h).symm
  have hd : (leafB b).data.toList = 76 :: b.data.toList := by rw [e]; simp
  have h1 : stB (leafB b) 76 = true := by unfold stB; rw [hd]; simp
  have hr : restB (leafB b) = b := by
    rw [← list_eq_iff', rest_dat, hd]; rfl
  have hk : kd (leafB b) = 1 := by unfold kd; rw [if_pos h1, hr, if_pos h]
  exact ⟨by rw [isE, hd]; rfl, hk, by rw [byB_yes _ hk, hr]⟩
theorem kd_nil : kd ⟨#[]⟩ = 0 := by decide
theorem leaf_no (b : ByteArray) (h : ¬ b.size ≤ 6) : leafB b = ⟨#[]⟩ := (leafB_no b h).symm
/-- a sheet's text -/
def shB (L : List OE) : ByteArray := ⟨(sheetT (L.map enO)).toArray⟩
theorem sheet_yes (L : List OE) (h : okL (L.map enO) = true) : (shB L).toList.isEmpty = false ∧ kd (shB L) = 2 ∧ enL (shB L) = L := by
  have hd : (shB L).data.toList = 83 :: encL (L.map enO) := by unfold shB sheetT; rw [if_pos h]
  have h1 : stB (shB L) 83 = true := by unfold stB; rw [hd]; simp
  have hs : sheetI ((shB L).data.toList.drop 1) = some (L.map enO) := by
    rw [hd]; exact (sheetI_iff _ _).2 ⟨h, rfl⟩
  have hk := kd_two _ _ h1 hs
  exact ⟨by rw [isE, hd]; rfl, hk, enL_yes _ _ hk hs⟩
theorem sheet_no (L : List OE) (h : okL (L.map enO) = false) : shB L = ⟨#[]⟩ := by unfold shB sheetT; rw [if_neg (by rw [h]; decide)]
theorem shB_size (L : List OE) (h : L.length ≤ 6) : (shB L).size ≤ 100 := by
  cases hk : okL (L.map enO) with
  | false => rw [sheet_no L hk]; decide
  | true =>
    have hd : (shB L).data.toList = 83 :: encL (L.map enO) := by unfold shB sheetT; rw [if_pos hk]
    have h2 := enc_len (L.map enO) (M.okL_parts _ hk).2.1
    have h3 : (shB L).size = (shB L).data.toList.length := by rw [Array.length_toList]; rfl
    rw [h3, hd]
    simp at h2 ⊢
    omega
def eqO (x y : OE) : Bool := (x.nm.toList == y.nm.toList) && ((x.sh == y.sh) && (x.id == y.id))
theorem eqO_self (x : OE) : eqO x x = true := by simp [eqO]
theorem run_eqO (w : World) (x y : OE) : (binOp .eql 34 (.agg #[.string x.nm, .bool x.sh, .int .i64 x.id]) (.agg #[.string y.nm, .bool y.sh, .int .i64 y.id])).run Tryd.prog w = .ok (.bool (eqO x y)) w := by
  have u1 := Tryd.underlying3
  have a1 := Tryd.isAgg3
  have z1 := Tryd.sizeOf3
  have u2 := Tryd.underlying9
  have a2 := Tryd.isAgg9
  have z2 := Tryd.sizeOf9
  have u3 := Tryd.underlying4
  have a3 := Tryd.isAgg4
  have z3 := Tryd.sizeOf4
  have hS : Tryd.prog.underlying 34 = some (.struct (Tryd.prog.fieldsOf 34)) := by kernel_rfl
  have hp : Tryd.prog.stoodInHeld 34 = false := by kernel_rfl
  rw [run_eql_struct, show (10000 : Nat) = 9999 + 1 from rfl, run_equalIn_agg w 9999 34 _ _ hS hp]
  simp only [Program.fieldsOf, Tryd.underlying34]
  go_simp
  unfold eqO
  cases h2 : (x.nm.toList == y.nm.toList) <;> cases h3 : (x.id == y.id) <;> cases h4 : x.sh <;> cases h5 : y.sh <;> simp_all
theorem run_neO (w : World) (x y : OE) : (binOp .neq 34 (.agg #[.string x.nm, .bool x.sh, .int .i64 x.id]) (.agg #[.string y.nm, .bool y.sh, .int .i64 y.id])).run Tryd.prog w = .ok (.bool (!eqO x y)) w := by
  have h := run_eqO w x y
  rw [run_eql_struct] at h
  rw [run_neq_struct]
  revert h
  generalize (Op.equalIn 10000 34 (.agg #[.string x.nm, .bool x.sh, .int .i64 x.id]) (.agg #[.string y.nm, .bool y.sh, .int .i64 y.id])).run Tryd.prog w = r
  intro h
  cases r with
  | ok b w' => simp at h ⊢; exact ⟨by rw [h.1], h.2⟩
  | halt x w' => simp [Result.andThen] at h
theorem guardO : Tryd.prog.eqGuardType Tryd.prog.depth 34 = false := by kernel_rfl
theorem chOk_o (w : World) : Calls Tryd.prog 14 #[] w fun e w' => e = .returned (.bool true) ∧ w = w' := by
  have hn : namB [97, 98, 99] = true := by decide
  go_enter Tryd.func14, Tryd.ntmps14
  go_wp2_with (go_at_call 28; refine (nam_all ⟨#[97, 98, 99]⟩ _).mono ?_; rintro e w1 ⟨rfl, rfl⟩)
  go_ret
  exact ⟨ret_bool hn, rfl⟩
end Go.Proofs.YtdofjajpiackiaaDoor.W
