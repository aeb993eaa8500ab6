
/-
  The walk of a path text's 'ok' and of 'PthOk' of the program: each answers whether the text is a path; nothing old is written. Texts of at most 4194304 bytes.
-/
import Derived.Test.YtfpchfmjgjlelaaDoorWalkNames
import Derived.Test.YtfpchfmjgjlelaaDoorWalkNam
import Derived.RangeFuncFrom
namespace Go.Proofs.YtfpchfmjgjlelaaDoor.W
open Go.RowKit Go.Shelf Go.Proofs.YtfpchfmjgjlelaaDoor.M
attribute [local go_sem] Oper.semAt_some

theorem not_all_snoc (pre : List (List UInt8)) (x : List UInt8) (h : namB x = false) (h2 : (pre ++ [x]).all namB = true) : False := by
  simp [h] at h2
theorem all_snoc (pre : List (List UInt8)) (x : List UInt8) (h0 : pre.all namB = true) (h : namB x = true) : (pre ++ [x]).all namB = true := by
  rw [List.all_append, h0]; simp [h]
theorem cellOther {W : World} {n : Nat} {v : Value} (h : W.cell? ⟨n, 0, none⟩ = some v) (u : Value) : (W.setCell ⟨n + 1, 0, none⟩ u).cell? ⟨n, 0, none⟩ = some v := by
  rw [World.cell?_setCell_other _ _ _ _ (by simp)]; exact h
theorem cellSame {W : World} {a : Addr} {v : Value} (h : W.cell? a = some v) (u : Value) : (W.setCell a u).cell? a = some u :=
  World.cell?_setCell_same' _ _ _ (by rw [h]; rfl)
theorem cellNo {W : World} {n : Nat} (h : W.cell? ⟨n, 0, none⟩ = some (.bool false)) (u : Value) : ((W.setCell ⟨n + 1, 0, none⟩ u).setCell ⟨n, 0, none⟩ (.bool false)).cell? ⟨n, 0, none⟩ = some (.bool false) :=
  cellSame (cellOther h u) _
theorem pth_stop (l : List UInt8) (pre : List (List UInt8)) (hp : pre <+: nms l) (hno : ¬ (pre.length ≤ 3 ∧ pre.all namB = true)) : pthB l = false := by
  rw [Bool.eq_false_iff]; intro h
  unfold pthB at h
  rw [Bool.and_eq_true, decide_eq_true_iff] at h
  exact hno ⟨Nat.le_trans hp.length_le h.1, List.all_eq_true.2 (fun y hy => List.all_eq_true.1 h.2 y (hp.subset hy))⟩
end Go.Proofs.YtfpchfmjgjlelaaDoor.W
