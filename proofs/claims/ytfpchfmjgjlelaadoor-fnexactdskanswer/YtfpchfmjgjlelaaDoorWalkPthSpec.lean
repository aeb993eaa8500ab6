
/-
  The walks of the specification's 'l1Cut' and 'PthOk'. Texts of at most 4194304 bytes.
-/
import Derived.Test.YtfpchfmjgjlelaaDoorWalkNam
import Derived.Test.YtfpchfmjgjlelaaDoorMathPth
import Derived.OwnWalk
import Derived.Maps.AppendAt
import Derived.Laws.BytesArg
import Derived.RangeFuncBox
namespace Go.Proofs.YtfpchfmjgjlelaaDoor.W
open Go.RowKit Go.Proofs.YtfpchfmjgjlelaaDoor.M

theorem info9 : (Tryd.prog.info? 9).map (fun i => (i.zero, i.size, i.bytes)) = some (some (.string ByteArray.empty), 1, 16) := by kernel_rfl
theorem conv1c (w : World) (c : UInt8) : (convert 51 9 (.slice (some ⟨w.heap.size, 0, none⟩) 1 1)).run Tryd.prog (w.alloc (.cells #[.int .u8 (c.toNat : Int)] 5)) = .ok (.string ⟨#[c]⟩) (w.alloc (.cells #[.int .u8 (c.toNat : Int)] 5)) := by
  have h := run_convert_bytes_arg (P := Tryd.prog) (w.alloc (.cells #[.int .u8 (c.toNat : Int)] 5)) 51 5 Tryd.underlying51 Tryd.underlying5 w.heap.size 0 1 1 [(c.toNat : Int)] rfl (fun i hi => by
    obtain rfl : i = 0 := by omega
    simp) 9 Tryd.underlying9
  have e : strOfNums [(c.toNat : Int)] = ⟨#[c]⟩ := by apply ByteArray.ext; simp [strOfNums]
  rw [h, e]
/-- the texts of a list, as a row of strings -/
def strs (L : List (List UInt8)) : List Value := L.map fun x => Value.string ⟨x.toArray⟩
theorem strs_length (L : List (List UInt8)) : (strs L).length = L.length := by simp [strs]
theorem strs_snoc (L : List (List UInt8)) (x : List UInt8) : strs (L ++ [x]) = strs L ++ [.string ⟨x.toArray⟩] := by simp [strs]

theorem all_no (L : List (List UInt8)) (x : List UInt8) (hm : x ∈ L) (h : namB x = false) : L.all namB = false := by
  rw [Bool.eq_false_iff]; intro ha; rw [List.all_eq_true.1 ha x hm] at h; cases h
theorem strs_get (L : List (List UInt8)) (k : Nat) (h : k < L.length) : (strs L)[k]? = some (.string ⟨(L[k]).toArray⟩) := by
  simp [strs, h]

end Go.Proofs.YtfpchfmjgjlelaaDoor.W
