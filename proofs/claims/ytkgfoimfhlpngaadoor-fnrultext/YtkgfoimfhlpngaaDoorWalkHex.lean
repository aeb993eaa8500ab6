
/-
  The walks of both 'IdHex', 'l2Digit' and 'idOk'.
-/
import Derived.Test.YtkgfoimfhlpngaaDoorBase
import Derived.Test.YtkgfoimfhlpngaaDoorWalkNam
import Derived.Test.YtkgfoimfhlpngaaDoorMathHex
import Derived.Laws.BytesString
import Derived.Below
namespace Go.Proofs.YtkgfoimfhlpngaaDoor.W
open Go.RowKit Go.Proofs.YtkgfoimfhlpngaaDoor.M

theorem conv1 (w : World) (c : UInt8) : (convert 28 9 (.slice (some ⟨w.heap.size, 0, none⟩) 1 1)).run Tryd.prog (w.alloc (.cells #[.int .u8 (c.toNat : Int)] 5)) = .ok (.string ⟨#[c]⟩) (w.alloc (.cells #[.int .u8 (c.toNat : Int)] 5)) := by
  have h := run_convert_bytes_arg (P := Tryd.prog) (w.alloc (.cells #[.int .u8 (c.toNat : Int)] 5)) 28 5 Tryd.underlying28 Tryd.underlying5 w.heap.size 0 1 1 [(c.toNat : Int)] rfl (fun i hi => by
    obtain rfl : i = 0 := by omega
    simp) 9 Tryd.underlying9
  rw [h, str_one]; simp
end Go.Proofs.YtkgfoimfhlpngaaDoor.W
