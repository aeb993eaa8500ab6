
/-
  The walks of both 'IdHex', 'l2Digit' and 'idOk'.
-/
import Derived.Test.YtfpchfmjgjlelaaDoorBase
import Derived.Test.YtfpchfmjgjlelaaDoorWalkNam
import Derived.Test.YtfpchfmjgjlelaaDoorMathHex
import Derived.Laws.BytesString
import Derived.Below
namespace Go.Proofs.YtfpchfmjgjlelaaDoor.W
open Go.RowKit Go.Proofs.YtfpchfmjgjlelaaDoor.M

theorem conv1 (w : World) (c : UInt8) : (convert 51 9 (.slice (some ⟨w.heap.size, 0, none⟩) 1 1)).run Tryd.prog (w.alloc (.cells #[.int .u8 (c.toNat : Int)] 5)) = .ok (.string ⟨#[c]⟩) (w.alloc (.cells #[.int .u8 (c.toNat : Int)] 5)) := by
  have h := run_convert_bytes_arg (P := Tryd.prog) (w.alloc (.cells #[.int .u8 (c.toNat : Int)] 5)) 51 5 Tryd.underlying51 Tryd.underlying5 w.heap.size 0 1 1 [(c.toNat : Int)] rfl (fun i hi => by
    obtain rfl : i = 0 := by omega
    simp) 9 Tryd.underlying9
  rw [h, str_one]; simp
theorem digit_any (d : Nat) (w : World) (h : d < 16) :
    Calls Tryd.prog 27 #[.int .i64 d] w fun e w' => e = .returned (.int .u8 ((hexD d).toNat : Int)) ∧ w = w' := by
  by_cases h1 : d < 10
  · go_enter Tryd.func27, Tryd.ntmps27
    go_wp2
    go_ret
    refine ⟨ret_int ?_, rfl⟩
    have e : hexD d = UInt8.ofNat (48 + d) := by unfold hexD; rw [if_pos h1]
    rw [e]; simp; omega
  · go_enter Tryd.func27, Tryd.ntmps27
    go_wp2
    go_ret
    refine ⟨ret_int ?_, rfl⟩
    have e : hexD d = UInt8.ofNat (87 + d) := by unfold hexD; rw [if_neg h1]
    rw [e]; simp; omega

end Go.Proofs.YtfpchfmjgjlelaaDoor.W
