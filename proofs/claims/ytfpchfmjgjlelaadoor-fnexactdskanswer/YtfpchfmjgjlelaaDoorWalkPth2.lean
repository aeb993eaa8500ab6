
/-
  The walks of PthFirst and PthRest, of the program and of the specification. Texts of at most 4194304 bytes.
-/
import Derived.Test.YtfpchfmjgjlelaaDoorWalkOk
import Derived.Test.YtfpchfmjgjlelaaDoorWalkPthSpec
import Derived.Test.YtfpchfmjgjlelaaDoorMathPth2
namespace Go.Proofs.YtfpchfmjgjlelaaDoor.W
open Go.RowKit Go.Proofs.YtfpchfmjgjlelaaDoor.M

theorem ret_ss {a b c d : ByteArray} (h1 : a = b) (h2 : c = d) : Ending.returned (.tuple #[.string a, .string c]) = .returned (.tuple #[.string b, .string d]) := by rw [h1, h2]

end Go.Proofs.YtfpchfmjgjlelaaDoor.W
