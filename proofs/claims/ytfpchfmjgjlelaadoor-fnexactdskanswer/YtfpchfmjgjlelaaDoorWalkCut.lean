
/-
  The walks of 'strings.Cut' at a stroke: what stands ahead of the first one, behind it, and whether there is one, at every text of at most 4194304 bytes; the world but draws.
-/
import Derived.Test.YtfpchfmjgjlelaaDoorBase
import Derived.Test.YtfpchfmjgjlelaaDoorMathPth
import Derived.Test.YtfpchfmjgjlelaaDoorShelf
import Derived.OwnWalk
import Derived.BigQuiet
import Derived.Deep.QuietTactic
namespace Go.Proofs.YtfpchfmjgjlelaaDoor.W
open Go.RowKit Go.Proofs.YtfpchfmjgjlelaaDoor.M

end Go.Proofs.YtfpchfmjgjlelaaDoor.W
