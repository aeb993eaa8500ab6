
/-
  Texts that are not one, as the model asks it. No condition.
-/
import Derived.Test.YtfpchfmjgjlelaaDoorBase
namespace Go.Proofs.YtfpchfmjgjlelaaDoor.W
open Go.RowKit
theorem toList_inj {a b : ByteArray} (h : a.toList = b.toList) : a = b := by
  rw [ByteArray.toList_eq, ByteArray.toList_eq] at h
  exact ByteArray.ext (Array.toList_inj.1 h)
/-- two texts that are not one, as the model asks it -/
theorem bytes_ne {a b : ByteArray} (h : ¬ a = b) : (a.toList == b.toList) = false := by
  simpa using fun e => h (toList_inj e)
end Go.Proofs.YtfpchfmjgjlelaaDoor.W
