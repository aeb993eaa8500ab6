
/-
  The walks of PthFirst and PthRest, of the program and of the specification. Texts of at most 4194304 bytes.
-/
import Derived.Test.YtnnnonbalnanmaaWalkOk
import Derived.Test.YtnnnonbalnanmaaWalkPthSpec
import Derived.Test.YtnnnonbalnanmaaMathPth2
namespace Go.Proofs.Ytnnnonbalnanmaa.W
open Go.RowKit Go.Proofs.Ytnnnonbalnanmaa.M

theorem ok_yes (s : ByteArray) (w : World) (hs : s.size ≤ 4194304) (h : pthB s.data.toList = true) :
    Calls Try.prog 37 #[.string s] w fun e w' => e = .returned (.bool true) ∧ Below w.heap.size w w' := by
  have := ok_any s w hs; rwa [h] at this
theorem ok_no (s : ByteArray) (w : World) (hs : s.size ≤ 4194304) (h : pthB s.data.toList = false) :
    Calls Try.prog 37 #[.string s] w fun e w' => e = .returned (.bool false) ∧ Below w.heap.size w w' := by
  have := ok_any s w hs; rwa [h] at this
theorem sok_yes (s : ByteArray) (w : World) (hs : s.size ≤ 4194304) (h : pthB s.data.toList = true) :
    Calls Try.prog 32 #[.string s] w fun e w' => e = .returned (.bool true) ∧ Below w.heap.size w w' := by
  have := pthOk_spec s w hs; rwa [h] at this
theorem sok_no (s : ByteArray) (w : World) (hs : s.size ≤ 4194304) (h : pthB s.data.toList = false) :
    Calls Try.prog 32 #[.string s] w fun e w' => e = .returned (.bool false) ∧ Below w.heap.size w w' := by
  have := pthOk_spec s w hs; rwa [h] at this
theorem ret_ss {a b c d : ByteArray} (h1 : a = b) (h2 : c = d) : Ending.returned (.tuple #[.string a, .string c]) = .returned (.tuple #[.string b, .string d]) := by rw [h1, h2]

end Go.Proofs.Ytnnnonbalnanmaa.W
