
/-
  The walks of PthFirst and PthRest, of the program and of the specification. Texts of at most 4194304 bytes.
-/
import Derived.Test.YtfnojgkffjijiaaWalkOk
import Derived.Test.YtfnojgkffjijiaaWalkPthSpec
import Derived.Test.YtfnojgkffjijiaaMathPth2
namespace Go.Proofs.Ytfnojgkffjijiaa.W
open Go.RowKit Go.Proofs.Ytfnojgkffjijiaa.M

theorem ok_yes (s : ByteArray) (w : World) (hs : s.size ≤ 4194304) (h : pthB s.data.toList = true) :
    Calls Try.prog 17 #[.string s] w fun e w' => e = .returned (.bool true) ∧ Below w.heap.size w w' := by
  have := ok_any s w hs; rwa [h] at this
theorem ok_no (s : ByteArray) (w : World) (hs : s.size ≤ 4194304) (h : pthB s.data.toList = false) :
    Calls Try.prog 17 #[.string s] w fun e w' => e = .returned (.bool false) ∧ Below w.heap.size w w' := by
  have := ok_any s w hs; rwa [h] at this
theorem sok_yes (s : ByteArray) (w : World) (hs : s.size ≤ 4194304) (h : pthB s.data.toList = true) :
    Calls Try.prog 9 #[.string s] w fun e w' => e = .returned (.bool true) ∧ Below w.heap.size w w' := by
  have := pthOk_spec s w hs; rwa [h] at this
theorem sok_no (s : ByteArray) (w : World) (hs : s.size ≤ 4194304) (h : pthB s.data.toList = false) :
    Calls Try.prog 9 #[.string s] w fun e w' => e = .returned (.bool false) ∧ Below w.heap.size w w' := by
  have := pthOk_spec s w hs; rwa [h] at this
theorem ret_ss {a b c d : ByteArray} (h1 : a = b) (h2 : c = d) : Ending.returned (.tuple #[.string a, .string c]) = .returned (.tuple #[.string b, .string d]) := by rw [h1, h2]

set_option maxHeartbeats 400000 in
theorem pcut_any (s : ByteArray) (w : World) (hs : s.size ≤ 4194304) :
    Calls Try.prog 24 #[.string s] w fun e w' => e = .returned (.tuple #[.string ⟨(firstL s.data.toList).toArray⟩, .string ⟨(restL s.data.toList).toArray⟩]) ∧ Below w.heap.size w w' := by
  unfold firstL restL
  cases h : pthB s.data.toList
  · simp only [Bool.false_eq_true, if_false]
    have HP : Hid (pthB s.data.toList = false) := h
    clear h
    go_enter Try.func24, Try.ntmps24
    go_wp2_with (go_at_call 17; refine (ok_no _ _ hs HP.out).mono ?_; rintro e w1 ⟨rfl, hb1⟩)
    go_ret2
    exact ⟨rfl, hb1⟩
  · simp only [if_true]
    have HP : Hid (pthB s.data.toList = true) := h
    clear h
    go_enter Try.func24, Try.ntmps24
    go_wp2_with (first | (go_at_call 17; refine (ok_yes _ _ hs HP.out).mono ?_; rintro e w1 ⟨rfl, hb1⟩) | (go_at_call 29; refine (cut_any _ _ hs).mono ?_; rintro e w2 ⟨rfl, n, rfl⟩))
    go_ret2
    exact ⟨rfl, below_drewN hb1 n⟩

set_option maxHeartbeats 400000 in
theorem first_impl (s : ByteArray) (w : World) (hs : s.size ≤ 4194304) :
    Calls Try.prog 13 #[.string s] w fun e w' => e = .returned (.string ⟨(firstL s.data.toList).toArray⟩) ∧ Below w.heap.size w w' := by
  go_enter Try.func13, Try.ntmps13
  go_wp2_with (go_at_call 24; refine (pcut_any _ _ hs).mono ?_; rintro e w1 ⟨rfl, hb1⟩)
  go_ret
  exact ⟨rfl, hb1⟩
set_option maxHeartbeats 400000 in
theorem rest_impl (s : ByteArray) (w : World) (hs : s.size ≤ 4194304) :
    Calls Try.prog 14 #[.string s] w fun e w' => e = .returned (.string ⟨(restL s.data.toList).toArray⟩) ∧ Below w.heap.size w w' := by
  go_enter Try.func14, Try.ntmps14
  go_wp2_with (go_at_call 24; refine (pcut_any _ _ hs).mono ?_; rintro e w1 ⟨rfl, hb1⟩)
  go_ret
  exact ⟨rfl, hb1⟩
end Go.Proofs.Ytfnojgkffjijiaa.W
