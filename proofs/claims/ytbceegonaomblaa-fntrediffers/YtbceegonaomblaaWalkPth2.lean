
/-
  The walks of PthFirst and PthRest, of the program and of the specification. Texts of at most 4194304 bytes.
-/
import Derived.Test.YtbceegonaomblaaWalkOk
import Derived.Test.YtbceegonaomblaaWalkPthSpec
import Derived.Test.YtbceegonaomblaaMathPth2
namespace Go.Proofs.Ytbceegonaomblaa.W
open Go.RowKit Go.Proofs.Ytbceegonaomblaa.M

theorem ok_yes (s : ByteArray) (w : World) (hs : s.size ≤ 4194304) (h : pthB s.data.toList = true) :
    Calls Try.prog 47 #[.string s] w fun e w' => e = .returned (.bool true) ∧ Below w.heap.size w w' := by
  have := ok_any s w hs; rwa [h] at this
theorem ok_no (s : ByteArray) (w : World) (hs : s.size ≤ 4194304) (h : pthB s.data.toList = false) :
    Calls Try.prog 47 #[.string s] w fun e w' => e = .returned (.bool false) ∧ Below w.heap.size w w' := by
  have := ok_any s w hs; rwa [h] at this
theorem sok_yes (s : ByteArray) (w : World) (hs : s.size ≤ 4194304) (h : pthB s.data.toList = true) :
    Calls Try.prog 13 #[.string s] w fun e w' => e = .returned (.bool true) ∧ Below w.heap.size w w' := by
  have := pthOk_spec s w hs; rwa [h] at this
theorem sok_no (s : ByteArray) (w : World) (hs : s.size ≤ 4194304) (h : pthB s.data.toList = false) :
    Calls Try.prog 13 #[.string s] w fun e w' => e = .returned (.bool false) ∧ Below w.heap.size w w' := by
  have := pthOk_spec s w hs; rwa [h] at this
theorem ret_ss {a b c d : ByteArray} (h1 : a = b) (h2 : c = d) : Ending.returned (.tuple #[.string a, .string c]) = .returned (.tuple #[.string b, .string d]) := by rw [h1, h2]

set_option maxHeartbeats 400000 in
theorem first_spec (s : ByteArray) (w : World) (hs : s.size ≤ 4194304) :
    Calls Try.prog 30 #[.string s] w fun e w' => e = .returned (.string ⟨(firstL s.data.toList).toArray⟩) ∧ Below w.heap.size w w' := by
  unfold firstL
  cases h : pthB s.data.toList
  · simp only [Bool.false_eq_true, if_false]
    have HP : Hid (pthB s.data.toList = false) := h
    clear h
    go_enter Try.func30, Try.ntmps30
    go_wp2_with (go_at_call 13; refine (sok_no _ _ hs HP.out).mono ?_; rintro e w1 ⟨rfl, hb1⟩)
    go_ret
    exact ⟨rfl, hb1⟩
  · simp only [if_true]
    have HP : Hid (pthB s.data.toList = true) := h
    clear h
    obtain ⟨t, ht⟩ := spl_head s.data.toList
    have HT : Hid (spl s.data.toList = bef s.data.toList :: t) := ht
    have hpos : 0 < (spl s.data.toList).length := by rw [ht]; simp
    clear ht
    go_enter Try.func30, Try.ntmps30
    go_wp2_with (first | (go_at_call 13; refine (sok_yes _ _ hs HP.out).mono ?_; rintro e w1 ⟨rfl, hb1⟩) | (go_at_call 31; refine (l1Cut_any _ _ hs).mono ?_; rintro e w2 ⟨g, cap, rfl, hown, hb2⟩; have hcell : w2.cell? ⟨g, 0, none⟩ = some (.string ⟨(bef s.data.toList).toArray⟩) := (hown.cellAt 0 (by omega)).trans (by rw [HT.out]; rfl)))
    go_ret
    exact ⟨rfl, hb1.trans (hb2.mono hb1.size)⟩
end Go.Proofs.Ytbceegonaomblaa.W
