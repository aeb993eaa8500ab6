
/-
  A word, or a dash for none: the specification's 'l5Dash', the program's 'markEmpty'. No condition.
-/
import Derived.Test.YtfpchfmjgjlelaaDoorWalkPth3
namespace Go.Proofs.YtfpchfmjgjlelaaDoor.W
open Go.RowKit Go.Proofs.YtfpchfmjgjlelaaDoor.M

/-- a word, or a dash for none -/
def dashB (s : ByteArray) : ByteArray := if s.data.toList = [] then ⟨#[45]⟩ else s
theorem dashB_size (s : ByteArray) : (dashB s).size ≤ s.size + 1 := by
  unfold dashB; split
  · show 1 ≤ _; omega
  · omega

set_option maxHeartbeats 400000 in
theorem l5Dash_any (s : ByteArray) (w : World) : Calls Tryd.prog 28 #[.string s] w fun e w' => e = .returned (.string (dashB s)) ∧ Below w.heap.size w w' := by
  by_cases h : s.data.toList = []
  · have z1 : s.toList.isEmpty = true := empty_t _ h
    have e0 : dashB s = ⟨#[45]⟩ := if_pos h
    rw [e0]
    clear h e0
    go_enter Tryd.func28, Tryd.ntmps28
    go_wp2
    go_ret
    exact ⟨rfl, Below.refl _ _⟩
  · have z1 : s.toList.isEmpty = false := nonempty_f _ h
    have e0 : dashB s = s := if_neg h
    rw [e0]
    clear h e0
    go_enter Tryd.func28, Tryd.ntmps28
    go_wp2
    go_ret
    exact ⟨rfl, Below.refl _ _⟩
set_option maxHeartbeats 400000 in
theorem markEmpty_any (s : ByteArray) (w : World) : Calls Tryd.prog 34 #[.string s] w fun e w' => e = .returned (.string (dashB s)) ∧ w = w' := by
  by_cases h : s.data.toList = []
  · have z1 : s.toList.isEmpty = true := empty_t _ h
    have e0 : dashB s = ⟨#[45]⟩ := if_pos h
    rw [e0]
    clear h e0
    go_enter Tryd.func34, Tryd.ntmps34
    go_wp2
    go_ret
    exact ⟨rfl, rfl⟩
  · have z1 : s.toList.isEmpty = false := nonempty_f _ h
    have e0 : dashB s = s := if_neg h
    rw [e0]
    clear h e0
    go_enter Tryd.func34, Tryd.ntmps34
    go_wp2
    go_ret
    exact ⟨rfl, rfl⟩

end Go.Proofs.YtfpchfmjgjlelaaDoor.W
