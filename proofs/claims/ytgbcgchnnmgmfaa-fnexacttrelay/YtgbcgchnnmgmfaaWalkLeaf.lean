
/-
  The walks of both 'ObjLeaf': each answers 'L' and the bytes, or nothing where there are more than six; nothing old is written.
-/
import Derived.Test.YtgbcgchnnmgmfaaBase
import Derived.Below
namespace Go.Proofs.Ytgbcgchnnmgmfaa.W
open Go.RowKit

/-- the text of a leaf -/
def leafB (s : ByteArray) : ByteArray := if s.size ≤ 6 then ⟨#[76]⟩ ++ s else ByteArray.empty

theorem leafB_yes (s : ByteArray) (h : s.size ≤ 6) : ⟨#[76]⟩ ++ s = leafB s := by unfold leafB; rw [if_pos h]
theorem leafB_no (s : ByteArray) (h : ¬ s.size ≤ 6) : ByteArray.empty = leafB s := by unfold leafB; rw [if_neg h]

theorem leaf_spec (s : ByteArray) (w : World) (hs : s.size ≤ maxLen) :
    Calls Try.prog 25 #[.string s] w fun e w' => e = .returned (.string (leafB s)) ∧ w = w' := by
  unfold maxLen at hs
  by_cases h : s.size ≤ 6
  · go_enter Try.func25, Try.ntmps25
    go_wp2
    go_ret
    exact ⟨ret_str (leafB_yes s h), rfl⟩
  · go_enter Try.func25, Try.ntmps25
    go_wp2
    go_ret
    exact ⟨ret_str (leafB_no s h), rfl⟩

theorem leafOk_any (s : ByteArray) (w : World) (hs : s.size ≤ maxLen) :
    Calls Try.prog 92 #[.agg #[.string s]] w fun e w' => e = .returned (.bool (decide (s.size ≤ 6))) ∧ Below w.heap.size w w' := by
  unfold maxLen at hs
  go_enter Try.func92, Try.ntmps92
  go_wp2
  go_ret
  exact ⟨ret_bool (by rw [Bool.eq_iff_iff]; simp; omega), (Below.refl _ _).alloc (Nat.le_refl _) _⟩

theorem leafText_any (s : ByteArray) (w : World) (hs : s.size ≤ 6) :
    Calls Try.prog 93 #[.agg #[.string s]] w fun e w' => e = .returned (.string (⟨#[76]⟩ ++ s)) ∧ Below w.heap.size w w' := by
  go_enter Try.func93, Try.ntmps93
  go_wp2
  go_ret
  exact ⟨rfl, (Below.refl _ _).alloc (Nat.le_refl _) _⟩
theorem m_leafOk (v : Value) (w : World) : (method 216 81 (.agg #[v]) "loop.example/chartulary/impl.ok").run Try.prog w = .ok (92, .agg #[v]) w := by kernel_rfl
theorem m_leafText (v : Value) (w : World) : (method 216 81 (.agg #[v]) "loop.example/chartulary/impl.text").run Try.prog w = .ok (93, .agg #[v]) w := by kernel_rfl

set_option maxHeartbeats 400000 in
theorem write_leaf (s : ByteArray) (w : World) (hs : s.size ≤ maxLen) :
    Calls Try.prog 44 #[.iface 81 (.agg #[.string s])] w fun e w' => e = .returned (.string (leafB s)) ∧ Below w.heap.size w w' := by
  have m1 := m_leafOk
  have m2 := m_leafText
  by_cases h : s.size ≤ 6
  · have hd : decide (s.size ≤ 6) = true := decide_eq_true h
    go_enter Try.func44, Try.ntmps44
    go_wp2_with (go_at_call 92; refine (leafOk_any _ _ hs).mono ?_; rintro e w1 ⟨rfl, hb1⟩)
    go_wp2_with (go_at_call 93; refine (leafText_any _ _ h).mono ?_; rintro e w2 ⟨rfl, hb2⟩)
    go_ret
    exact ⟨ret_str (leafB_yes s h), hb1.trans (hb2.mono hb1.size)⟩
  · have hd : decide (s.size ≤ 6) = false := decide_eq_false h
    go_enter Try.func44, Try.ntmps44
    go_wp2_with (go_at_call 92; refine (leafOk_any _ _ hs).mono ?_; rintro e w1 ⟨rfl, hb1⟩)
    go_ret
    exact ⟨ret_str (leafB_no s h), hb1⟩

set_option maxHeartbeats 400000 in
theorem leaf_impl (s : ByteArray) (w : World) (hs : s.size ≤ maxLen) :
    Calls Try.prog 47 #[.string s] w fun e w' => e = .returned (.string (leafB s)) ∧ Below w.heap.size w w' := by
  go_enter Try.func47, Try.ntmps47
  go_wp2_with (go_at_call 44; refine (write_leaf _ _ hs).mono ?_; rintro e w1 ⟨rfl, hb1⟩)
  go_ret
  exact ⟨rfl, hb1⟩
end Go.Proofs.Ytgbcgchnnmgmfaa.W
