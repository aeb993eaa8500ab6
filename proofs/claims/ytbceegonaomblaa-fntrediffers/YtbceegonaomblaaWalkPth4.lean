
/-
  The walks of PthJoin, of the program and of the specification. Texts of at most 1048576 bytes.
-/
import Derived.Test.YtbceegonaomblaaWalkPth3
namespace Go.Proofs.Ytbceegonaomblaa.W
open Go.RowKit Go.Proofs.Ytbceegonaomblaa.M

/-- two texts with a stroke between -/
abbrev both (a b : ByteArray) : ByteArray := a ++ ⟨#[47]⟩ ++ b
theorem both_list (a b : ByteArray) : (both a b).data.toList = a.data.toList ++ 47 :: b.data.toList := by simp
theorem both_size (a b : ByteArray) : (both a b).size = a.size + 1 + b.size := by
  simp [both, ByteArray.size_append]; rfl
def joinB (a b : ByteArray) : ByteArray := ⟨(joinL a.data.toList b.data.toList).toArray⟩
theorem join_no1 (a b : ByteArray) (h : pthB a.data.toList = false) : joinB a b = ⟨#[]⟩ := by unfold joinB joinL; rw [if_neg (by simp [h])]
theorem join_no2 (a b : ByteArray) (h : pthB b.data.toList = false) : joinB a b = ⟨#[]⟩ := by unfold joinB joinL; rw [if_neg (by simp [h])]
theorem join_nil (a b : ByteArray) (h : pthB a.data.toList = true) (h2 : pthB b.data.toList = true) (e : a.data.toList = []) : joinB a b = b := by
  unfold joinB joinL; rw [if_pos ⟨h, h2⟩, if_pos e]
theorem join_nil2 (a b : ByteArray) (h : pthB a.data.toList = true) (h2 : pthB b.data.toList = true) (e : b.data.toList = []) : joinB a b = a := by
  unfold joinB joinL; rw [if_pos ⟨h, h2⟩]
  by_cases e1 : a.data.toList = []
  · rw [if_pos e1, ← list_eq_iff, e1]; exact e
  · rw [if_neg e1, if_pos e]
theorem join_yes (a b : ByteArray) (h : pthB a.data.toList = true) (h2 : pthB b.data.toList = true) (e : a.data.toList ≠ []) (e2 : b.data.toList ≠ []) (h3 : pthB (both a b).data.toList = true) : joinB a b = both a b := by
  rw [both_list] at h3
  unfold joinB joinL; rw [if_pos ⟨h, h2⟩, if_neg e, if_neg e2, if_pos h3, ← both_list]
theorem join_no3 (a b : ByteArray) (h : pthB a.data.toList = true) (h2 : pthB b.data.toList = true) (e : a.data.toList ≠ []) (e2 : b.data.toList ≠ []) (h3 : pthB (both a b).data.toList = false) : joinB a b = ⟨#[]⟩ := by
  rw [both_list] at h3
  unfold joinB joinL; rw [if_pos ⟨h, h2⟩, if_neg e, if_neg e2, if_neg (by simp [h3])]

set_option maxHeartbeats 800000 in
theorem pjoin_any (a b : ByteArray) (w : World) (ha : a.size ≤ 1048576) (hb : b.size ≤ 1048576) :
    Calls Try.prog 35 #[.string a, .string b] w fun e w' => e = .returned (.string (joinB a b)) ∧ Below w.heap.size w w' := by
  have hsa : a.size ≤ 4194304 := by omega
  have hsb : b.size ≤ 4194304 := by omega
  have hsc : (both a b).size ≤ 4194304 := by rw [both_size]; omega
  cases h1 : pthB a.data.toList
  · rw [join_no1 _ _ h1]
    have HP : Hid (pthB a.data.toList = false) := h1
    clear h1
    go_enter Try.func35, Try.ntmps35
    go_wp2_with (go_at_call 47; refine (ok_no _ _ hsa HP.out).mono ?_; rintro e w1 ⟨rfl, hb1⟩)
    go_ret
    exact ⟨rfl, hb1⟩
  · have HP : Hid (pthB a.data.toList = true) := h1
    cases h2 : pthB b.data.toList
    · rw [join_no2 _ _ h2]
      have HQ : Hid (pthB b.data.toList = false) := h2
      clear h1 h2
      go_enter Try.func35, Try.ntmps35
      go_wp2_with (first | (go_at_call 47; refine (ok_yes _ _ hsa HP.out).mono ?_; rintro e w1 ⟨rfl, hb1⟩; clear HP) | (go_at_call 47; refine (ok_no _ _ hsb HQ.out).mono ?_; rintro e w2 ⟨rfl, hb2⟩))
      go_ret
      exact ⟨rfl, hb1.trans (hb2.mono hb1.size)⟩
    · have HQ : Hid (pthB b.data.toList = true) := h2
      by_cases e1 : a.data.toList = []
      · rw [join_nil _ _ h1 h2 e1]
        have he := empty_t a e1
        clear h1 h2 e1
        go_enter Try.func35, Try.ntmps35
        go_wp2_with (first | (go_at_call 47; refine (ok_yes _ _ hsa HP.out).mono ?_; rintro e w1 ⟨rfl, hb1⟩; clear HP) | (go_at_call 47; refine (ok_yes _ _ hsb HQ.out).mono ?_; rintro e w2 ⟨rfl, hb2⟩))
        go_ret
        exact ⟨rfl, hb1.trans (hb2.mono hb1.size)⟩
      · have he := nonempty_f a e1
        by_cases e2 : b.data.toList = []
        · rw [join_nil2 _ _ h1 h2 e2]
          have he2 := empty_t b e2
          clear h1 h2 e1 e2
          go_enter Try.func35, Try.ntmps35
          go_wp2_with (first | (go_at_call 47; refine (ok_yes _ _ hsa HP.out).mono ?_; rintro e w1 ⟨rfl, hb1⟩; clear HP) | (go_at_call 47; refine (ok_yes _ _ hsb HQ.out).mono ?_; rintro e w2 ⟨rfl, hb2⟩))
          go_ret
          exact ⟨rfl, hb1.trans (hb2.mono hb1.size)⟩
        · have he2 := nonempty_f b e2
          cases h3 : pthB (both a b).data.toList
          · rw [join_no3 _ _ h1 h2 e1 e2 h3]
            have HR : Hid (pthB (both a b).data.toList = false) := h3
            clear h1 h2 e1 e2 h3
            go_enter Try.func35, Try.ntmps35
            go_wp2_with (first | (go_at_call 47; refine (ok_yes _ _ hsa HP.out).mono ?_; rintro e w1 ⟨rfl, hb1⟩; clear HP) | (go_at_call 47; refine (ok_yes _ _ hsb HQ.out).mono ?_; rintro e w2 ⟨rfl, hb2⟩; clear HQ) | (go_at_call 47; refine (ok_no (both a b) _ hsc HR.out).mono ?_; rintro e w3 ⟨rfl, hb3⟩))
            go_ret
            exact ⟨rfl, (hb1.trans (hb2.mono hb1.size)).trans (hb3.mono (Nat.le_trans hb1.size hb2.size))⟩
          · rw [join_yes _ _ h1 h2 e1 e2 h3]
            have HR : Hid (pthB (both a b).data.toList = true) := h3
            clear h1 h2 e1 e2 h3
            go_enter Try.func35, Try.ntmps35
            go_wp2_with (first | (go_at_call 47; refine (ok_yes _ _ hsa HP.out).mono ?_; rintro e w1 ⟨rfl, hb1⟩; clear HP) | (go_at_call 47; refine (ok_yes _ _ hsb HQ.out).mono ?_; rintro e w2 ⟨rfl, hb2⟩; clear HQ) | (go_at_call 47; refine (ok_yes (both a b) _ hsc HR.out).mono ?_; rintro e w3 ⟨rfl, hb3⟩))
            go_ret
            exact ⟨rfl, (hb1.trans (hb2.mono hb1.size)).trans (hb3.mono (Nat.le_trans hb1.size hb2.size))⟩

theorem join_impl (a b : ByteArray) (w : World) (ha : a.size ≤ 1048576) (hb : b.size ≤ 1048576) :
    Calls Try.prog 16 #[.string a, .string b] w fun e w' => e = .returned (.string (joinB a b)) ∧ Below w.heap.size w w' := by
  go_enter Try.func16, Try.ntmps16
  go_wp2_with (go_at_call 35; refine (pjoin_any _ _ _ ha hb).mono ?_; rintro e w1 ⟨rfl, hb1⟩)
  go_ret
  exact ⟨rfl, hb1⟩

end Go.Proofs.Ytbceegonaomblaa.W
