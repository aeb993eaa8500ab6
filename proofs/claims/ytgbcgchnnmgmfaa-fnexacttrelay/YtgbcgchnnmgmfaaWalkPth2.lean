
/-
  The walks of PthFirst and PthRest, of the program and of the specification. Texts of at most 4194304 bytes.
-/
import Derived.Test.YtgbcgchnnmgmfaaWalkOk
import Derived.Test.YtgbcgchnnmgmfaaWalkPthSpec
import Derived.Test.YtgbcgchnnmgmfaaMathPth2
namespace Go.Proofs.Ytgbcgchnnmgmfaa.W
open Go.RowKit Go.Proofs.Ytgbcgchnnmgmfaa.M

theorem ok_yes (s : ByteArray) (w : World) (hs : s.size ≤ 4194304) (h : pthB s.data.toList = true) :
    Calls Try.prog 41 #[.string s] w fun e w' => e = .returned (.bool true) ∧ Below w.heap.size w w' := by
  have := ok_any s w hs; rwa [h] at this
theorem ok_no (s : ByteArray) (w : World) (hs : s.size ≤ 4194304) (h : pthB s.data.toList = false) :
    Calls Try.prog 41 #[.string s] w fun e w' => e = .returned (.bool false) ∧ Below w.heap.size w w' := by
  have := ok_any s w hs; rwa [h] at this
theorem sok_yes (s : ByteArray) (w : World) (hs : s.size ≤ 4194304) (h : pthB s.data.toList = true) :
    Calls Try.prog 21 #[.string s] w fun e w' => e = .returned (.bool true) ∧ Below w.heap.size w w' := by
  have := pthOk_spec s w hs; rwa [h] at this
theorem sok_no (s : ByteArray) (w : World) (hs : s.size ≤ 4194304) (h : pthB s.data.toList = false) :
    Calls Try.prog 21 #[.string s] w fun e w' => e = .returned (.bool false) ∧ Below w.heap.size w w' := by
  have := pthOk_spec s w hs; rwa [h] at this
theorem ret_ss {a b c d : ByteArray} (h1 : a = b) (h2 : c = d) : Ending.returned (.tuple #[.string a, .string c]) = .returned (.tuple #[.string b, .string d]) := by rw [h1, h2]

set_option maxHeartbeats 400000 in
theorem pcut_any (s : ByteArray) (w : World) (hs : s.size ≤ 4194304) :
    Calls Try.prog 53 #[.string s] w fun e w' => e = .returned (.tuple #[.string ⟨(firstL s.data.toList).toArray⟩, .string ⟨(restL s.data.toList).toArray⟩]) ∧ Below w.heap.size w w' := by
  unfold firstL restL
  cases h : pthB s.data.toList
  · simp only [Bool.false_eq_true, if_false]
    have HP : Hid (pthB s.data.toList = false) := h
    clear h
    go_enter Try.func53, Try.ntmps53
    go_wp2_with (go_at_call 41; refine (ok_no _ _ hs HP.out).mono ?_; rintro e w1 ⟨rfl, hb1⟩)
    go_ret2
    exact ⟨rfl, hb1⟩
  · simp only [if_true]
    have HP : Hid (pthB s.data.toList = true) := h
    clear h
    go_enter Try.func53, Try.ntmps53
    go_wp2_with (first | (go_at_call 41; refine (ok_yes _ _ hs HP.out).mono ?_; rintro e w1 ⟨rfl, hb1⟩) | (go_at_call 56; refine (cut_any _ _ hs).mono ?_; rintro e w2 ⟨rfl, n, rfl⟩))
    go_ret2
    exact ⟨rfl, below_drewN hb1 n⟩

set_option maxHeartbeats 400000 in
theorem first_impl (s : ByteArray) (w : World) (hs : s.size ≤ 4194304) :
    Calls Try.prog 45 #[.string s] w fun e w' => e = .returned (.string ⟨(firstL s.data.toList).toArray⟩) ∧ Below w.heap.size w w' := by
  go_enter Try.func45, Try.ntmps45
  go_wp2_with (go_at_call 53; refine (pcut_any _ _ hs).mono ?_; rintro e w1 ⟨rfl, hb1⟩)
  go_ret
  exact ⟨rfl, hb1⟩
set_option maxHeartbeats 400000 in
theorem rest_impl (s : ByteArray) (w : World) (hs : s.size ≤ 4194304) :
    Calls Try.prog 54 #[.string s] w fun e w' => e = .returned (.string ⟨(restL s.data.toList).toArray⟩) ∧ Below w.heap.size w w' := by
  go_enter Try.func54, Try.ntmps54
  go_wp2_with (go_at_call 53; refine (pcut_any _ _ hs).mono ?_; rintro e w1 ⟨rfl, hb1⟩)
  go_ret
  exact ⟨rfl, hb1⟩
set_option maxHeartbeats 400000 in
theorem first_spec (s : ByteArray) (w : World) (hs : s.size ≤ 4194304) :
    Calls Try.prog 37 #[.string s] w fun e w' => e = .returned (.string ⟨(firstL s.data.toList).toArray⟩) ∧ Below w.heap.size w w' := by
  unfold firstL
  cases h : pthB s.data.toList
  · simp only [Bool.false_eq_true, if_false]
    have HP : Hid (pthB s.data.toList = false) := h
    clear h
    go_enter Try.func37, Try.ntmps37
    go_wp2_with (go_at_call 21; refine (sok_no _ _ hs HP.out).mono ?_; rintro e w1 ⟨rfl, hb1⟩)
    go_ret
    exact ⟨rfl, hb1⟩
  · simp only [if_true]
    have HP : Hid (pthB s.data.toList = true) := h
    clear h
    obtain ⟨t, ht⟩ := spl_head s.data.toList
    have HT : Hid (spl s.data.toList = bef s.data.toList :: t) := ht
    have hpos : 0 < (spl s.data.toList).length := by rw [ht]; simp
    clear ht
    go_enter Try.func37, Try.ntmps37
    go_wp2_with (first | (go_at_call 21; refine (sok_yes _ _ hs HP.out).mono ?_; rintro e w1 ⟨rfl, hb1⟩) | (go_at_call 34; refine (l1Cut_any _ _ hs).mono ?_; rintro e w2 ⟨g, cap, rfl, hown, hb2⟩; have hcell : w2.cell? ⟨g, 0, none⟩ = some (.string ⟨(bef s.data.toList).toArray⟩) := (hown.cellAt 0 (by omega)).trans (by rw [HT.out]; rfl)))
    go_ret
    exact ⟨rfl, hb1.trans (hb2.mono hb1.size)⟩
set_option maxHeartbeats 400000 in
theorem rest_spec (s : ByteArray) (w : World) (hs : s.size ≤ 4194304) :
    Calls Try.prog 38 #[.string s] w fun e w' => e = .returned (.string ⟨(restL s.data.toList).toArray⟩) ∧ Below w.heap.size w w' := by
  unfold restL
  cases h : pthB s.data.toList
  · simp only [Bool.false_eq_true, if_false]
    have HP : Hid (pthB s.data.toList = false) := h
    clear h
    go_enter Try.func38, Try.ntmps38
    go_wp2_with (go_at_call 21; refine (sok_no _ _ hs HP.out).mono ?_; rintro e w1 ⟨rfl, hb1⟩)
    go_ret
    exact ⟨rfl, hb1⟩
  · simp only [if_true]
    have HP : Hid (pthB s.data.toList = true) := h
    clear h
    go_enter Try.func38, Try.ntmps38
    go_wp2_with (go_at_call 21; refine (sok_yes _ _ hs HP.out).mono ?_; rintro e w1 ⟨rfl, hb1⟩)
    go_loop [3] (fun i => ∃ k : Nat, k ≤ s.size ∧ i = .int .i64 k ∧ Hid (∀ j, j < k → s.data.toList[j]? ≠ some 47)) (fun i => s.size - (intOf i).toNat)
    case atStart => exact ⟨0, Nat.zero_le _, rfl, fun j hj => by omega⟩
    case round =>
      obtain ⟨k, hk, rfl, HA⟩ := hrel
      by_cases hlt : k < s.size
      · have HI : Hid (s.data.toList[k]? = some s[k]) := at_idx s k hlt
        cases hc : (((s[k].toNat : Int)) == 47)
        · have HC : Hid ((((s[k].toNat : Int)) == 47) = false) := hc
          go_wp2
          go_round
          case rel =>
            refine ⟨k + 1, by omega, by go_num, fun j hj => ?_⟩
            by_cases e : j = k
            · subst e; rw [HI.out]; intro e2; exact no_stroke _ HC.out (Option.some.inj e2)
            · exact HA.out j (by omega)
          case measure => simp [intOf]; omega
        · have HC : Hid ((((s[k].toNat : Int)) == 47) = true) := hc
          go_wp2
          go_ret
          exact ⟨ret_str (by rw [aft_of s.data.toList k (by simpa using hlt) HA.out (by rw [HI.out, is_stroke _ HC.out])]; exact extract_suf s (k + 1)), hb1⟩
      · go_wp2
        go_ret
        exact ⟨ret_str (by rw [aft_none s.data.toList (fun j hj => HA.out j (by simp at hj; omega))]), hb1⟩
end Go.Proofs.Ytgbcgchnnmgmfaa.W
