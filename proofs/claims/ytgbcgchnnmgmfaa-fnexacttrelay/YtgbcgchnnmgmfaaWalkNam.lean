
/-
  The walks of 'letters', both 'NamOk' and 'l1In': each answers as the plain function of MathNam, at every text; the world stays. No condition but the reading's own bound on a text's size.
-/
import Derived.Test.YtgbcgchnnmgmfaaBase
import Derived.Test.YtgbcgchnnmgmfaaMathNam
import Derived.WalkKit
import Derived.WalkLawsBesides
import Derived.Outline
namespace Go.Proofs.Ytgbcgchnnmgmfaa.W
open Go.RowKit Go.Proofs.Ytgbcgchnnmgmfaa.M


set_option maxHeartbeats 400000 in
theorem letters_any (s : ByteArray) (w : World) (hs : s.size ≤ maxLen) :
    Calls Try.prog 57 #[.string s] w fun e w' => e = .returned (.int .i64 (letN s.data.toList)) ∧ w = w' := by
  unfold maxLen at hs
  go_enter Try.func57, Try.ntmps57
  go_wp2
  go_loop [3] (fun n => ∃ k : Nat, k ≤ s.size ∧ n = .int .i64 k ∧ ∀ j, j < k → ∃ c, s.data.toList[j]? = some c ∧ low c = true) (fun n => s.size - (intOf n).toNat)
  case atStart => exact ⟨0, Nat.zero_le _, rfl, fun j hj => by omega⟩
  case round =>
    obtain ⟨k, hk, rfl, hall0⟩ := hrel
    have hall : Hid (∀ j, j < k → ∃ c, s.data.toList[j]? = some c ∧ low c = true) := hall0
    clear hall0
    by_cases hlt : k < s.size
    · have hi := at_idx s k hlt
      have HI : Hid (s.data.toList[k]? = some s[k]) := hi
      clear hi
      go_wp2
      case roundEnd =>
        go_round
        case rel =>
          refine ⟨k + 1, by omega, by go_num, fun j hj => ?_⟩
          by_cases e : j = k
          · subst e; exact ⟨_, HI.out, low_t _ (by omega) (by omega)⟩
          · exact hall.out j (by omega)
        case measure => simp [intOf]; omega
      · go_ret
        exact ⟨ret_int (by rw [letN_of _ k (by simpa using hk) hall.out (.inr ⟨_, HI.out, low_f2 _ ‹_›⟩)]), rfl⟩
      · go_ret
        exact ⟨ret_int (by rw [letN_of _ k (by simpa using hk) hall.out (.inr ⟨_, HI.out, low_f1 _ ‹_›⟩)]), rfl⟩
    · go_wp2
      go_ret
      exact ⟨ret_int (by rw [letN_of _ k (by simpa using hk) hall.out (.inl (by simp; omega))]), rfl⟩

theorem l1In_true (n a b : Int) (w : World) (h1 : a ≤ n) (h2 : n ≤ b) :
    Calls Try.prog 48 #[.int .i64 n, .int .i64 a, .int .i64 b] w fun e w' => e = .returned (.bool true) ∧ w = w' := by
  go_enter Try.func48, Try.ntmps48
  go_wp2
  go_ret
  exact ⟨ret_bool (by simp), rfl⟩

theorem l1In_false (n a b : Int) (w : World) (h : n < a ∨ b < n) :
    Calls Try.prog 48 #[.int .i64 n, .int .i64 a, .int .i64 b] w fun e w' => e = .returned (.bool false) ∧ w = w' := by
  by_cases h1 : n < a
  · clear h
    go_enter Try.func48, Try.ntmps48
    go_wp2
    go_ret
    exact ⟨rfl, rfl⟩
  · have h2 : b < n := by omega
    have h3 : a ≤ n := by omega
    clear h h1
    go_enter Try.func48, Try.ntmps48
    go_wp2
    go_ret
    exact ⟨ret_bool (by simp; omega), rfl⟩

theorem nam_short (l : List UInt8) (h : ¬ 1 ≤ l.length) : namB l = false := by simp [namB]; omega
theorem nam_long (l : List UInt8) (h : ¬ l.length ≤ 3) : namB l = false := by simp [namB]; omega
theorem nam_mid (l : List UInt8) (h1 : 1 ≤ l.length) (h2 : l.length ≤ 3) : namB l = decide (letN l = l.length) := by rw [namB_eq]; simp [h1, h2]
theorem nam_mid' (l : List UInt8) (h1 : 1 ≤ l.length) (h2 : l.length ≤ 3) : namB l = l.all low := by unfold namB; simp [h1, h2]

set_option maxHeartbeats 400000 in
theorem nam_impl (s : ByteArray) (w : World) (hs : s.size ≤ maxLen) :
    Calls Try.prog 51 #[.string s] w fun e w' => e = .returned (.bool (namB s.data.toList)) ∧ w = w' := by
  have hl := hs
  unfold maxLen at hs
  by_cases h1 : 1 ≤ s.size
  · by_cases h2 : s.size ≤ 3
    · go_enter Try.func51, Try.ntmps51
      go_wp2_with (go_at_call 57; refine (letters_any _ _ hl).mono ?_; rintro e w' ⟨rfl, rfl⟩)
      go_ret
      refine ⟨ret_bool ?_, rfl⟩
      rw [nam_mid _ (by simpa using h1) (by simpa using h2), Bool.eq_iff_iff]
      simp; omega
    · go_enter Try.func51, Try.ntmps51
      go_wp2
      go_ret
      exact ⟨ret_bool (by rw [nam_long _ (by simpa using h2)]), rfl⟩
  · go_enter Try.func51, Try.ntmps51
    go_wp2
    go_ret
    exact ⟨ret_bool (by rw [nam_short _ (by simpa using h1)]), rfl⟩

set_option maxHeartbeats 400000 in
theorem nam_spec (s : ByteArray) (w : World) (hs : s.size ≤ maxLen) :
    Calls Try.prog 35 #[.string s] w fun e w' => e = .returned (.bool (namB s.data.toList)) ∧ w = w' := by
  unfold maxLen at hs
  by_cases h1 : 1 ≤ s.size ∧ s.size ≤ 3
  · obtain ⟨h1, h2⟩ := h1
    go_enter Try.func35, Try.ntmps35
    go_wp2_with (go_at_call 48; refine (l1In_true _ _ _ _ (by omega) (by omega)).mono ?_; rintro e w' ⟨rfl, rfl⟩)
    go_loop [3] (fun n => ∃ k : Nat, k ≤ s.size ∧ n = .int .i64 k ∧ ∀ j, j < k → ∃ c, s.data.toList[j]? = some c ∧ low c = true) (fun n => s.size - (intOf n).toNat)
    case atStart => exact ⟨0, Nat.zero_le _, rfl, fun j hj => by omega⟩
    case round =>
      obtain ⟨k, hk, rfl, hall0⟩ := hrel
      have hall : Hid (∀ j, j < k → ∃ c, s.data.toList[j]? = some c ∧ low c = true) := hall0
      clear hall0
      by_cases hlt : k < s.size
      · have hi := at_idx s k hlt
        have HI : Hid (s.data.toList[k]? = some s[k]) := hi
        clear hi
        go_wp2
        case roundEnd =>
          go_round
          case rel =>
            refine ⟨k + 1, by omega, by go_num, fun j hj => ?_⟩
            by_cases e : j = k
            · subst e; exact ⟨_, HI.out, low_t _ (by omega) (by omega)⟩
            · exact hall.out j (by omega)
          case measure => simp [intOf]; omega
        all_goals go_ret
        all_goals refine ⟨ret_bool ?_, rfl⟩
        all_goals rw [nam_mid' _ (by simpa using h1) (by simpa using h2)]
        all_goals exact (not_all_of_idx _ k _ HI.out (low_f _ (by omega))).symm
      · go_wp2
        go_ret
        refine ⟨ret_bool ?_, rfl⟩
        rw [nam_mid' _ (by simpa using h1) (by simpa using h2)]
        obtain rfl : k = s.size := by omega
        exact (all_of_idx _ (by simpa using hall.out)).symm
  · have hB : namB s.data.toList = false := by
      by_cases h : 1 ≤ s.size
      · exact nam_long _ (fun h' => h1 ⟨h, by simpa using h'⟩)
      · exact nam_short _ (by simpa using h)
    have HB : Hid (namB s.data.toList = false) := hB
    clear hB
    go_enter Try.func35, Try.ntmps35
    go_wp2_with (go_at_call 48; refine (l1In_false _ _ _ _ (by omega)).mono ?_; rintro e w' ⟨rfl, rfl⟩)
    go_ret
    exact ⟨ret_bool (by rw [HB.out]), rfl⟩

set_option maxHeartbeats 400000 in
theorem nam_impl_long (s : ByteArray) (w : World) (h2 : ¬ s.size ≤ 3) :
    Calls Try.prog 51 #[.string s] w fun e w' => e = .returned (.bool (namB s.data.toList)) ∧ w = w' := by
  have h1 : 1 ≤ s.size := by omega
  go_enter Try.func51, Try.ntmps51
  go_wp2
  go_ret
  exact ⟨ret_bool (by rw [nam_long _ (by simpa using h2)]), rfl⟩
/-- NamOk of the program, at every text whatever. -/
theorem nam_all (s : ByteArray) (w : World) :
    Calls Try.prog 51 #[.string s] w fun e w' => e = .returned (.bool (namB s.data.toList)) ∧ w = w' := by
  by_cases h : s.size ≤ 3
  · exact nam_impl s w (by unfold maxLen; omega)
  · exact nam_impl_long s w h
end Go.Proofs.Ytgbcgchnnmgmfaa.W
