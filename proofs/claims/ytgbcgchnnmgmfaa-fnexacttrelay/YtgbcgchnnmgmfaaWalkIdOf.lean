
/-
  The walks of both 'IdOf': each answers idOfN, at every text of at most 4194304 bytes; the world stays.
-/
import Derived.Test.YtgbcgchnnmgmfaaBase
import Derived.Test.YtgbcgchnnmgmfaaMathId
import Derived.WalkKit
import Derived.WalkLawsBesides
import Derived.Outline
namespace Go.Proofs.Ytgbcgchnnmgmfaa.W
open Go.RowKit Go.Proofs.Ytgbcgchnnmgmfaa.M

set_option maxHeartbeats 400000 in
theorem idOf_spec (s : ByteArray) (w : World) (hs : s.size ≤ 4194304) :
    Calls Try.prog 26 #[.string s] w fun e w' => e = .returned (.int .i64 (idOfN s.data.toList)) ∧ w = w' := by
  go_enter Try.func26, Try.ntmps26
  go_wp2
  go_loop [3, 4] (fun x i => ∃ k y : Nat, k ≤ s.size ∧ i = .int .i64 k ∧ x = .int .i64 y ∧ y < 4294967296 ∧ y = idFold (2166136261 + s.size) (s.data.toList.take k)) (fun _ i => s.size - (intOf i).toNat)
  case atStart => exact ⟨0, 2166136261 + s.size, Nat.zero_le _, rfl, by go_num, by omega, rfl⟩
  case round =>
    obtain ⟨k, y, hk, rfl, rfl, hy, hf⟩ := hrel
    have HF : Hid (y = idFold (2166136261 + s.size) (s.data.toList.take k)) := hf
    clear hf
    by_cases hlt : k < s.size
    · go_wp2
      go_round
      case rel =>
        have e := step_i64 y s[k] hy
        refine ⟨k + 1, idStep y s[k], by omega, by go_num, ?_, idStep_lt _ _, ?_⟩
        · exact congrArg _ e
        · rw [take_snoc s k hlt, idFold_snoc, ← HF.out]
      case measure => simp [intOf]; omega
    · go_wp2
      all_goals
        have hf : y = idFold (2166136261 + s.data.toList.length) s.data.toList := by
          have := HF.out; rw [List.take_of_length_le (by simp; omega)] at this; simpa using this
        have ht := ‹(_ == (0 : Int)) = _›
        rw [fin_i64 y] at ht
        go_ret
      · exact ⟨ret_int (idOf_one _ y hf (by simpa using ht)), rfl⟩
      · exact ⟨ret_int (by rw [fin_i64 y]; exact idOf_fin _ y hf (by simpa using ht)), rfl⟩

set_option maxHeartbeats 400000 in
theorem idOf_impl (s : ByteArray) (w : World) (hs : s.size ≤ 4194304) :
    Calls Try.prog 43 #[.string s] w fun e w' => e = .returned (.int .i64 (idOfN s.data.toList)) ∧ w = w' := by
  go_enter Try.func43, Try.ntmps43
  go_wp2
  go_loop [3, 4, 11] (fun x _ i => ∃ k y : Nat, k ≤ s.size ∧ i = .int .i64 k ∧ x = .int .u32 y ∧ y < 4294967296 ∧ y = idFold (2166136261 + s.size) (s.data.toList.take k)) (fun _ _ i => s.size - (intOf i).toNat)
  case atStart => exact ⟨0, 2166136261 + s.size, Nat.zero_le _, rfl, by go_num, by omega, rfl⟩
  case round =>
    obtain ⟨k, y, hk, rfl, rfl, hy, hf⟩ := hrel
    have HF : Hid (y = idFold (2166136261 + s.size) (s.data.toList.take k)) := hf
    clear hf
    by_cases hlt : k < s.size
    · go_wp2
      go_round
      case rel =>
        have e := step_u32 y s[k] hy
        refine ⟨k + 1, idStep y s[k], by omega, by go_num, ?_, idStep_lt _ _, ?_⟩
        · exact congrArg _ e
        · rw [take_snoc s k hlt, idFold_snoc, ← HF.out]
      case measure => simp [intOf]; omega
    · go_wp2
      all_goals
        have hf : y = idFold (2166136261 + s.data.toList.length) s.data.toList := by
          have := HF.out; rw [List.take_of_length_le (by simp; omega)] at this; simpa using this
        have ht := ‹(_ == (0 : Int)) = _›
        rw [fin_u32 y] at ht
        go_ret
      · exact ⟨ret_int (idOf_one _ y hf (by simpa using ht)), rfl⟩
      · exact ⟨ret_int (by rw [fin_u32 y, w64_nat _ (idFin_lt y)]; exact idOf_fin _ y hf (by simpa using ht)), rfl⟩
end Go.Proofs.Ytgbcgchnnmgmfaa.W
