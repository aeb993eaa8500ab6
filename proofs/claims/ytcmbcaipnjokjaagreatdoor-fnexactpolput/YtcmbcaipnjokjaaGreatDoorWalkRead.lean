
/-
  The walks of both 'IdRead' and of 'l2Value': each answers the number that the digits are, at every text; the world stays.
-/
import Derived.Test.YtcmbcaipnjokjaaGreatDoorBase
import Derived.Test.YtcmbcaipnjokjaaGreatDoorWalkHex
import Derived.Test.YtcmbcaipnjokjaaGreatDoorMathRead
import Derived.Test.YtcmbcaipnjokjaaGreatDoorShelf
namespace Go.Proofs.YtcmbcaipnjokjaaGreatDoor.W
open Go.RowKit Go.Proofs.YtcmbcaipnjokjaaGreatDoor.M

theorem ret_ib {a b : Int} {x y : Bool} (h : a = b) (h' : x = y) : Ending.returned (.tuple #[.int .i64 a, .bool x]) = .returned (.tuple #[.int .i64 b, .bool y]) := by rw [h, h']

theorem value_any (c : UInt8) (w : World) :
    Calls Tryz.prog 91 #[.int .u8 (c.toNat : Int)] w fun e w' => e = .returned (.int .i64 (hexV c)) ∧ w = w' := by
  have hc := c.toNat_lt
  go_enter Tryz.func91, Tryz.ntmps91
  go_wp2
  all_goals go_ret
  all_goals refine ⟨ret_int ?_, rfl⟩
  all_goals (unfold hexV; split <;> (try split) <;> omega)

theorem index_any (c : UInt8) (w : World) :
    Calls Tryz.prog 140 #[.string ⟨#[48, 49, 50, 51, 52, 53, 54, 55, 56, 57, 97, 98, 99, 100, 101, 102]⟩, .int .u8 (c.toNat : Int)] w fun e w' => e = .returned (.int .i64 (hexV c)) ∧ w = w' := by
  refine (Tryz.strings_IndexByte ⟨#[48, 49, 50, 51, 52, 53, 54, 55, 56, 57, 97, 98, 99, 100, 101, 102]⟩ (c.toNat : Int) w).mono ?_
  rintro e w' ⟨rfl, rfl⟩
  refine ⟨ret_int ?_, rfl⟩
  have e : ((c.toNat : Int)).toNat.toUInt8 = c := by simp
  rw [e, ← idx_hex c]

set_option maxHeartbeats 400000 in
theorem read_spec (s : ByteArray) (w : World) (hs : s.size ≤ maxLen) :
    Calls Tryz.prog 75 #[.string s] w fun e w' => e = .returned (.tuple #[.int .i64 (rdN s.data.toList), .bool (rdB s.data.toList)]) ∧ w = w' := by
  unfold maxLen at hs
  by_cases h8 : s.size = 8
  · have h8' : ((s.size : Int) != 8) = false := by simp [h8]
    have H8 : Hid (s.data.toList.length = 8) := by show s.data.toList.length = 8; simpa using h8
    have hlo : 8 ≤ s.size := by omega
    clear h8
    go_enter Tryz.func75, Tryz.ntmps75
    go_wp2
    go_loop [4, 5, 6] (fun n i _ => ∃ k m : Nat, k ≤ 8 ∧ i = .int .i64 k ∧ n = .int .i64 m ∧ m < 16 ^ k ∧ Hid (rdF 0 s.data.toList = rdF m (s.data.toList.drop k))) (fun _ i _ => 8 - (intOf i).toNat)
    case atStart => exact ⟨0, 0, by omega, rfl, rfl, by decide, rfl⟩
    case round =>
      obtain ⟨k, m, hk, rfl, rfl, hm, HR⟩ := hrel
      have hm2 : m < 4294967296 := Nat.lt_of_lt_of_le hm (Nat.pow_le_pow_right (n := 16) (by omega) hk)
      have HM : Hid (m < 16 ^ k) := hm
      clear hm
      by_cases hlt : k < 8
      · have hks : k < s.size := by omega
        have HD : Hid (s.data.toList.drop k = s[k] :: s.data.toList.drop (k + 1)) := drop_at s k hks
        have hv := hexV_bd s[k]
        go_wp2_with (go_at_call 91; refine (value_any _ _).mono ?_; rintro e w' ⟨rfl, rfl⟩)
        · go_ret2
          have e0 : rdF 0 s.data.toList = none := by rw [HR.out, HD.out, rdF_none _ _ _ ‹_›]
          exact ⟨ret_ib (by rw [rdN_no _ H8.out e0]; rfl) (by rw [rdB_of0 _ (rdN_no _ H8.out e0)]), rfl⟩
        · go_round
          case rel =>
            refine ⟨k + 1, m * 16 + (hexV s[k]).toNat, by omega, by go_num, by go_num, pow_step m k _ HM.out (by omega) hv.2, ?_⟩
            show rdF 0 s.data.toList = rdF (m * 16 + (hexV s[k]).toNat) (s.data.toList.drop (k + 1))
            rw [HR.out, HD.out, rdF_some _ _ _ (by omega)]
          case measure => simp [intOf]; omega
      · go_wp2
        go_ret2
        obtain rfl : k = 8 := by omega
        have e0 : rdF 0 s.data.toList = some m := by rw [HR.out, List.drop_of_length_le (by rw [H8.out]; omega)]; rfl
        exact ⟨ret_ib (by rw [rdN_yes _ m H8.out e0]) (by unfold rdB; rw [rdN_yes _ m H8.out e0]), rfl⟩
  · have h8' : ((s.size : Int) != 8) = true := by simp; omega
    have H8 : Hid (¬ s.data.toList.length = 8) := by show ¬ s.data.toList.length = 8; simpa using h8
    clear h8
    go_enter Tryz.func75, Tryz.ntmps75
    go_wp2
    go_ret2
    exact ⟨ret_ib (by rw [rdN_short _ H8.out]; rfl) (by rw [rdB_of0 _ (rdN_short _ H8.out)]), rfl⟩
set_option maxHeartbeats 400000 in
theorem read_impl (s : ByteArray) (w : World) (hs : s.size ≤ maxLen) :
    Calls Tryz.prog 131 #[.string s] w fun e w' => e = .returned (.tuple #[.int .i64 (rdN s.data.toList), .bool (rdB s.data.toList)]) ∧ w = w' := by
  unfold maxLen at hs
  by_cases h8 : s.size = 8
  · have h8' : ((s.size : Int) != 8) = false := by simp [h8]
    have h9 : s.size ≤ 8 := by omega
    have H8 : Hid (s.data.toList.length = 8) := by show s.data.toList.length = 8; simpa using h8
    have hlo : 8 ≤ s.size := by omega
    clear h8
    go_enter Tryz.func131, Tryz.ntmps131
    go_wp2
    go_loop [4, 5, 6, 12] (fun n _ _ i => ∃ k m : Nat, k ≤ 8 ∧ i = .int .i64 k ∧ n = .int .i64 m ∧ m < 16 ^ k ∧ Hid (rdF 0 s.data.toList = rdF m (s.data.toList.drop k))) (fun _ _ _ i => 8 - (intOf i).toNat)
    case atStart => exact ⟨0, 0, by omega, rfl, rfl, by decide, rfl⟩
    case round =>
      obtain ⟨k, m, hk, rfl, rfl, hm, HR⟩ := hrel
      have hm2 : m < 4294967296 := Nat.lt_of_lt_of_le hm (Nat.pow_le_pow_right (n := 16) (by omega) hk)
      have HM : Hid (m < 16 ^ k) := hm
      clear hm
      by_cases hlt : k < 8
      · have hks : k < s.size := by omega
        have HD : Hid (s.data.toList.drop k = s[k] :: s.data.toList.drop (k + 1)) := drop_at s k hks
        have hv := hexV_bd s[k]
        go_wp2_with (go_at_call 140; refine (index_any _ _).mono ?_; rintro e w' ⟨rfl, rfl⟩)
        · go_ret2
          have e0 : rdF 0 s.data.toList = none := by rw [HR.out, HD.out, rdF_none _ _ _ ‹_›]
          exact ⟨ret_ib (by rw [rdN_no _ H8.out e0]; rfl) (by rw [rdB_of0 _ (rdN_no _ H8.out e0)]), rfl⟩
        · go_round
          case rel =>
            refine ⟨k + 1, m * 16 + (hexV s[k]).toNat, by omega, by go_num, by go_num, pow_step m k _ HM.out (by omega) hv.2, ?_⟩
            show rdF 0 s.data.toList = rdF (m * 16 + (hexV s[k]).toNat) (s.data.toList.drop (k + 1))
            rw [HR.out, HD.out, rdF_some _ _ _ (by omega)]
          case measure => simp [intOf]; omega
      · go_wp2_with (go_at_call 141; refine (idOk_any _ _).mono ?_; rintro e w' ⟨rfl, rfl⟩)
        go_ret2
        obtain rfl : k = 8 := by omega
        have e0 : rdF 0 s.data.toList = some m := by rw [HR.out, List.drop_of_length_le (by rw [H8.out]; omega)]; rfl
        exact ⟨ret_ib (by rw [rdN_yes _ m H8.out e0]) (by unfold rdB; rw [rdN_yes _ m H8.out e0]; rw [Bool.eq_iff_iff, Bool.and_eq_true, decide_eq_true_iff, decide_eq_true_iff, decide_eq_true_iff]; omega), rfl⟩
  · have h8' : ((s.size : Int) != 8) = true := by simp; omega
    have H8 : Hid (¬ s.data.toList.length = 8) := by show ¬ s.data.toList.length = 8; simpa using h8
    clear h8
    go_enter Tryz.func131, Tryz.ntmps131
    go_wp2
    go_ret2
    exact ⟨ret_ib (by rw [rdN_short _ H8.out]; rfl) (by rw [rdB_of0 _ (rdN_short _ H8.out)]), rfl⟩
end Go.Proofs.YtcmbcaipnjokjaaGreatDoor.W
