
/-
  The walks of both 'IdHex', 'l2Digit' and 'idOk'.
-/
import Derived.Test.YtgbcgchnnmgmfaaBase
import Derived.Test.YtgbcgchnnmgmfaaWalkNam
import Derived.Test.YtgbcgchnnmgmfaaMathHex
import Derived.Laws.BytesString
import Derived.Below
namespace Go.Proofs.Ytgbcgchnnmgmfaa.W
open Go.RowKit Go.Proofs.Ytgbcgchnnmgmfaa.M

theorem conv1 (w : World) (c : UInt8) : (convert 59 9 (.slice (some ⟨w.heap.size, 0, none⟩) 1 1)).run Try.prog (w.alloc (.cells #[.int .u8 (c.toNat : Int)] 5)) = .ok (.string ⟨#[c]⟩) (w.alloc (.cells #[.int .u8 (c.toNat : Int)] 5)) := by
  have h := run_convert_bytes_arg (P := Try.prog) (w.alloc (.cells #[.int .u8 (c.toNat : Int)] 5)) 59 5 Try.underlying59 Try.underlying5 w.heap.size 0 1 1 [(c.toNat : Int)] rfl (fun i hi => by
    obtain rfl : i = 0 := by omega
    simp) 9 Try.underlying9
  rw [h, str_one]; simp
theorem conv8 (w : World) (cs : List Int) (h8 : cs.length = 8) : (convert 59 9 (.slice (some ⟨w.heap.size, 0, none⟩) 8 8)).run Try.prog (w.alloc (.cells (cs.map (Value.int .u8)).toArray 113)) = .ok (.string (strOfNums cs)) (w.alloc (.cells (cs.map (Value.int .u8)).toArray 113)) :=
  run_convert_bytes_arg (P := Try.prog) _ 59 5 Try.underlying59 Try.underlying5 w.heap.size 0 8 8 cs h8 (fun i hi => by
    have hi' : i < cs.length := by omega
    simp [List.getElem?_eq_getElem hi']) 9 Try.underlying9
theorem digit_any (d : Nat) (w : World) (h : d < 16) :
    Calls Try.prog 49 #[.int .i64 d] w fun e w' => e = .returned (.int .u8 ((hexD d).toNat : Int)) ∧ w = w' := by
  by_cases h1 : d < 10
  · go_enter Try.func49, Try.ntmps49
    go_wp2
    go_ret
    refine ⟨ret_int ?_, rfl⟩
    have e : hexD d = UInt8.ofNat (48 + d) := by unfold hexD; rw [if_pos h1]
    rw [e]; simp; omega
  · go_enter Try.func49, Try.ntmps49
    go_wp2
    go_ret
    refine ⟨ret_int ?_, rfl⟩
    have e : hexD d = UInt8.ofNat (87 + d) := by unfold hexD; rw [if_neg h1]
    rw [e]; simp; omega

set_option maxRecDepth 100000 in
set_option maxHeartbeats 400000 in
theorem hex_spec_yes (n : Nat) (w : World) (h1 : 1 ≤ n) (h2 : n ≤ 4294967295) :
    Calls Try.prog 40 #[.int .i64 n] w fun e w' => e = .returned (.string (hexB n)) ∧ Below w.heap.size w w' := by
  have kc := conv1
  go_enter Try.func40, Try.ntmps40
  go_wp2_with (go_at_call 48; refine (l1In_true _ _ _ _ (by omega) (by omega)).mono ?_; rintro e w' ⟨rfl, rfl⟩)
  go_loopw [0, 3, 4] (fun nn o i wr => ∃ (k m : Nat), k ≤ 8 ∧ i = .int .i64 k ∧ nn = .int .i64 m ∧ m ≤ 4294967295 ∧ m = n / 16 ^ k ∧ o = .string ⟨(digs k n).toArray⟩ ∧ Below w.heap.size w wr) (fun _ _ i _ => 8 - (intOf i).toNat)
  case atStart => exact ⟨0, n, by omega, rfl, rfl, h2, by simp, rfl, Below.refl _ _⟩
  case round =>
    obtain ⟨k, m, hk, rfl, rfl, hm, hmk, rfl, hb⟩ := hrel
    have HM : Hid (m = n / 16 ^ k) := hmk
    clear hmk
    have hdl : (digs k n).length ≤ 8 := by rw [digs_length]; exact hk
    by_cases hlt : k < 8
    · go_wp2_with (go_at_call 49; refine (digit_any (m % 16) _ (by omega)).mono ?_; rintro e w' ⟨rfl, rfl⟩)
      go_roundw
      case rel =>
        refine ⟨k + 1, m / 16, by omega, by go_num, by go_num, by omega, ?_, ?_, ?_⟩
        · rw [HM.out, div_step]
        · have e : digs (k + 1) n = hexD (m % 16) :: digs k n := by rw [HM.out]; rfl
          rw [e]; rfl
        · exact hb.alloc hb.size _
      case measure => simp [intOf]; omega
    · go_wp2
      go_ret
      obtain rfl : k = 8 := by omega
      exact ⟨rfl, hb⟩

set_option maxRecDepth 100000 in
set_option maxHeartbeats 400000 in
theorem hex_spec_no (n : Int) (w : World) (h : ¬ (1 ≤ n ∧ n ≤ 4294967295)) :
    Calls Try.prog 40 #[.int .i64 n] w fun e w' => e = .returned (.string ByteArray.empty) ∧ Below w.heap.size w w' := by
  go_enter Try.func40, Try.ntmps40
  go_wp2_with (go_at_call 48; refine (l1In_false _ _ _ _ (by omega)).mono ?_; rintro e w' ⟨rfl, rfl⟩)
  go_ret
  exact ⟨rfl, Below.refl _ _⟩

theorem hex_spec (n : Int) (w : World) :
    Calls Try.prog 40 #[.int .i64 n] w fun e w' => e = .returned (.string (idHexB n)) ∧ Below w.heap.size w w' := by
  by_cases h : 1 ≤ n ∧ n ≤ 4294967295
  · obtain ⟨m, rfl⟩ := Int.eq_ofNat_of_zero_le (show 0 ≤ n by omega)
    rw [idHexB_in m (by omega) (by omega)]
    exact hex_spec_yes m w (by omega) (by omega)
  · rw [idHexB_out n h]; exact hex_spec_no n w h

theorem idOk_any (n : Int) (w : World) :
    Calls Try.prog 89 #[.int .i64 n] w fun e w' => e = .returned (.bool (decide (1 ≤ n ∧ n ≤ 4294967295))) ∧ w = w' := by
  by_cases h1 : 1 ≤ n
  · go_enter Try.func89, Try.ntmps89
    go_wp2
    go_ret
    exact ⟨ret_bool (by simp [h1]), rfl⟩
  · go_enter Try.func89, Try.ntmps89
    go_wp2
    go_ret
    exact ⟨ret_bool (by simp; omega), rfl⟩
theorem idOk_true (n : Int) (w : World) (h : 1 ≤ n ∧ n ≤ 4294967295) :
    Calls Try.prog 89 #[.int .i64 n] w fun e w' => e = .returned (.bool true) ∧ w = w' := by
  have := idOk_any n w; rwa [decide_eq_true h] at this
theorem idOk_false (n : Int) (w : World) (h : ¬ (1 ≤ n ∧ n ≤ 4294967295)) :
    Calls Try.prog 89 #[.int .i64 n] w fun e w' => e = .returned (.bool false) ∧ w = w' := by
  have := idOk_any n w; rwa [decide_eq_false h] at this

set_option maxRecDepth 100000 in
set_option maxHeartbeats 400000 in
theorem hex_impl_yes (n : Nat) (w : World) (h1 : 1 ≤ n) (h2 : n ≤ 4294967295) :
    Calls Try.prog 87 #[.int .i64 n] w fun e w' => e = .returned (.string (hexB n)) ∧ Below w.heap.size w w' := by
  go_enter Try.func87, Try.ntmps87
  go_wp2_with (go_at_call 89; refine (idOk_true _ _ (by omega)).mono ?_; rintro e w' ⟨rfl, rfl⟩)
  go_loopw [0, 4] (fun nn i wr => ∃ (k m : Nat) (cs : List Int), k ≤ 8 ∧ i = .int .i64 (7 - (k : Int)) ∧ nn = .int .i64 m ∧ m ≤ 4294967295 ∧ Hid (m = n / 16 ^ k) ∧ cs.length = 8 ∧ Hid (∀ j, j < 8 → 8 ≤ j + k → cs[j]? = some ((hexD (n / 16 ^ (7 - j) % 16)).toNat : Int)) ∧ wr = w.alloc (.cells (cs.map (Value.int .u8)).toArray 113)) (fun _ i _ => (1 + intOf i).toNat)
  case atStart => exact ⟨0, n, [0,0,0,0,0,0,0,0], by omega, rfl, rfl, h2, by show n = n / 16 ^ 0; simp, rfl, fun j h h' => by omega, rfl⟩
  case round =>
    obtain ⟨k, m, cs, hk, rfl, rfl, hm, HM, hl, HC, rfl⟩ := hrel
    by_cases hlt : k < 8
    · obtain ⟨v, hv⟩ : ∃ v, cs[7 - k]? = some v := ⟨_, List.getElem?_eq_getElem (by omega)⟩
      go_wp2
      go_roundw
      case rel =>
        refine ⟨k + 1, m / 16, cs.set (7 - k) ((hexD (m % 16)).toNat : Int), by omega, by go_num, by go_num, by omega, ?_, by simpa using hl, ?_, ?_⟩
        · show m / 16 = n / 16 ^ (k + 1)
          rw [HM.out, div_step]
        · intro j hj hk8
          by_cases e : j = 7 - k
          · subst e
            rw [List.getElem?_set_self (by omega), HM.out, show 7 - (7 - k) = k by omega]
          · rw [List.getElem?_set_ne (by omega)]; exact HC.out j hj (by omega)
        · rw [List.map_set]
          congr 4
          rw [hex_tab]
      case measure => simp [intOf]; omega
    · have kc := conv8 w cs hl
      go_wp2
      go_ret
      obtain rfl : k = 8 := by omega
      exact ⟨ret_str (cs_done n cs hl HC.out), (Below.refl _ _).alloc (Nat.le_refl _) _⟩

set_option maxRecDepth 100000 in
set_option maxHeartbeats 400000 in
theorem hex_impl_no (n : Int) (w : World) (h : ¬ (1 ≤ n ∧ n ≤ 4294967295)) :
    Calls Try.prog 87 #[.int .i64 n] w fun e w' => e = .returned (.string ByteArray.empty) ∧ Below w.heap.size w w' := by
  go_enter Try.func87, Try.ntmps87
  go_wp2_with (go_at_call 89; refine (idOk_false _ _ h).mono ?_; rintro e w' ⟨rfl, rfl⟩)
  go_ret
  exact ⟨rfl, Below.refl _ _⟩

theorem hex_impl (n : Int) (w : World) :
    Calls Try.prog 87 #[.int .i64 n] w fun e w' => e = .returned (.string (idHexB n)) ∧ Below w.heap.size w w' := by
  by_cases h : 1 ≤ n ∧ n ≤ 4294967295
  · obtain ⟨m, rfl⟩ := Int.eq_ofNat_of_zero_le (show 0 ≤ n by omega)
    rw [idHexB_in m (by omega) (by omega)]
    exact hex_impl_yes m w (by omega) (by omega)
  · rw [idHexB_out n h]; exact hex_impl_no n w h
end Go.Proofs.Ytgbcgchnnmgmfaa.W
