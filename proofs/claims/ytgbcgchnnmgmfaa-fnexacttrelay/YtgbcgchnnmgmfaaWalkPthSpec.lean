
/-
  The walks of the specification's 'l1Cut' and 'PthOk'. Texts of at most 4194304 bytes.
-/
import Derived.Test.YtgbcgchnnmgmfaaWalkNam
import Derived.Test.YtgbcgchnnmgmfaaMathPth
import Derived.OwnWalk
import Derived.Maps.AppendAt
import Derived.Laws.BytesArg
import Derived.RangeFuncBox
namespace Go.Proofs.Ytgbcgchnnmgmfaa.W
open Go.RowKit Go.Proofs.Ytgbcgchnnmgmfaa.M

theorem info9 : (Try.prog.info? 9).map (fun i => (i.zero, i.size, i.bytes)) = some (some (.string ByteArray.empty), 1, 16) := by kernel_rfl
theorem conv1c (w : World) (c : UInt8) : (convert 59 9 (.slice (some ⟨w.heap.size, 0, none⟩) 1 1)).run Try.prog (w.alloc (.cells #[.int .u8 (c.toNat : Int)] 5)) = .ok (.string ⟨#[c]⟩) (w.alloc (.cells #[.int .u8 (c.toNat : Int)] 5)) := by
  have h := run_convert_bytes_arg (P := Try.prog) (w.alloc (.cells #[.int .u8 (c.toNat : Int)] 5)) 59 5 Try.underlying59 Try.underlying5 w.heap.size 0 1 1 [(c.toNat : Int)] rfl (fun i hi => by
    obtain rfl : i = 0 := by omega
    simp) 9 Try.underlying9
  have e : strOfNums [(c.toNat : Int)] = ⟨#[c]⟩ := by apply ByteArray.ext; simp [strOfNums]
  rw [h, e]
/-- the texts of a list, as a row of strings -/
def strs (L : List (List UInt8)) : List Value := L.map fun x => Value.string ⟨x.toArray⟩
theorem strs_length (L : List (List UInt8)) : (strs L).length = L.length := by simp [strs]
theorem strs_snoc (L : List (List UInt8)) (x : List UInt8) : strs (L ++ [x]) = strs L ++ [.string ⟨x.toArray⟩] := by simp [strs]

set_option maxHeartbeats 800000 in
theorem l1Cut_any (s : ByteArray) (w : World) (hs : s.size ≤ 4194304) :
    Calls Try.prog 34 #[.string s] w fun e w' => ∃ g cap, e = .returned (.slice (some ⟨g, 0, none⟩) (spl s.data.toList).length cap) ∧ w'.ownsRow w.heap.size 9 1 (.slice (some ⟨g, 0, none⟩) (spl s.data.toList).length cap) (spl s.data.toList).length (strs (spl s.data.toList)) ∧ Below w.heap.size w w' := by
  obtain ⟨i0, hi, hz0, hz1, hz2⟩ := info_parts info9
  have kc := conv1c
  go_enter Try.func34, Try.ntmps34
  go_wp2
  go_loopw [3, 4, 5] (fun v o i wr => ∃ (k g cap : Nat) (L : List (List UInt8)) (x : List UInt8), k ≤ s.size ∧ i = .int .i64 k ∧ o = .string ⟨x.toArray⟩ ∧ v = .slice (some ⟨g, 0, none⟩) L.length cap ∧ x.length ≤ k ∧ L.length ≤ k ∧ Hid (spl (s.data.toList.take k) = L ++ [x]) ∧ wr.ownsRow w.heap.size 9 1 v L.length (strs L) ∧ Below w.heap.size w wr)
    (fun _ _ i _ => s.size - (intOf i).toNat)
  case atStart =>
    exact ⟨0, w.heap.size, 0, [], [], Nat.zero_le _, rfl, rfl, rfl, Nat.zero_le _, Nat.zero_le _, rfl, World.ownsRow_lit w #[] 0 (Nat.le_refl _) (by unfold maxLen; omega) rfl, (Below.refl _ _).alloc (Nat.le_refl _) _⟩
  case round =>
    obtain ⟨k, g, cap, L, x, hk, rfl, rfl, rfl, hx, hL, HS, hown, hnx⟩ := hrel
    have hsize := hnx.size
    by_cases hlt : k < s.size
    · cases hc : (((s[k].toNat : Int)) == 47)
      · go_wp2
        go_roundw
        case rel =>
          exact ⟨k + 1, g, cap, L, x ++ [s[k]], by omega, by go_num, by rw [append_mk], rfl, by simp; omega, by omega, spl_next_no s k hlt L x HS.out hc, hown.alloc _, hnx.alloc hsize _⟩
        case measure => simp [intOf]; omega
      · go_wp2_with (at_builtin; refine wpList_append_own _ rfl _ _ 24 rfl w.heap.size 9 i0 (.string ByteArray.empty) 1 16 Try.underlying24 hi hz0 hz1 hz2 rfl (by decide) _ _ _ rfl (hown.alloc _) ⟨wr.heap.size, 0, none⟩ 1 1 [.string ⟨x.toArray⟩] rfl rfl (cell_one_new _ _ _) (fun u hu => by simp at hu; subst hu; rfl) (by unfold maxLen; omega) (by omega) (by simp; omega) ?_; intro v' w3 hown' hgrow3 hnil3)
        go_roundw
        case rel =>
          obtain ⟨g3, cap3, hv3⟩ := ownsRow_succ hown'
          subst hv3
          exact ⟨k + 1, g3, cap3, L ++ [x], [], by omega, by go_num, rfl, by simp, by simp, by simp; omega, spl_next_yes s k hlt L x HS.out hc, by rw [strs_snoc, List.length_append]; exact hown', (hnx.alloc hsize _).grown hgrow3 (by simp; omega) (fun q hq => (hown.lt q hq).1)⟩
        case measure => simp [intOf]; omega
    · go_wp2_with (at_builtin; refine wpList_append_own _ rfl _ _ 24 rfl w.heap.size 9 i0 (.string ByteArray.empty) 1 16 Try.underlying24 hi hz0 hz1 hz2 rfl (by decide) _ _ _ rfl (hown.alloc _) ⟨wr.heap.size, 0, none⟩ 1 1 [.string ⟨x.toArray⟩] rfl rfl (cell_one_new _ _ _) (fun u hu => by simp at hu; subst hu; rfl) (by unfold maxLen; omega) (by omega) (by simp; omega) ?_; intro v' w3 hown' hgrow3 hnil3)
      go_ret
      obtain ⟨g3, cap3, hv3⟩ := ownsRow_succ hown'
      subst hv3
      have e : spl s.data.toList = L ++ [x] := by
        have := HS.out; rwa [List.take_of_length_le (by simp; omega)] at this
      rw [e, strs_snoc, List.length_append]
      exact ⟨g3, cap3, rfl, hown', (hnx.alloc hsize _).grown hgrow3 (by simp; omega) (fun q hq => (hown.lt q hq).1)⟩

theorem nams_no (x : List UInt8) (h : namB x = false) (w : World) (hs : x.length ≤ 4194304) :
    Calls Try.prog 35 #[.string ⟨x.toArray⟩] w fun e w' => e = .returned (.bool false) ∧ w = w' := by
  have := nam_spec ⟨x.toArray⟩ w (by rw [size_mk]; unfold maxLen; omega); rwa [show namB (ByteArray.mk x.toArray).data.toList = false from h] at this
theorem nams_yes (x : List UInt8) (h : namB x = true) (w : World) (hs : x.length ≤ 4194304) :
    Calls Try.prog 35 #[.string ⟨x.toArray⟩] w fun e w' => e = .returned (.bool true) ∧ w = w' := by
  have := nam_spec ⟨x.toArray⟩ w (by rw [size_mk]; unfold maxLen; omega); rwa [show namB (ByteArray.mk x.toArray).data.toList = true from h] at this
theorem all_no (L : List (List UInt8)) (x : List UInt8) (hm : x ∈ L) (h : namB x = false) : L.all namB = false := by
  rw [Bool.eq_false_iff]; intro ha; rw [List.all_eq_true.1 ha x hm] at h; cases h
theorem strs_get (L : List (List UInt8)) (k : Nat) (h : k < L.length) : (strs L)[k]? = some (.string ⟨(L[k]).toArray⟩) := by
  simp [strs, h]

set_option maxHeartbeats 800000 in
theorem pthOk_spec (s : ByteArray) (w : World) (hs : s.size ≤ 4194304) :
    Calls Try.prog 21 #[.string s] w fun e w' => e = .returned (.bool (pthB s.data.toList)) ∧ Below w.heap.size w w' := by
  by_cases h0 : s.data.toList = []
  · have he : s.toList.isEmpty = true := by rw [isEmpty_list, h0]; rfl
    rw [h0, pth_nil]
    clear h0
    go_enter Try.func21, Try.ntmps21
    go_wp2
    go_ret
    exact ⟨rfl, Below.refl _ _⟩
  · have he : s.toList.isEmpty = false := by rw [isEmpty_list]; simpa using h0
    by_cases h12 : 12 < s.size
    · rw [pth_long _ (by simpa using h12)]
      clear h0
      go_enter Try.func21, Try.ntmps21
      go_wp2
      go_ret
      exact ⟨rfl, Below.refl _ _⟩
    · have HP : Hid (pthB s.data.toList = ((spl s.data.toList).all namB && decide ((spl s.data.toList).length ≤ 3))) := pth_of _ h0
      have hsl : (spl s.data.toList).length ≤ 13 := by have := spl_len s.data.toList; simp at this; omega
      have HL : Hid (∀ x ∈ spl s.data.toList, x.length ≤ 4194304) := fun x hx => by have := spl_mem_len s.data.toList x hx; simp at this; omega
      clear h0
      go_enter Try.func21, Try.ntmps21
      go_wp2_with (go_at_call 34; refine (l1Cut_any _ _ hs).mono ?_; rintro e w1 ⟨g, cap, rfl, hown, hb1⟩)
      obtain ⟨L, hLe⟩ : ∃ L, L = spl s.data.toList := ⟨_, rfl⟩
      rw [← hLe] at HP HL hown hsl ⊢
      clear hLe
      go_loop [4] (fun i => ∃ k : Nat, k ≤ L.length ∧ i = .int .i64 k ∧ Hid ((L.take k).all namB = true)) (fun i => L.length - (intOf i).toNat)
      case atStart => exact ⟨0, Nat.zero_le _, rfl, rfl⟩
      case round =>
        obtain ⟨k, hk, rfl, HA⟩ := hrel
        by_cases hlt : k < L.length
        · have hcell : w1.cell? ⟨g, k, none⟩ = some (.string ⟨(L[k]).toArray⟩) := by rw [hown.cellAt k (by omega), strs_get L k hlt]
          have hx : (L[k]).length ≤ 4194304 := HL.out _ (List.getElem_mem hlt)
          obtain ⟨x, hxe⟩ : ∃ x, x = L[k] := ⟨_, rfl⟩
          have HX : Hid (L.take (k + 1) = L.take k ++ [x]) := by rw [hxe]; exact List.take_succ_eq_append_getElem hlt
          have HM : Hid (x ∈ L) := by rw [hxe]; exact List.getElem_mem hlt
          rw [← hxe] at hcell hx
          clear hxe
          cases hn : namB x
          · have HN : Hid (namB x = false) := hn
            clear hn
            go_wp2_with (go_at_call 35; refine (nams_no x HN.out _ hx).mono ?_; rintro e w' ⟨rfl, rfl⟩)
            go_ret
            exact ⟨ret_bool (by rw [HP.out, all_no L x HM.out HN.out]; rfl), hb1⟩
          · have HN : Hid (namB x = true) := hn
            clear hn
            go_wp2_with (go_at_call 35; refine (nams_yes x HN.out _ hx).mono ?_; rintro e w' ⟨rfl, rfl⟩)
            go_round
            case rel => exact ⟨k + 1, by omega, by go_num, by show (L.take (k + 1)).all namB = true; rw [HX.out, List.all_append, HA.out]; simp [HN.out]⟩
            case measure => simp [intOf]; omega
        · go_wp2
          go_ret
          refine ⟨ret_bool ?_, hb1⟩
          have e := HA.out
          rw [List.take_of_length_le (by omega)] at e
          rw [HP.out, e]
          simp
          try omega
end Go.Proofs.Ytgbcgchnnmgmfaa.W
