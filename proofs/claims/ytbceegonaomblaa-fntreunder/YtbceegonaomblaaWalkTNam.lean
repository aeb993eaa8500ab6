
/-
  TreNames of the specification. Texts of at most 1048576 bytes, as many files.
-/
import Derived.Test.YtbceegonaomblaaMathTNam
import Derived.Test.YtbceegonaomblaaWalkL4
import Derived.Test.YtbceegonaomblaaWalkPth3
namespace Go.Proofs.Ytbceegonaomblaa.W
open Go.RowKit Go.Proofs.Ytbceegonaomblaa.M
set_option linter.unusedVariables false

set_option maxRecDepth 100000 in
set_option maxHeartbeats 2000000 in
theorem treNames_spec (A : Option Addr) (c : Nat) (L : List TF) (p : ByteArray) (w : World) (hL : RdF w.heap.size w A L) (hn : L.length ≤ 1048576) (hp : p.size ≤ 1048576) (ht : ∀ j (h : j < L.length), (L[j]).pa.size ≤ 1048576) :
    Calls Try.prog 11 #[.slice A L.length c, .string p] w fun e w' => (∃ v, e = .returned v ∧ w'.ownsRow w.heap.size 9 1 v (namesB (rawN L p.data.toList)).length (strs (namesB (rawN L p.data.toList)))) ∧ Below w.heap.size w w' := by
  have HL : Hid (RdF w.heap.size w A L) := hL
  have HT : Hid (∀ j (h : j < L.length), (L[j]).pa.size ≤ 1048576) := ht
  clear hL ht
  go_enter Try.func11, Try.ntmps11
  go_wp2
  go_loopw [5, 6] (fun v iv wr => ∃ (j : Nat) (M : List (List UInt8)), j ≤ L.length ∧ iv = .int .i64 j ∧ Hid (M = namesB (rawN (L.take j) p.data.toList)) ∧ M.length ≤ j ∧ wr.ownsRow w.heap.size 9 1 v M.length (strs M) ∧ Below w.heap.size w wr) (fun _ i _ => L.length - (intOf i).toNat)
  case atStart => exact ⟨0, [], Nat.zero_le _, rfl, rfl, Nat.le_refl _, World.ownsRow_lit w #[] 0 (Nat.le_refl _) (by unfold maxLen; omega) rfl, (Below.refl _ _).alloc (Nat.le_refl _) _⟩
  case round =>
    obtain ⟨j, M, hj, rfl, HM, hm, hown, hb⟩ := hrel
    have hsz := hb.size
    by_cases hlt : j < L.length
    · obtain ⟨b, o, rfl, hbl, c1, c2⟩ := (HL.out.below hb (Nat.le_refl _)) j hlt
      have hpx := HT.out j hlt
      have HNO : Hid ((undB p.data.toList (L[j]).pa.data.toList && decide (p.data.toList ≠ (L[j]).pa.data.toList)) = false → rawN (L.take (j + 1)) p.data.toList = rawN (L.take j) p.data.toList) := rawN_no L _ j hlt
      have HYES : Hid ((undB p.data.toList (L[j]).pa.data.toList && decide (p.data.toList ≠ (L[j]).pa.data.toList)) = true → rawN (L.take (j + 1)) p.data.toList = rawN (L.take j) p.data.toList ++ [firstL (behind p.data.toList (L[j]).pa.data.toList)]) := rawN_yes L _ j hlt
      obtain ⟨x, hx⟩ : ∃ x, L[j] = x := ⟨_, rfl⟩
      rw [hx] at HNO HYES c1 c2 hpx
      obtain ⟨q, t⟩ := x
      simp only at HNO HYES c1 c2 hpx
      clear hx
      cases hu : undB p.data.toList q.data.toList
      · have HE : Hid (M = namesB (rawN (L.take (j + 1)) p.data.toList)) := by rw [HNO.out (by simp [hu])]; exact HM.out
        have HU : Hid (undB p.data.toList q.data.toList = false) := hu
        clear hu HM HNO HYES
        go_wp2_with (go_at_call 28; refine (under_spec p q _ hp hpx).mono ?_; rw [HU.out]; rintro e w1 ⟨rfl, hb1⟩)
        go_roundw
        case rel => exact ⟨j + 1, M, by omega, by go_num, HE, by omega, ownsUnder hown hb1 (Nat.le_refl _), hb.trans (hb1.mono (by omega))⟩
        case measure => simp [intOf]; omega
      · by_cases hpq : p.data.toList = q.data.toList
        · have HE : Hid (M = namesB (rawN (L.take (j + 1)) p.data.toList)) := by rw [HNO.out (by simp [hpq])]; exact HM.out
          have HU : Hid (undB p.data.toList q.data.toList = true) := hu
          have e1 : (p.toList == q.toList) = true := by rw [Lib.toList_data, Lib.toList_data, hpq]; simp
          have e2 : (p.toList != q.toList) = false := by simp only [bne, e1, Bool.not_true]
          clear hu HM HNO HYES hpq
          go_wp2_with (go_at_call 28; refine (under_spec p q _ hp hpx).mono ?_; rw [HU.out]; rintro e w1 ⟨rfl, hb1⟩; have hz1 := hb1.size; replace c1 := (hb1.cell (p := ⟨b, _, none⟩) (by show b < _; omega)).trans c1)
          go_roundw
          case rel => exact ⟨j + 1, M, by omega, by go_num, HE, by omega, ownsUnder hown hb1 (Nat.le_refl _), hb.trans (hb1.mono (by omega))⟩
          case measure => simp [intOf]; omega
        · have HY := HYES.out (by simp [hu, hpq])
          have HE : Hid (nameB M (firstL (behind p.data.toList q.data.toList)) = namesB (rawN (L.take (j + 1)) p.data.toList)) := (show nameB M (firstL (behind p.data.toList q.data.toList)) = namesB (rawN (L.take (j + 1)) p.data.toList) from by rw [HY, namesB_snoc, ← HM.out])
          have HU : Hid (undB p.data.toList q.data.toList = true) := hu
          obtain ⟨_, _, _, _, _, h6⟩ := und_split _ _ hu hpq
          have e1 : (p.toList == q.toList) = false := by rw [Lib.toList_data, Lib.toList_data]; simpa using hpq
          have e2 : (p.toList != q.toList) = true := by simp only [bne, e1, Bool.not_false]
          have hlen : (nameB M (firstL (behind p.data.toList q.data.toList))).length ≤ j + 1 := by
            have e := HE.out
            rw [e]
            refine Nat.le_trans (namesB_len _) (Nat.le_trans (rawN_len _ _) ?_)
            rw [List.length_take]; omega
          have hM1 : M.length ≤ 1048576 := by omega
          by_cases hpe : p.data.toList = []
          · have hbe : behind p.data.toList q.data.toList = q.data.toList := by unfold behind; rw [if_pos hpe]
            have i1 : p.toList.isEmpty = true := by rw [isEmpty_list, hpe]; rfl
            have HB : Hid (behind p.data.toList q.data.toList = q.data.toList) := hbe
            clear hu HM HNO HYES HY hpq hpe hbe h6
            go_wp2_with (first
              | (go_at_call 28; refine (under_spec p q _ hp hpx).mono ?_; rw [HU.out]; rintro e w1 ⟨rfl, hb1⟩; have hz1 := hb1.size; replace c1 := (hb1.cell (p := ⟨b, _, none⟩) (by show b < _; omega)).trans c1; replace hown := ownsUnder hown hb1 (Nat.le_refl _); replace hb := hb.trans (hb1.mono (by omega)); clear hb1)
              | (go_at_call 30; refine (first_spec q _ (by omega)).mono ?_; rintro e w2 ⟨rfl, hb2⟩; have hz2 := hb2.size; replace hown := ownsUnder hown hb2 (Nat.le_refl _); replace hb := hb.trans (hb2.mono (by omega)); clear hb2)
              | (go_at_call 29; refine (l4Name_own _ M (firstL q.data.toList) w.heap.size _ hown hb.size hM1).mono ?_; rintro e w3 ⟨v3, rfl, o3, hb3⟩))
            rw [← HB.out] at o3
            go_roundw
            case rel => exact ⟨j + 1, _, by omega, by go_num, HE, hlen, o3, hb.trans (hb3.mono hb.size)⟩
            case measure => simp [intOf]; omega
          · have hbe : behind p.data.toList q.data.toList = q.data.toList.drop (p.size + 1) := by unfold behind; rw [if_neg hpe]; rfl
            have i1 : p.toList.isEmpty = false := by rw [isEmpty_list]; simpa using hpe
            have hps : p.size + 1 ≤ q.size := h6 hpe
            have hxe : q.extract (p.size + 1) q.size = ⟨(behind p.data.toList q.data.toList).toArray⟩ := by rw [hbe]; exact extract_suf q (p.size + 1)
            have hbs : (behind p.data.toList q.data.toList).length ≤ 4194304 := by rw [hbe, List.length_drop]; (have hql : q.data.toList.length = q.size := (by simp)); omega
            generalize behind p.data.toList q.data.toList = B at *
            clear hu HM HNO HYES HY hpq hpe hbe h6
            go_wp2_with (first
              | (go_at_call 28; refine (under_spec p q _ hp hpx).mono ?_; rw [HU.out]; rintro e w1 ⟨rfl, hb1⟩; have hz1 := hb1.size; replace c1 := (hb1.cell (p := ⟨b, _, none⟩) (by show b < _; omega)).trans c1; replace hown := ownsUnder hown hb1 (Nat.le_refl _); replace hb := hb.trans (hb1.mono (by omega)); clear hb1)
              | (go_at_call 30; refine (first_spec ⟨B.toArray⟩ _ (by rw [size_mk]; exact hbs)).mono ?_; rintro e w2 ⟨rfl, hb2⟩; have hz2 := hb2.size; replace hown := ownsUnder hown hb2 (Nat.le_refl _); replace hb := hb.trans (hb2.mono (by omega)); clear hb2)
              | (go_at_call 29; refine (l4Name_own _ M (firstL B) w.heap.size _ hown hb.size hM1).mono ?_; rintro e w3 ⟨v3, rfl, o3, hb3⟩))
            go_roundw
            case rel => exact ⟨j + 1, _, by omega, by go_num, HE, hlen, o3, hb.trans (hb3.mono hb.size)⟩
            case measure => simp [intOf]; omega
    · go_wp2
      go_ret
      obtain rfl : j = L.length := by omega
      have e := HM.out
      rw [List.take_length] at e
      rw [e] at hown
      exact ⟨⟨_, rfl, hown⟩, hb⟩
end Go.Proofs.Ytbceegonaomblaa.W
