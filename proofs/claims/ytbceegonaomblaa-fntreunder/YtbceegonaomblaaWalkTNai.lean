
/-
  TreNames of the program. Texts of at most 1048576 bytes, as many files.
-/
import Derived.Test.YtbceegonaomblaaWalkTNam
import Derived.Test.YtbceegonaomblaaWalkRis
import Derived.Test.YtbceegonaomblaaWalkJoin
import Derived.Test.YtbceegonaomblaaWalkParts
namespace Go.Proofs.Ytbceegonaomblaa.W
open Go.RowKit Go.Proofs.Ytbceegonaomblaa.M
set_option linter.unusedVariables false

set_option maxRecDepth 100000 in
set_option maxHeartbeats 2000000 in
theorem treNames_impl (A : Option Addr) (c : Nat) (L : List TF) (p : ByteArray) (w : World) (hL : RdF w.heap.size w A L) (hn : L.length ≤ 1048576) (hp : p.size ≤ 1048576) (ht : ∀ j (h : j < L.length), (L[j]).pa.size ≤ 1048576) :
    Calls Try.prog 7 #[.slice A L.length c, .string p] w fun e w' => (∃ v, e = .returned v ∧ w'.ownsRow w.heap.size 9 1 v (namesB (rawN L p.data.toList)).length (strs (namesB (rawN L p.data.toList)))) ∧ Below w.heap.size w w' := by
  have HL : Hid (RdF w.heap.size w A L) := hL
  have HT : Hid (∀ j (h : j < L.length), (L[j]).pa.size ≤ 1048576) := ht
  clear hL ht
  obtain ⟨i0, hi, hz0, hz1, hz2⟩ := info_parts info9
  go_enter Try.func7, Try.ntmps7
  go_wp2_with (go_at_call 26; refine (parts_len p _ (by omega)).mono ?_; rintro e w0 ⟨A0, c0, rfl, hb0⟩; obtain ⟨d, hd⟩ : ∃ d, (partsL p.data.toList).length = d := ⟨_, rfl⟩; rw [hd]; have HD : Hid ((partsL p.data.toList).length = d) := hd; clear hd)
  go_loopw [5, 14] (fun v iv wr => ∃ (j : Nat) (M : List (List UInt8)), j ≤ L.length ∧ iv = .int .i64 j ∧ Hid (M = rawN (L.take j) p.data.toList) ∧ M.length ≤ j ∧ wr.ownsRow w.heap.size 9 1 v M.length (strs M) ∧ Below w.heap.size w wr) (fun _ i _ => L.length - (intOf i).toNat)
  case atStart => exact ⟨0, [], Nat.zero_le _, rfl, rfl, Nat.le_refl _, World.ownsRow_nil _ _ _ _, hb0⟩
  case round =>
    obtain ⟨j, M, hj, rfl, HM, hm, hown, hb⟩ := hrel
    have hsz := hb.size
    by_cases hlt : j < L.length
    · obtain ⟨b, o, rfl, hbl, c1, c2⟩ := (HL.out.below hb (Nat.le_refl _)) j hlt
      have hpx := HT.out j hlt
      have HNO : Hid ((undB p.data.toList (L[j]).pa.data.toList && decide (p.data.toList ≠ (L[j]).pa.data.toList)) = false → rawN (L.take (j + 1)) p.data.toList = rawN (L.take j) p.data.toList) := rawN_no L _ j hlt
      have HYES : Hid ((undB p.data.toList (L[j]).pa.data.toList && decide (p.data.toList ≠ (L[j]).pa.data.toList)) = true → rawN (L.take (j + 1)) p.data.toList = rawN (L.take j) p.data.toList ++ [firstL (behind p.data.toList (L[j]).pa.data.toList)]) := rawN_yes L _ j hlt
      obtain ⟨x, hx⟩ : ∃ x, L[j] = x := ⟨_, rfl⟩
      rw [hx] at HNO HYES c1 c2 hpx
      obtain ⟨q, t⟩ := x
      simp only at HNO HYES c1 c2 hpx
      clear hx
      cases hu : undB p.data.toList q.data.toList
      · have HE : Hid (M = rawN (L.take (j + 1)) p.data.toList) := by rw [HNO.out (by simp [hu])]; exact HM.out
        have HU : Hid (undB p.data.toList q.data.toList = false) := hu
        clear hu HM HNO HYES
        go_wp2_with (go_at_call 25; refine (under_impl p q _ hp hpx).mono ?_; rw [HU.out]; rintro e w1 ⟨rfl, hb1⟩)
        go_roundw
        case rel => exact ⟨j + 1, M, by omega, by go_num, HE, by omega, ownsUnder (hown.alloc _) hb1 (Nat.le_refl _), (hb.alloc (by omega) _).trans (hb1.mono (by simp; omega))⟩
        case measure => simp [intOf]; omega
      · by_cases hpq : p.data.toList = q.data.toList
        · have HE : Hid (M = rawN (L.take (j + 1)) p.data.toList) := by rw [HNO.out (by simp [hpq])]; exact HM.out
          have HU : Hid (undB p.data.toList q.data.toList = true) := hu
          have e1 : (q.toList == p.toList) = true := by rw [Lib.toList_data, Lib.toList_data, hpq]; simp
          have e2 : (q.toList != p.toList) = false := by simp only [bne, e1, Bool.not_true]
          clear hu HM HNO HYES hpq
          go_wp2_with (go_at_call 25; refine (under_impl p q _ hp hpx).mono ?_; rw [HU.out]; rintro e w1 ⟨rfl, hb1⟩; have d1 : w1.cell? ⟨wr.heap.size, 0, none⟩ = some (.string q) := (hb1.cell (p := ⟨wr.heap.size, _, none⟩) (by simp)).trans (by simp))
          go_roundw
          case rel => exact ⟨j + 1, M, by omega, by go_num, HE, by omega, ownsUnder (hown.alloc _) hb1 (Nat.le_refl _), (hb.alloc (by omega) _).trans (hb1.mono (by simp; omega))⟩
          case measure => simp [intOf]; omega
        · have HY := HYES.out (by simp [hu, hpq])
          have HE : Hid (M ++ [firstL (behind p.data.toList q.data.toList)] = rawN (L.take (j + 1)) p.data.toList) := (show M ++ [firstL (behind p.data.toList q.data.toList)] = rawN (L.take (j + 1)) p.data.toList from by rw [HY, ← HM.out])
          have HU : Hid (undB p.data.toList q.data.toList = true) := hu
          obtain ⟨hpp, hpf, _, _, _, _⟩ := und_split _ _ hu hpq
          obtain ⟨hnm, hdl⟩ := und_name _ _ hu hpq
          have pp : partsL p.data.toList = nms p.data.toList := by unfold partsL; rw [if_pos hpp]
          have pq : partsL q.data.toList = nms q.data.toList := by unfold partsL; rw [if_pos hpf]
          rw [← pp, HD.out, ← pq] at hnm hdl
          have e1 : (q.toList == p.toList) = false := by rw [Lib.toList_data, Lib.toList_data]; simpa using fun e : q.data.toList = p.data.toList => hpq e.symm
          have e2 : (q.toList != p.toList) = true := by simp only [bne, e1, Bool.not_false]
          have HNM : Hid ((partsL q.data.toList)[d]? = some (firstL (behind p.data.toList q.data.toList))) := hnm
          obtain ⟨n, hnn⟩ : ∃ n, n = firstL (behind p.data.toList q.data.toList) := ⟨_, rfl⟩
          rw [← hnn] at HE HNM
          have HDL : Hid (d < (partsL q.data.toList).length) := hdl
          clear hu HM HNO HYES HY hpq hpp hpf pp pq hnm hdl hnn
          go_wp2_with (first
            | (go_at_call 25; refine (under_impl p q _ hp hpx).mono ?_; rw [HU.out]; rintro e w1 ⟨rfl, hb1⟩; have d1 : w1.cell? ⟨wr.heap.size, 0, none⟩ = some (.string q) := (hb1.cell (p := ⟨wr.heap.size, _, none⟩) (by simp)).trans (by simp); replace hown := ownsUnder (hown.alloc (.cells #[.string q, .string t] 51)) hb1 (Nat.le_refl _); have hz1' := hb1.size; replace hb := (hb.alloc (by omega) (.cells #[.string q, .string t] 51)).trans (hb1.mono (by simp; omega)); replace hsz := hb.size; clear hb1)
            | (go_at_call 26; refine (parts_impl q _ (by omega)).mono ?_; rintro e w2 ⟨v2, rfl, o2, hb2⟩; obtain ⟨g2, cc2, rfl, hcell⟩ := row_some o2 (by have := HDL.out; omega); have hcd := hcell d HDL.out; have hnd : (partsL q.data.toList)[d]'HDL.out = n := (by have e := HNM.out; rw [List.getElem?_eq_getElem HDL.out] at e; exact Option.some.inj e); rw [hnd] at hcd; have hdl2 : (d : Int) < ((partsL q.data.toList).length : Int) := (by have := HDL.out; omega); clear hcell o2 hnd HNM; clear HDL; generalize (partsL q.data.toList).length = m2 at *; replace hown := ownsUnder hown hb2 (Nat.le_refl _); replace hb := hb.trans (hb2.mono (by omega)); replace hsz := hb.size; clear hb2)
            | (at_builtin; refine wpList_append_own _ rfl _ _ 27 rfl w.heap.size 9 i0 (.string ByteArray.empty) 1 16 Try.underlying27 hi hz0 hz1 hz2 rfl (by decide) _ _ _ rfl (hown.alloc _) ⟨w2.heap.size, 0, none⟩ 1 1 [.string ⟨n.toArray⟩] rfl rfl (cell_one_new _ _ _) (fun u hu => by simp at hu; subst hu; rfl) (by unfold maxLen; omega) (by omega) (by simp; omega) ?_; intro v3 w3 o3 g3 n3))
          go_roundw
          case rel => exact ⟨j + 1, M ++ [n], by omega, by go_num, HE, by simp; omega, by rw [strs_snoc, List.length_append]; exact o3, (hb.alloc (by omega) _).grown g3 (by simp; omega) (fun q hq => (hown.lt q hq).1)⟩
          case measure => simp [intOf]; omega
    · have e := HM.out
      obtain rfl : j = L.length := by omega
      rw [List.take_length] at e
      go_wp2_with (go_at_call 27; refine (rising_own _ M w.heap.size _ hown (by omega)).mono ?_; rintro e9 w9 ⟨v9, rfl, o9, hb9, _⟩)
      go_ret
      rw [e] at o9
      exact ⟨⟨_, rfl, o9⟩, hb.trans hb9⟩
end Go.Proofs.Ytbceegonaomblaa.W
