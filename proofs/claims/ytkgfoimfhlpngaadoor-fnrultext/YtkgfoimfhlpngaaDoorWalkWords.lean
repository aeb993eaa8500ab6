
/-
  The walk of the specification's words between blanks. Texts of at most 200 bytes.
-/
import Derived.Test.YtkgfoimfhlpngaaDoorWalkPthSpec
import Derived.Test.YtkgfoimfhlpngaaDoorMathWords
namespace Go.Proofs.YtkgfoimfhlpngaaDoor.W
open Go.RowKit Go.Proofs.YtkgfoimfhlpngaaDoor.M

theorem take_snoc (s : ByteArray) (k : Nat) (h : k < s.size) : s.data.toList.take (k + 1) = s.data.toList.take k ++ [s[k]] := by
  rw [List.take_succ_eq_append_getElem (by simpa using h)]
  congr 2
theorem wds_next_no (s : ByteArray) (k : Nat) (h : k < s.size) (L : List (List UInt8)) (x : List UInt8) (hs : wds (s.data.toList.take k) = L ++ [x]) (hc : (((s[k].toNat : Int)) == 32) = false) : wds (s.data.toList.take (k + 1)) = L ++ [x ++ [s[k]]] := by
  have hne : s[k] ≠ 32 := by
    intro e; rw [e] at hc; revert hc; decide
  obtain ⟨i, l, h1, h2⟩ := wds_snoc_sign (s.data.toList.take k) s[k] hne
  rw [h1] at hs
  obtain ⟨rfl, h4⟩ := List.append_inj' hs rfl
  cases h4
  rw [take_snoc s k h, h2]
theorem wds_next_yes (s : ByteArray) (k : Nat) (h : k < s.size) (L : List (List UInt8)) (x : List UInt8) (hs : wds (s.data.toList.take k) = L ++ [x]) (hc : (((s[k].toNat : Int)) == 32) = true) : wds (s.data.toList.take (k + 1)) = (L ++ [x]) ++ [[]] := by
  have he : s[k] = 32 := by
    have := of_decide_eq_true (p := ((s[k].toNat : Int)) = 32) (by simpa using hc)
    apply UInt8.toNat.inj
    show s[k].toNat = 32
    omega
  rw [take_snoc s k h, he, wds_snoc_blank, hs]

set_option maxRecDepth 100000 in
set_option maxHeartbeats 800000 in
theorem l5Words_any (s : ByteArray) (w : World) (hs : s.size ≤ 200) :
    Calls Tryd.prog 13 #[.string s] w fun e w' => ∃ g cap, e = .returned (.slice (some ⟨g, 0, none⟩) (wds s.data.toList).length cap) ∧ w'.ownsRow w.heap.size 9 1 (.slice (some ⟨g, 0, none⟩) (wds s.data.toList).length cap) (wds s.data.toList).length (strs (wds s.data.toList)) ∧ Below w.heap.size w w' := by
  obtain ⟨i0, hi, hz0, hz1, hz2⟩ := info_parts info9
  have kc := conv1c
  go_enter Tryd.func13, Tryd.ntmps13
  go_wp2
  go_loopw [3, 4, 5] (fun v o i wr => ∃ (k g cap : Nat) (L : List (List UInt8)) (x : List UInt8), k ≤ s.size ∧ i = .int .i64 k ∧ o = .string ⟨x.toArray⟩ ∧ v = .slice (some ⟨g, 0, none⟩) L.length cap ∧ x.length ≤ k ∧ L.length ≤ k ∧ Hid (wds (s.data.toList.take k) = L ++ [x]) ∧ wr.ownsRow w.heap.size 9 1 v L.length (strs L) ∧ Below w.heap.size w wr)
    (fun _ _ i _ => s.size - (intOf i).toNat)
  case atStart =>
    exact ⟨0, w.heap.size, 0, [], [], Nat.zero_le _, rfl, rfl, rfl, Nat.zero_le _, Nat.zero_le _, rfl, World.ownsRow_lit w #[] 0 (Nat.le_refl _) (by unfold maxLen; omega) rfl, (Below.refl _ _).alloc (Nat.le_refl _) _⟩
  case round =>
    obtain ⟨k, g, cap, L, x, hk, rfl, rfl, rfl, hx, hL, HS, hown, hnx⟩ := hrel
    have hsize := hnx.size
    by_cases hlt : k < s.size
    · cases hc : (((s[k].toNat : Int)) == 32)
      · go_wp2
        go_roundw
        case rel =>
          exact ⟨k + 1, g, cap, L, x ++ [s[k]], by omega, by go_num, by rw [append_mk], rfl, by simp; omega, by omega, wds_next_no s k hlt L x HS.out hc, hown.alloc _, hnx.alloc hsize _⟩
        case measure => simp [intOf]; omega
      · go_wp2_with (at_builtin; refine wpList_append_own _ rfl _ _ 34 rfl w.heap.size 9 i0 (.string ByteArray.empty) 1 16 Tryd.underlying34 hi hz0 hz1 hz2 rfl (by decide) _ _ _ rfl (hown.alloc _) ⟨wr.heap.size, 0, none⟩ 1 1 [.string ⟨x.toArray⟩] rfl rfl (cell_one_new _ _ _) (fun u hu => by simp at hu; subst hu; rfl) (by unfold maxLen; omega) (by omega) (by simp; omega) ?_; intro v' w3 hown' hgrow3 hnil3)
        go_roundw
        case rel =>
          obtain ⟨g3, cap3, hv3⟩ := ownsRow_succ hown'
          subst hv3
          exact ⟨k + 1, g3, cap3, L ++ [x], [], by omega, by go_num, rfl, by simp, by simp, by simp; omega, wds_next_yes s k hlt L x HS.out hc, by rw [strs_snoc, List.length_append]; exact hown', (hnx.alloc hsize _).grown hgrow3 (by simp; omega) (fun q hq => (hown.lt q hq).1)⟩
        case measure => simp [intOf]; omega
    · go_wp2_with (at_builtin; refine wpList_append_own _ rfl _ _ 34 rfl w.heap.size 9 i0 (.string ByteArray.empty) 1 16 Tryd.underlying34 hi hz0 hz1 hz2 rfl (by decide) _ _ _ rfl (hown.alloc _) ⟨wr.heap.size, 0, none⟩ 1 1 [.string ⟨x.toArray⟩] rfl rfl (cell_one_new _ _ _) (fun u hu => by simp at hu; subst hu; rfl) (by unfold maxLen; omega) (by omega) (by simp; omega) ?_; intro v' w3 hown' hgrow3 hnil3)
      go_ret
      obtain ⟨g3, cap3, hv3⟩ := ownsRow_succ hown'
      subst hv3
      have e : wds s.data.toList = L ++ [x] := by
        have := HS.out; rwa [List.take_of_length_le (by simp; omega)] at this
      rw [e, strs_snoc, List.length_append]
      exact ⟨g3, cap3, rfl, hown', (hnx.alloc hsize _).grown hgrow3 (by simp; omega) (fun q hq => (hown.lt q hq).1)⟩

end Go.Proofs.YtkgfoimfhlpngaaDoor.W
