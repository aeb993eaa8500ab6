
/-
  cutEntry of the program, as mathematics: cutL. Texts of at most 4194304 bytes.
-/
import Derived.Test.YtcmbcaipnjokjaaGreatDoorWalkEnt
namespace Go.Proofs.YtcmbcaipnjokjaaGreatDoor.W
open Go.RowKit Go.Proofs.YtcmbcaipnjokjaaGreatDoor.M

theorem len_dat (s : ByteArray) : s.data.toList.length = s.size := by rw [Array.length_toList]; rfl
theorem letN_le' (l : List UInt8) : letN l ≤ l.length := by unfold letN; exact (List.takeWhile_sublist _).length_le
theorem ext_dat (s : ByteArray) (a b : Nat) : (s.extract a b).data.toList = (s.data.toList.take b).drop a := by
  rw [Lib.extract_data, List.drop_take]
theorem mk_dat (l : List UInt8) : (ByteArray.mk l.toArray).data.toList = l := by simp
theorem ext_mk (s : ByteArray) (a b : Nat) : s.extract a b = ⟨((s.data.toList.take b).drop a).toArray⟩ := by
  apply ByteArray.ext; apply Array.toList_inj.1; rw [ext_dat]
theorem get_dat (s : ByteArray) (n : Nat) (h : n < s.size) : s.data.toList[n]'(by rw [len_dat]; exact h) = s[n] := by simp [ByteArray.getElem_eq_getElem_data]

theorem cut_any (s : ByteArray) (w : World) (hs : s.size ≤ 4194304) :
    Calls Tryz.prog 112 #[.string s] w fun e w' => CutAns (cutL s.data.toList) e ∧ Below w.heap.size w w' := by
  have hl := len_dat s
  have hle := letN_le' s.data.toList
  unfold cutL
  by_cases h : s.data.toList.length < letN s.data.toList + 9
  · rw [if_pos h]
    exact cut_short s w hs (by omega) (by omega)
  · rw [if_neg h]
    have hn : letN s.data.toList < s.size := by omega
    have hd := List.drop_eq_getElem_cons (l := s.data.toList) (i := letN s.data.toList) (by omega)
    rw [hd, get_dat s _ hn]
    have e8 : (s.data.toList.drop (letN s.data.toList + 1)).take 8 = (s.extract (letN s.data.toList + 1) (letN s.data.toList + 1 + 8)).data.toList := by
      rw [ext_dat, List.drop_take]; congr 1; omega
    have hz : (s.extract (letN s.data.toList + 1) (letN s.data.toList + 1 + 8)).size ≤ 8 := by
      rw [ByteArray.size_extract]; omega
    simp only
    by_cases hc : s[letN s.data.toList] = 61 ∨ s[letN s.data.toList] = 47
    · rw [if_pos hc]
      have hcn : s[letN s.data.toList].toNat = 61 ∨ s[letN s.data.toList].toNat = 47 := by
        rcases hc with e | e
        · exact Or.inl (by rw [e]; rfl)
        · exact Or.inr (by rw [e]; rfl)
      rw [e8]
      cases hr : rdB (s.extract (letN s.data.toList + 1) (letN s.data.toList + 1 + 8)).data.toList
      · exact cut_id s _ w _ hs (by omega) hn rfl hcn rfl hr hz
      · refine (cut_good s _ _ _ w _ hs (by omega) hn rfl hcn rfl rfl rfl hr hz).mono ?_
        rintro e w' ⟨rfl, hb⟩
        refine ⟨?_, hb⟩
        show _ = _
        have a1 : s.extract 0 (letN s.data.toList) = ⟨(s.data.toList.take (letN s.data.toList)).toArray⟩ := by rw [ext_mk]; simp
        have a2 : s.extract (letN s.data.toList + 1 + 8) s.size = ⟨((s.data.toList.drop (letN s.data.toList + 1)).drop 8).toArray⟩ := by
          rw [ext_mk, List.take_of_length_le (by omega), List.drop_drop]
        have a3 : decide (s[letN s.data.toList].toNat = 47) = decide (s[letN s.data.toList] = 47) := by
          rw [Bool.eq_iff_iff]; simp only [decide_eq_true_eq]
          exact ⟨fun e => UInt8.toNat.inj e, fun e => by rw [e]; rfl⟩
        rw [a1, a2, a3]
    · rw [if_neg hc]
      exact cut_mark s w hs (by omega) hn (fun e => hc (Or.inl e)) (fun e => hc (Or.inr e))
end Go.Proofs.YtcmbcaipnjokjaaGreatDoor.W
