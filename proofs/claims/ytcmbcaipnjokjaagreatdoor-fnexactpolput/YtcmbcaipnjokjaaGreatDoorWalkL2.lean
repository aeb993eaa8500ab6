
/-
  The walk of the specification's l2Read. Texts of 1 to 721 bytes.
-/
import Derived.Test.YtcmbcaipnjokjaaGreatDoorWalkObR
namespace Go.Proofs.YtcmbcaipnjokjaaGreatDoor.W
open Go.RowKit Go.Proofs.YtcmbcaipnjokjaaGreatDoor.M

theorem l2_end (f : Nat) (nm : List UInt8) (out : List En) (h : 0 < f) : l2F f [] nm out = (out, decide (nm = [])) := by
  cases f with
  | zero => omega
  | succ f => rfl
theorem l2_mark (f : Nat) (c : UInt8) (r nm : List UInt8) (out : List En) (hc : c = 61 ∨ c = 47) : l2F (f + 1) (c :: r) nm out = (if r.length < 8 then ([], false) else if rdB (r.take 8) then l2F f (r.drop 8) [] (out ++ [⟨nm, decide (c = 47), ((rdN (r.take 8) : Nat) : Int)⟩]) else ([], false)) := by
  simp only [l2F]; rw [if_pos hc]
theorem l2_else (f : Nat) (c : UInt8) (r nm : List UInt8) (out : List En) (hc : ¬ (c = 61 ∨ c = 47)) : l2F (f + 1) (c :: r) nm out = l2F f r (nm ++ [c]) out := by
  simp only [l2F]; rw [if_neg hc]
theorem is_c (c d : UInt8) : (((c.toNat : Int)) == (d.toNat : Int)) = decide (c = d) := by
  rw [Bool.eq_iff_iff]
  simp only [beq_iff_eq, decide_eq_true_eq]
  exact ⟨fun h => UInt8.toNat.inj (by omega), fun h => by rw [h]⟩
theorem rd_spec2 (d : ByteArray) (k : Bool) (n : Nat) (w : World) (hs : d.size ≤ maxLen) (h : rdB d.data.toList = k) (hn : rdN d.data.toList = n) :
    Calls Tryz.prog 75 #[.string d] w fun e w' => e = .returned (.tuple #[.int .i64 (n : Int), .bool k]) ∧ w = w' := by
  subst h; subst hn; exact read_spec d w hs

set_option maxRecDepth 100000 in
set_option maxHeartbeats 4000000 in
theorem l2Read_any (s : ByteArray) (w : World) (h1 : 1 ≤ s.size) (hs : s.size ≤ 721) :
    Calls Tryz.prog 59 #[.string s] w fun e w' => (∃ (A : Option Addr) (c : Nat) (L : List OE) (b : Bool), e = .returned (.tuple #[.slice A L.length c, .bool b]) ∧ l2F ((s.data.toList.drop 1).length + 1) (s.data.toList.drop 1) [] [] = (L.map enO, b) ∧ L.length ≤ 721 ∧ (∀ j (h : j < L.length), (L[j]).nm.size ≤ 721) ∧ w'.ownsRow w.heap.size 102 3 (.slice A L.length c) L.length (cellsO L)) ∧ Below w.heap.size w w' := by
  obtain ⟨i0, hi, hz0, hz1, hz2⟩ := info_parts infoO
  have O0 : (w.alloc (.cells #[] 102)).ownsRow w.heap.size 102 3 (.slice (some ⟨w.heap.size, 0, none⟩) 0 0) 0 [] := World.ownsRow_lit w #[] 0 (Nat.le_refl _) (by unfold maxLen; omega) rfl
  have B0 : Below w.heap.size w (w.alloc (.cells #[] 102)) := (Below.refl _ w).alloc (Nat.le_refl _) _
  have kc := conv1
  generalize hZ : l2F ((s.data.toList.drop 1).length + 1) (s.data.toList.drop 1) [] [] = Z
  have HZ : Hid (l2F ((s.data.toList.drop 1).length + 1) (s.data.toList.drop 1) [] [] = Z) := hZ
  clear hZ
  go_enter Tryz.func59, Tryz.ntmps59
  go_wp2
  go_loopw [4, 5, 6] (fun ov nv iv wr => ∃ (k : Nat) (nm : ByteArray) (L : List OE) (A : Option Addr) (c : Nat), 1 ≤ k ∧ k ≤ s.size ∧ iv = .int .i64 k ∧ nv = .string nm ∧ nm.size ≤ k ∧ ov = .slice A L.length c ∧ L.length ≤ k ∧ Hid (∃ f, (s.data.toList.drop k).length < f ∧ l2F f (s.data.toList.drop k) nm.data.toList (L.map enO) = Z) ∧ Hid (∀ j (h : j < L.length), (L[j]).nm.size ≤ 721) ∧ wr.ownsRow w.heap.size 102 3 (.slice A L.length c) L.length (cellsO L) ∧ Below w.heap.size w wr) (fun _ _ iv _ => s.size - (intOf iv).toNat)
  case atStart => exact ⟨1, ⟨#[]⟩, [], some ⟨w.heap.size, 0, none⟩, 0, Nat.le_refl _, h1, rfl, rfl, by decide, rfl, by simp, ⟨_, Nat.lt_succ_self _, HZ.out⟩, (show ∀ j (h : j < ([] : List OE).length), _ from fun j h => by simp at h), O0, B0⟩
  case round =>
    clear O0 B0
    obtain ⟨k, nm, L, A, c, hk1, hk, rfl, rfl, hnm, rfl, hL, HF, HN, hown, B⟩ := hrel
    have hsz := B.size
    by_cases hlt : k < s.size
    · have hd : s.data.toList.drop k = s[k] :: s.data.toList.drop (k + 1) := drop_at s k hlt
      have hdl : (s.data.toList.drop (k + 1)).length = s.size - (k + 1) := by rw [List.length_drop, len_dat]
      by_cases hm : s[k] = 61 ∨ s[k] = 47
      · have hq : ((((s[k]).toNat : Int) == 61) = true) ∨ ((((s[k]).toNat : Int) == 61) = false ∧ (((s[k]).toNat : Int) == 47) = true) := by
          rcases hm with e | e <;> rw [e]
          · exact .inl rfl
          · exact .inr ⟨rfl, rfl⟩
        by_cases h9 : s.size < k + 9
        · have HR : Hid (Z = ([], false)) := by
            obtain ⟨f, hf, e⟩ := HF.out
            show _ = _
            obtain ⟨g, rfl⟩ : ∃ g, f = g + 1 := ⟨f - 1, by omega⟩
            rw [hd, l2_mark _ _ _ _ _ hm, if_pos (by omega)] at e
            exact e.symm
          clear hm hd hdl
          rcases hq with q1 | ⟨q1, q2⟩
          all_goals
            go_wp2
            go_ret2
            exact ⟨⟨some ⟨wr.heap.size, 0, none⟩, 0, [], false, rfl, HR.out, by simp, fun j h => by simp at h, World.ownsRow_lit wr #[] 0 hsz (by unfold maxLen; omega) rfl⟩, B.alloc hsz _⟩
        · have e8 : (s.data.toList.drop (k + 1)).take 8 = (s.extract (k + 1) (k + 9)).data.toList := by
            rw [ext_dat, List.drop_take]; congr 1; omega
          have hz8 : (s.extract (k + 1) (k + 9)).size ≤ maxLen := by rw [ByteArray.size_extract]; unfold maxLen; omega
          cases hr : rdB (s.extract (k + 1) (k + 9)).data.toList
          · have HR : Hid (Z = ([], false)) := by
              obtain ⟨f, hf, e⟩ := HF.out
              show _ = _
              obtain ⟨g, rfl⟩ : ∃ g, f = g + 1 := ⟨f - 1, by omega⟩
              rw [hd, l2_mark _ _ _ _ _ hm, if_neg (by omega), e8, hr] at e
              exact e.symm
            clear hm hd hdl e8
            have hi2 : ((k : Int) + 9) ≤ (s.size : Int) := by omega
            rcases hq with q1 | ⟨q1, q2⟩
            all_goals
              go_wp2_with (go_at_call 75; refine (rd_spec2 _ _ _ _ hz8 hr rfl).mono ?_; rintro e w1 ⟨rfl, rfl⟩)
              go_ret2
              exact ⟨⟨some ⟨wr.heap.size, 0, none⟩, 0, [], false, rfl, HR.out, by simp, fun j h => by simp at h, World.ownsRow_lit wr #[] 0 hsz (by unfold maxLen; omega) rfl⟩, B.alloc hsz _⟩
          · obtain ⟨n, hn⟩ : ∃ n, rdN (s.extract (k + 1) (k + 9)).data.toList = n := ⟨_, rfl⟩
            have hi2 : ((k : Int) + 9) ≤ (s.size : Int) := by omega
            clear hq
            rcases (id hm : s[k] = 61 ∨ s[k] = 47) with e | e
            · have q1 : (((s[k]).toNat : Int) == 61) = true := by rw [e]; rfl
              have q2 : (((s[k]).toNat : Int) == 47) = false := by rw [e]; rfl
              have HF' : Hid (∃ f, (s.data.toList.drop (k + 9)).length < f ∧ l2F f (s.data.toList.drop (k + 9)) [] ((L ++ [(⟨nm, false, (n : Int)⟩ : OE)]).map enO) = Z) := by
                obtain ⟨f, hf, e'⟩ := HF.out
                obtain ⟨g, rfl⟩ : ∃ g, f = g + 1 := ⟨f - 1, by omega⟩
                rw [hd, l2_mark _ _ _ _ _ hm, if_neg (by omega), e8, hr, if_pos rfl, hn, e, List.drop_drop] at e'
                refine ⟨g, ?_, ?_⟩
                · rw [hd] at hf; simp at hf ⊢; omega
                · rw [List.map_append]; exact e'
              clear hm hd hdl e8 e
              go_wp2_with (first
                | (go_at_call 75; refine (rd_spec2 _ _ n _ hz8 hr hn).mono ?_; rintro e w1 ⟨rfl, rfl⟩)
                | (at_builtin; refine wpList_append_own _ rfl _ _ 66 rfl w.heap.size 102 i0 (.agg #[.string ByteArray.empty, .bool false, .int .i64 0]) 3 32 Tryz.underlying66 hi hz0 hz1 hz2 rfl (by decide) _ _ _ rfl (hown.alloc _) ⟨wr.heap.size, 0, none⟩ 1 1 [.string nm, .bool false, .int .i64 (n : Int)] rfl rfl (cells_new _ #[.string nm, .bool false, .int .i64 (n : Int)] _) (fun u hu => by simp at hu; rcases hu with rfl | rfl | rfl <;> rfl) (by unfold maxLen; omega) (by omega) (by simp; omega) ?_; intro v' w3 hown' hgrow3 _; obtain ⟨A', c', rfl, _⟩ := rdO_of_own (L := L ++ [(⟨nm, false, (n : Int)⟩ : OE)]) (by simpa [cellsO_snoc] using hown')))
              have B3 := growOwn (B.alloc hsz (.cells #[.string nm, .bool false, .int .i64 (n : Int)] 102)) (by simp; omega) (hown.alloc _) hgrow3 (Nat.le_refl _)
              go_roundw
              case rel => exact ⟨k + 9, ⟨#[]⟩, L ++ [(⟨nm, false, (n : Int)⟩ : OE)], A', c', by omega, by omega, by go_num, rfl, by show 0 ≤ _; omega, by simp, by simp; omega, HF', fun j h => by
                  by_cases hj : j < L.length
                  · rw [List.getElem_append_left hj]; exact HN.out j hj
                  · rw [List.getElem_append_right (by omega)]; simp; omega, by simpa [cellsO_snoc] using hown', B3⟩
              case measure => simp [intOf]; omega
            · have q1 : (((s[k]).toNat : Int) == 61) = false := by rw [e]; rfl
              have q2 : (((s[k]).toNat : Int) == 47) = true := by rw [e]; rfl
              have HF' : Hid (∃ f, (s.data.toList.drop (k + 9)).length < f ∧ l2F f (s.data.toList.drop (k + 9)) [] ((L ++ [(⟨nm, true, (n : Int)⟩ : OE)]).map enO) = Z) := by
                obtain ⟨f, hf, e'⟩ := HF.out
                obtain ⟨g, rfl⟩ : ∃ g, f = g + 1 := ⟨f - 1, by omega⟩
                rw [hd, l2_mark _ _ _ _ _ hm, if_neg (by omega), e8, hr, if_pos rfl, hn, e, List.drop_drop] at e'
                refine ⟨g, ?_, ?_⟩
                · rw [hd] at hf; simp at hf ⊢; omega
                · rw [List.map_append]; exact e'
              clear hm hd hdl e8 e
              go_wp2_with (first
                | (go_at_call 75; refine (rd_spec2 _ _ n _ hz8 hr hn).mono ?_; rintro e w1 ⟨rfl, rfl⟩)
                | (at_builtin; refine wpList_append_own _ rfl _ _ 66 rfl w.heap.size 102 i0 (.agg #[.string ByteArray.empty, .bool false, .int .i64 0]) 3 32 Tryz.underlying66 hi hz0 hz1 hz2 rfl (by decide) _ _ _ rfl (hown.alloc _) ⟨wr.heap.size, 0, none⟩ 1 1 [.string nm, .bool true, .int .i64 (n : Int)] rfl rfl (cells_new _ #[.string nm, .bool true, .int .i64 (n : Int)] _) (fun u hu => by simp at hu; rcases hu with rfl | rfl | rfl <;> rfl) (by unfold maxLen; omega) (by omega) (by simp; omega) ?_; intro v' w3 hown' hgrow3 _; obtain ⟨A', c', rfl, _⟩ := rdO_of_own (L := L ++ [(⟨nm, true, (n : Int)⟩ : OE)]) (by simpa [cellsO_snoc] using hown')))
              have B3 := growOwn (B.alloc hsz (.cells #[.string nm, .bool true, .int .i64 (n : Int)] 102)) (by simp; omega) (hown.alloc _) hgrow3 (Nat.le_refl _)
              go_roundw
              case rel => exact ⟨k + 9, ⟨#[]⟩, L ++ [(⟨nm, true, (n : Int)⟩ : OE)], A', c', by omega, by omega, by go_num, rfl, by show 0 ≤ _; omega, by simp, by simp; omega, HF', fun j h => by
                  by_cases hj : j < L.length
                  · rw [List.getElem_append_left hj]; exact HN.out j hj
                  · rw [List.getElem_append_right (by omega)]; simp; omega, by simpa [cellsO_snoc] using hown', B3⟩
              case measure => simp [intOf]; omega
      · have q1 : (((s[k]).toNat : Int) == 61) = false := by
          have := is_c (s[k]) 61
          rw [decide_eq_false (fun e => hm (.inl e))] at this; exact this
        have q2 : (((s[k]).toNat : Int) == 47) = false := by
          have := is_c (s[k]) 47
          rw [decide_eq_false (fun e => hm (.inr e))] at this; exact this
        have HF' : Hid (∃ f, (s.data.toList.drop (k + 1)).length < f ∧ l2F f (s.data.toList.drop (k + 1)) (nm ++ ⟨#[s[k]]⟩).data.toList (L.map enO) = Z) := by
          obtain ⟨f, hf, e'⟩ := HF.out
          obtain ⟨g, rfl⟩ : ∃ g, f = g + 1 := ⟨f - 1, by omega⟩
          rw [hd, l2_else _ _ _ _ _ hm] at e'
          refine ⟨g, by rw [hd] at hf; simp at hf ⊢; omega, ?_⟩
          have : (nm ++ (⟨#[s[k]]⟩ : ByteArray)).data.toList = nm.data.toList ++ [s[k]] := by simp
          rw [this]; exact e'
        clear hm hd hdl
        go_wp2
        go_roundw
        case rel => exact ⟨k + 1, nm ++ ⟨#[s[k]]⟩, L, A, c, by omega, by omega, by go_num, rfl, by rw [ByteArray.size_append]; show nm.size + 1 ≤ _; omega, rfl, by omega, HF', HN, hown.alloc _, B.alloc hsz _⟩
        case measure => simp [intOf]; omega
    · obtain rfl : k = s.size := by omega
      have HR : Hid (Z = (L.map enO, decide (nm.data.toList = []))) := by
        obtain ⟨f, hf, e⟩ := HF.out
        show _ = _
        rw [List.drop_of_length_le (by rw [len_dat]; omega), l2_end f _ _ (by omega)] at e
        exact e.symm
      cases hz : nm.toList.isEmpty
      · have hd : decide (nm.data.toList = []) = false := by
          rw [Lib.toList_data] at hz
          exact decide_eq_false (fun e => by rw [e] at hz; cases hz)
        go_wp2
        go_ret2
        exact ⟨⟨A, c, L, false, rfl, by rw [HR.out, hd], by omega, HN.out, hown⟩, B⟩
      · have hd : decide (nm.data.toList = []) = true := by
          rw [Lib.toList_data] at hz
          exact decide_eq_true (by simpa using hz)
        go_wp2
        go_ret2
        exact ⟨⟨A, c, L, true, rfl, by rw [HR.out, hd], by omega, HN.out, hown⟩, B⟩
end Go.Proofs.YtcmbcaipnjokjaaGreatDoor.W
