/-
  The walks of PthFirst and PthRest, of the program and of the specification. Texts of at most 4194304 bytes.
  The walks of PthUnder and PthJoin, of the program and of the specification. Texts of at most 1048576 bytes.
  'Under' is an order on texts that are paths, and the laws' last look, 'chOk', is true.
-/
import Derived.Test.YthfffpdkmoclbaaGreatDoorMg04
namespace Go.Proofs.YthfffpdkmoclbaaGreatDoor.W
open Go.RowKit Go.Proofs.YthfffpdkmoclbaaGreatDoor.M

theorem ok_yes (s : ByteArray) (w : World) (hs : s.size ≤ 4194304) (h : pthB s.data.toList = true) :
    Calls Tryz.prog 120 #[.string s] w fun e w' => e = .returned (.bool true) ∧ Below w.heap.size w w' := by
  have := ok_any s w hs; rwa [h] at this
theorem ok_no (s : ByteArray) (w : World) (hs : s.size ≤ 4194304) (h : pthB s.data.toList = false) :
    Calls Tryz.prog 120 #[.string s] w fun e w' => e = .returned (.bool false) ∧ Below w.heap.size w w' := by
  have := ok_any s w hs; rwa [h] at this
theorem sok_yes (s : ByteArray) (w : World) (hs : s.size ≤ 4194304) (h : pthB s.data.toList = true) :
    Calls Tryz.prog 69 #[.string s] w fun e w' => e = .returned (.bool true) ∧ Below w.heap.size w w' := by
  have := pthOk_spec s w hs; rwa [h] at this
theorem sok_no (s : ByteArray) (w : World) (hs : s.size ≤ 4194304) (h : pthB s.data.toList = false) :
    Calls Tryz.prog 69 #[.string s] w fun e w' => e = .returned (.bool false) ∧ Below w.heap.size w w' := by
  have := pthOk_spec s w hs; rwa [h] at this
theorem ret_ss {a b c d : ByteArray} (h1 : a = b) (h2 : c = d) : Ending.returned (.tuple #[.string a, .string c]) = .returned (.tuple #[.string b, .string d]) := by rw [h1, h2]

set_option maxHeartbeats 400000 in
theorem pcut_any (s : ByteArray) (w : World) (hs : s.size ≤ 4194304) :
    Calls Tryz.prog 149 #[.string s] w fun e w' => e = .returned (.tuple #[.string ⟨(firstL s.data.toList).toArray⟩, .string ⟨(restL s.data.toList).toArray⟩]) ∧ Below w.heap.size w w' := by
  unfold firstL restL
  cases h : pthB s.data.toList
  · simp only [Bool.false_eq_true, if_false]
    have HP : Hid (pthB s.data.toList = false) := h
    clear h
    go_enter Tryz.func149, Tryz.ntmps149
    go_wp2_with (go_at_call 120; refine (ok_no _ _ hs HP.out).mono ?_; rintro e w1 ⟨rfl, hb1⟩)
    go_ret2
    exact ⟨rfl, hb1⟩
  · simp only [if_true]
    have HP : Hid (pthB s.data.toList = true) := h
    clear h
    go_enter Tryz.func149, Tryz.ntmps149
    go_wp2_with (first | (go_at_call 120; refine (ok_yes _ _ hs HP.out).mono ?_; rintro e w1 ⟨rfl, hb1⟩) | (go_at_call 165; refine (cut_any _ _ hs).mono ?_; rintro e w2 ⟨rfl, n, rfl⟩))
    go_ret2
    exact ⟨rfl, below_drewN hb1 n⟩

set_option maxHeartbeats 400000 in
theorem first_impl (s : ByteArray) (w : World) (hs : s.size ≤ 4194304) :
    Calls Tryz.prog 123 #[.string s] w fun e w' => e = .returned (.string ⟨(firstL s.data.toList).toArray⟩) ∧ Below w.heap.size w w' := by
  go_enter Tryz.func123, Tryz.ntmps123
  go_wp2_with (go_at_call 149; refine (pcut_any _ _ hs).mono ?_; rintro e w1 ⟨rfl, hb1⟩)
  go_ret
  exact ⟨rfl, hb1⟩
set_option maxHeartbeats 400000 in
theorem rest_impl (s : ByteArray) (w : World) (hs : s.size ≤ 4194304) :
    Calls Tryz.prog 150 #[.string s] w fun e w' => e = .returned (.string ⟨(restL s.data.toList).toArray⟩) ∧ Below w.heap.size w w' := by
  go_enter Tryz.func150, Tryz.ntmps150
  go_wp2_with (go_at_call 149; refine (pcut_any _ _ hs).mono ?_; rintro e w1 ⟨rfl, hb1⟩)
  go_ret
  exact ⟨rfl, hb1⟩
set_option maxHeartbeats 400000 in
theorem first_spec (s : ByteArray) (w : World) (hs : s.size ≤ 4194304) :
    Calls Tryz.prog 127 #[.string s] w fun e w' => e = .returned (.string ⟨(firstL s.data.toList).toArray⟩) ∧ Below w.heap.size w w' := by
  unfold firstL
  cases h : pthB s.data.toList
  · simp only [Bool.false_eq_true, if_false]
    have HP : Hid (pthB s.data.toList = false) := h
    clear h
    go_enter Tryz.func127, Tryz.ntmps127
    go_wp2_with (go_at_call 69; refine (sok_no _ _ hs HP.out).mono ?_; rintro e w1 ⟨rfl, hb1⟩)
    go_ret
    exact ⟨rfl, hb1⟩
  · simp only [if_true]
    have HP : Hid (pthB s.data.toList = true) := h
    clear h
    obtain ⟨t, ht⟩ := spl_head s.data.toList
    have HT : Hid (spl s.data.toList = bef s.data.toList :: t) := ht
    have hpos : 0 < (spl s.data.toList).length := by rw [ht]; simp
    clear ht
    go_enter Tryz.func127, Tryz.ntmps127
    go_wp2_with (first | (go_at_call 69; refine (sok_yes _ _ hs HP.out).mono ?_; rintro e w1 ⟨rfl, hb1⟩) | (go_at_call 105; refine (l1Cut_any _ _ hs).mono ?_; rintro e w2 ⟨g, cap, rfl, hown, hb2⟩; have hcell : w2.cell? ⟨g, 0, none⟩ = some (.string ⟨(bef s.data.toList).toArray⟩) := (hown.cellAt 0 (by omega)).trans (by rw [HT.out]; rfl)))
    go_ret
    exact ⟨rfl, hb1.trans (hb2.mono hb1.size)⟩
set_option maxHeartbeats 400000 in
theorem rest_spec (s : ByteArray) (w : World) (hs : s.size ≤ 4194304) :
    Calls Tryz.prog 128 #[.string s] w fun e w' => e = .returned (.string ⟨(restL s.data.toList).toArray⟩) ∧ Below w.heap.size w w' := by
  unfold restL
  cases h : pthB s.data.toList
  · simp only [Bool.false_eq_true, if_false]
    have HP : Hid (pthB s.data.toList = false) := h
    clear h
    go_enter Tryz.func128, Tryz.ntmps128
    go_wp2_with (go_at_call 69; refine (sok_no _ _ hs HP.out).mono ?_; rintro e w1 ⟨rfl, hb1⟩)
    go_ret
    exact ⟨rfl, hb1⟩
  · simp only [if_true]
    have HP : Hid (pthB s.data.toList = true) := h
    clear h
    go_enter Tryz.func128, Tryz.ntmps128
    go_wp2_with (go_at_call 69; refine (sok_yes _ _ hs HP.out).mono ?_; rintro e w1 ⟨rfl, hb1⟩)
    go_loop [3] (fun i => ∃ k : Nat, k ≤ s.size ∧ i = .int .i64 k ∧ Hid (∀ j, j < k → s.data.toList[j]? ≠ some 47)) (fun i => s.size - (intOf i).toNat)
    case atStart => exact ⟨0, Nat.zero_le _, rfl, fun j hj => by omega⟩
    case round =>
      obtain ⟨k, hk, rfl, HA⟩ := hrel
      by_cases hlt : k < s.size
      · have HI : Hid (s.data.toList[k]? = some s[k]) := at_idx s k hlt
        cases hc : (((s[k].toNat : Int)) == 47)
        · have HC : Hid ((((s[k].toNat : Int)) == 47) = false) := hc
          go_wp2
          go_round
          case rel =>
            refine ⟨k + 1, by omega, by go_num, fun j hj => ?_⟩
            by_cases e : j = k
            · subst e; rw [HI.out]; intro e2; exact no_stroke _ HC.out (Option.some.inj e2)
            · exact HA.out j (by omega)
          case measure => simp [intOf]; omega
        · have HC : Hid ((((s[k].toNat : Int)) == 47) = true) := hc
          go_wp2
          go_ret
          exact ⟨ret_str (by rw [aft_of s.data.toList k (by simpa using hlt) HA.out (by rw [HI.out, is_stroke _ HC.out])]; exact extract_suf s (k + 1)), hb1⟩
      · go_wp2
        go_ret
        exact ⟨ret_str (by rw [aft_none s.data.toList (fun j hj => HA.out j (by simp at hj; omega))]), hb1⟩
end Go.Proofs.YthfffpdkmoclbaaGreatDoor.W
namespace Go.Proofs.YthfffpdkmoclbaaGreatDoor.W
open Go.RowKit Go.Proofs.YthfffpdkmoclbaaGreatDoor.M

theorem list_eq_iff (a b : ByteArray) : a.data.toList = b.data.toList ↔ a = b := by
  constructor
  · intro h; cases a; cases b; congr; exact Array.toList_inj.1 h
  · rintro rfl; rfl

theorem eqS (a b : ByteArray) : (a.toList == b.toList) = decide (a.data.toList = b.data.toList) := by
  rw [Lib.toList_data, Lib.toList_data, Bool.eq_iff_iff]; simp
theorem pre_eq (s p : ByteArray) : ((s.extract 0 p.size).toList == p.toList) = p.data.toList.isPrefixOf s.data.toList := by
  rw [eqS, extract_pre, Bool.eq_iff_iff, decide_eq_true_iff, List.isPrefixOf_iff_prefix]
  constructor
  · intro e; rw [← e]; exact List.take_prefix _ _
  · rintro ⟨t, e⟩
    show s.data.toList.take p.size = p.data.toList
    rw [← e]; simp
theorem not_pre (s p : ByteArray) (h : ¬ p.size ≤ s.size) : p.data.toList.isPrefixOf s.data.toList = false := by
  rw [Bool.eq_false_iff]; intro e
  have := (List.isPrefixOf_iff_prefix.1 e).length_le
  simp at this; omega

set_option maxHeartbeats 400000 in
theorem hasPrefix_any (s p : ByteArray) (w : World) :
    Calls Tryz.prog 148 #[.string s, .string p] w fun e w' => e = .returned (.bool (p.data.toList.isPrefixOf s.data.toList)) ∧ w = w' := by
  by_cases h : p.size ≤ s.size
  · go_enter Tryz.func148, Tryz.ntmps148
    go_wp2
    go_ret
    exact ⟨ret_bool (pre_eq s p), rfl⟩
  · go_enter Tryz.func148, Tryz.ntmps148
    go_wp2
    go_ret
    exact ⟨ret_bool (by rw [not_pre s p h]), rfl⟩

theorem und_no1 (a b : List UInt8) (h : pthB a = false) : undB a b = false := by simp [undB, h]
theorem und_no2 (a b : List UInt8) (h : pthB b = false) : undB a b = false := by simp [undB, h]
theorem und_yes (a b : List UInt8) (h : pthB a = true) (h2 : pthB b = true) : undB a b = (decide (a = []) || decide (a = b) || (a ++ [47]).isPrefixOf b) := by simp [undB, h, h2]
theorem und_nil (a b : List UInt8) (h : pthB a = true) (h2 : pthB b = true) (e : a = []) : undB a b = true := by rw [und_yes a b h h2]; simp [e]
theorem und_same (a b : List UInt8) (h : pthB a = true) (h2 : pthB b = true) (e : a = b) : undB a b = true := by rw [und_yes a b h h2]; simp [e]
theorem und_else (a b : List UInt8) (h : pthB a = true) (h2 : pthB b = true) (e : a ≠ []) (e2 : a ≠ b) : undB a b = (a ++ [47]).isPrefixOf b := by rw [und_yes a b h h2]; simp [e, e2]
theorem nonempty_f (a : ByteArray) (e : a.data.toList ≠ []) : a.toList.isEmpty = false := by rw [isEmpty_list]; simpa using e
theorem empty_t (a : ByteArray) (e : a.data.toList = []) : a.toList.isEmpty = true := by rw [isEmpty_list, e]; rfl
theorem eq_f (a b : ByteArray) (e : a.data.toList ≠ b.data.toList) : (a.toList == b.toList) = false := by rw [eqS]; simpa using e

set_option maxHeartbeats 800000 in
theorem covers_any (a b : ByteArray) (w : World) (ha : a.size ≤ 1048576) (hb : b.size ≤ 1048576) :
    Calls Tryz.prog 121 #[.string a, .string b] w fun e w' => e = .returned (.bool (undB a.data.toList b.data.toList)) ∧ Below w.heap.size w w' := by
  have hsa : a.size ≤ 4194304 := by omega
  have hsb : b.size ≤ 4194304 := by omega
  cases h1 : pthB a.data.toList
  · rw [und_no1 _ _ h1]
    have HP : Hid (pthB a.data.toList = false) := h1
    clear h1
    go_enter Tryz.func121, Tryz.ntmps121
    go_wp2_with (go_at_call 120; refine (ok_no _ _ hsa HP.out).mono ?_; rintro e w1 ⟨rfl, hb1⟩)
    go_ret
    exact ⟨rfl, hb1⟩
  · have HP : Hid (pthB a.data.toList = true) := h1
    cases h2 : pthB b.data.toList
    · rw [und_no2 _ _ h2]
      have HQ : Hid (pthB b.data.toList = false) := h2
      clear h1 h2
      go_enter Tryz.func121, Tryz.ntmps121
      go_wp2_with (first | (go_at_call 120; refine (ok_yes _ _ hsa HP.out).mono ?_; rintro e w1 ⟨rfl, hb1⟩; clear HP) | (go_at_call 120; refine (ok_no _ _ hsb HQ.out).mono ?_; rintro e w2 ⟨rfl, hb2⟩))
      go_ret
      exact ⟨rfl, hb1.trans (hb2.mono hb1.size)⟩
    · have HQ : Hid (pthB b.data.toList = true) := h2
      by_cases e1 : a.data.toList = []
      · rw [und_nil _ _ h1 h2 e1]
        have he := empty_t a e1
        clear h1 h2 e1
        go_enter Tryz.func121, Tryz.ntmps121
        go_wp2_with (first | (go_at_call 120; refine (ok_yes _ _ hsa HP.out).mono ?_; rintro e w1 ⟨rfl, hb1⟩; clear HP) | (go_at_call 120; refine (ok_yes _ _ hsb HQ.out).mono ?_; rintro e w2 ⟨rfl, hb2⟩))
        go_ret
        exact ⟨rfl, hb1.trans (hb2.mono hb1.size)⟩
      · have he := nonempty_f a e1
        by_cases e2 : a.data.toList = b.data.toList
        · rw [und_same _ _ h1 h2 e2]
          have hq : (a.toList == b.toList) = true := by rw [eqS]; simpa using e2
          clear h1 h2 e1 e2
          go_enter Tryz.func121, Tryz.ntmps121
          go_wp2_with (first | (go_at_call 120; refine (ok_yes _ _ hsa HP.out).mono ?_; rintro e w1 ⟨rfl, hb1⟩; clear HP) | (go_at_call 120; refine (ok_yes _ _ hsb HQ.out).mono ?_; rintro e w2 ⟨rfl, hb2⟩))
          go_ret
          exact ⟨rfl, hb1.trans (hb2.mono hb1.size)⟩
        · rw [und_else _ _ h1 h2 e1 e2]
          have hq := eq_f a b e2
          clear h1 h2 e1 e2
          go_enter Tryz.func121, Tryz.ntmps121
          go_wp2_with (first | (go_at_call 120; refine (ok_yes _ _ hsa HP.out).mono ?_; rintro e w1 ⟨rfl, hb1⟩; clear HP) | (go_at_call 120; refine (ok_yes _ _ hsb HQ.out).mono ?_; rintro e w2 ⟨rfl, hb2⟩) | (go_at_call 148; refine (hasPrefix_any _ _ _).mono ?_; rintro e w3 ⟨rfl, rfl⟩))
          go_ret
          exact ⟨ret_bool rfl, hb1.trans (hb2.mono hb1.size)⟩

theorem under_impl (a b : ByteArray) (w : World) (ha : a.size ≤ 1048576) (hb : b.size ≤ 1048576) :
    Calls Tryz.prog 98 #[.string a, .string b] w fun e w' => e = .returned (.bool (undB a.data.toList b.data.toList)) ∧ Below w.heap.size w w' := by
  go_enter Tryz.func98, Tryz.ntmps98
  go_wp2_with (go_at_call 121; refine (covers_any _ _ _ ha hb).mono ?_; rintro e w1 ⟨rfl, hb1⟩)
  go_ret
  exact ⟨rfl, hb1⟩

theorem pre_short (a b : ByteArray) (h : ¬ a.size < b.size) : (a.data.toList ++ [47]).isPrefixOf b.data.toList = false := by
  rw [prefix_snoc, decide_eq_false (by simpa using h)]; rfl
theorem pre_part (a b : ByteArray) (h2 : ((b.extract 0 a.size).toList == a.toList) = false) : (a.data.toList ++ [47]).isPrefixOf b.data.toList = false := by
  rw [prefix_snoc]
  have e : decide (b.data.toList.take a.data.toList.length = a.data.toList) = false := by
    rw [eqS, extract_pre] at h2
    have : decide (b.data.toList.take a.size = a.data.toList) = false := h2
    simpa using this
  rw [e]; simp
theorem pre_whole (a b : ByteArray) (h : a.size < b.size) (h2 : ((b.extract 0 a.size).toList == a.toList) = true) : (((b[a.size].toNat : Int)) == 47) = (a.data.toList ++ [47]).isPrefixOf b.data.toList := by
  rw [prefix_snoc]
  have e : decide (b.data.toList.take a.data.toList.length = a.data.toList) = true := by
    rw [eqS, extract_pre] at h2
    have : decide (b.data.toList.take a.size = a.data.toList) = true := h2
    simpa using this
  have e2 : decide (a.data.toList.length < b.data.toList.length) = true := by simpa using h
  have e3 : b.data.toList[a.data.toList.length]? = some b[a.size] := by
    have := at_idx b a.size h; simpa using this
  rw [e, e2, e3, Bool.eq_iff_iff]
  constructor
  · intro hh; rw [is_stroke _ hh]; simp
  · intro hh; simp at hh; rw [hh]; decide

set_option maxHeartbeats 800000 in
theorem under_spec (a b : ByteArray) (w : World) (ha : a.size ≤ 1048576) (hb : b.size ≤ 1048576) :
    Calls Tryz.prog 70 #[.string a, .string b] w fun e w' => e = .returned (.bool (undB a.data.toList b.data.toList)) ∧ Below w.heap.size w w' := by
  have hsa : a.size ≤ 4194304 := by omega
  have hsb : b.size ≤ 4194304 := by omega
  cases h1 : pthB a.data.toList
  · rw [und_no1 _ _ h1]
    have HP : Hid (pthB a.data.toList = false) := h1
    clear h1
    go_enter Tryz.func70, Tryz.ntmps70
    go_wp2_with (go_at_call 69; refine (sok_no _ _ hsa HP.out).mono ?_; rintro e w1 ⟨rfl, hb1⟩)
    go_ret
    exact ⟨rfl, hb1⟩
  · have HP : Hid (pthB a.data.toList = true) := h1
    cases h2 : pthB b.data.toList
    · rw [und_no2 _ _ h2]
      have HQ : Hid (pthB b.data.toList = false) := h2
      clear h1 h2
      go_enter Tryz.func70, Tryz.ntmps70
      go_wp2_with (first | (go_at_call 69; refine (sok_yes _ _ hsa HP.out).mono ?_; rintro e w1 ⟨rfl, hb1⟩; clear HP) | (go_at_call 69; refine (sok_no _ _ hsb HQ.out).mono ?_; rintro e w2 ⟨rfl, hb2⟩))
      go_ret
      exact ⟨rfl, hb1.trans (hb2.mono hb1.size)⟩
    · have HQ : Hid (pthB b.data.toList = true) := h2
      by_cases e1 : a.data.toList = []
      · rw [und_nil _ _ h1 h2 e1]
        have he := empty_t a e1
        clear h1 h2 e1
        go_enter Tryz.func70, Tryz.ntmps70
        go_wp2_with (first | (go_at_call 69; refine (sok_yes _ _ hsa HP.out).mono ?_; rintro e w1 ⟨rfl, hb1⟩; clear HP) | (go_at_call 69; refine (sok_yes _ _ hsb HQ.out).mono ?_; rintro e w2 ⟨rfl, hb2⟩))
        go_ret
        exact ⟨rfl, hb1.trans (hb2.mono hb1.size)⟩
      · have he := nonempty_f a e1
        by_cases e2 : a.data.toList = b.data.toList
        · rw [und_same _ _ h1 h2 e2]
          have hq : (a.toList == b.toList) = true := by rw [eqS]; simpa using e2
          clear h1 h2 e1 e2
          go_enter Tryz.func70, Tryz.ntmps70
          go_wp2_with (first | (go_at_call 69; refine (sok_yes _ _ hsa HP.out).mono ?_; rintro e w1 ⟨rfl, hb1⟩; clear HP) | (go_at_call 69; refine (sok_yes _ _ hsb HQ.out).mono ?_; rintro e w2 ⟨rfl, hb2⟩))
          go_ret
          exact ⟨rfl, hb1.trans (hb2.mono hb1.size)⟩
        · rw [und_else _ _ h1 h2 e1 e2]
          have hq := eq_f a b e2
          clear h1 h2 e1 e2
          by_cases h3 : a.size < b.size
          · cases h4 : ((b.extract 0 a.size).toList == a.toList)
            · have H4 : Hid (((b.extract 0 a.size).toList == a.toList) = false) := h4
              go_enter Tryz.func70, Tryz.ntmps70
              go_wp2_with (first | (go_at_call 69; refine (sok_yes _ _ hsa HP.out).mono ?_; rintro e w1 ⟨rfl, hb1⟩; clear HP) | (go_at_call 69; refine (sok_yes _ _ hsb HQ.out).mono ?_; rintro e w2 ⟨rfl, hb2⟩))
              go_ret
              exact ⟨ret_bool (by rw [pre_part a b H4.out]), hb1.trans (hb2.mono hb1.size)⟩
            · have H4 : Hid (((b.extract 0 a.size).toList == a.toList) = true) := h4
              go_enter Tryz.func70, Tryz.ntmps70
              go_wp2_with (first | (go_at_call 69; refine (sok_yes _ _ hsa HP.out).mono ?_; rintro e w1 ⟨rfl, hb1⟩; clear HP) | (go_at_call 69; refine (sok_yes _ _ hsb HQ.out).mono ?_; rintro e w2 ⟨rfl, hb2⟩))
              go_ret
              exact ⟨ret_bool (pre_whole a b h3 H4.out), hb1.trans (hb2.mono hb1.size)⟩
          · go_enter Tryz.func70, Tryz.ntmps70
            go_wp2_with (first | (go_at_call 69; refine (sok_yes _ _ hsa HP.out).mono ?_; rintro e w1 ⟨rfl, hb1⟩; clear HP) | (go_at_call 69; refine (sok_yes _ _ hsb HQ.out).mono ?_; rintro e w2 ⟨rfl, hb2⟩))
            go_ret
            exact ⟨ret_bool (by rw [pre_short a b h3]), hb1.trans (hb2.mono hb1.size)⟩
end Go.Proofs.YthfffpdkmoclbaaGreatDoor.W
namespace Go.Proofs.YthfffpdkmoclbaaGreatDoor.W
open Go.RowKit Go.Proofs.YthfffpdkmoclbaaGreatDoor.M

theorem und_iff (a b : List UInt8) : undB a b = true ↔ pthB a = true ∧ pthB b = true ∧ (a = [] ∨ a = b ∨ (a ++ [47]) <+: b) := by
  simp [undB, Bool.and_eq_true, and_assoc, List.isPrefixOf_iff_prefix, or_assoc]
theorem und_trans (a b c : List UInt8) (h1 : undB a b = true) (h2 : undB b c = true) : undB a c = true := by
  rw [und_iff] at *
  obtain ⟨ha, _, h1⟩ := h1
  obtain ⟨_, hc, h2⟩ := h2
  refine ⟨ha, hc, ?_⟩
  rcases h1 with h1 | h1 | h1
  · exact .inl h1
  · subst h1; exact h2
  · rcases h2 with h2 | h2 | h2
    · subst h2; have := h1.length_le; simp at this
    · subst h2; exact .inr (.inr h1)
    · exact .inr (.inr (h1.trans ((List.prefix_append b [47]).trans h2)))
theorem und_anti (a b : List UInt8) (h1 : undB a b = true) (h2 : undB b a = true) : a = b := by
  rw [und_iff] at *
  obtain ⟨_, _, h1⟩ := h1
  obtain ⟨_, _, h2⟩ := h2
  rcases h1 with h1 | h1 | h1
  · rcases h2 with h2 | h2 | h2
    · rw [h1, h2]
    · exact h2.symm
    · subst h1; have := h2.length_le; simp at this
  · exact h1
  · have l1 := h1.length_le
    simp at l1
    rcases h2 with h2 | h2 | h2
    · subst h2; simp at l1
    · exact h2.symm
    · have l2 := h2.length_le; simp at l2; omega
theorem und_self (a : List UInt8) : undB a a = pthB a := by
  unfold undB; simp
theorem und_none (a : List UInt8) : undB [] a = pthB a := by
  unfold undB; rw [pth_nil]; simp
theorem eq_t (a b : ByteArray) (e : a.data.toList = b.data.toList) : (a.toList == b.toList) = true := by rw [eqS]; simpa using e

theorem chOk_any (w : World) : Calls Tryz.prog 15 #[] w fun e w' => e = .returned (.bool true) ∧ w = w' := by
  have hn : namB [97, 98, 99] = true := by decide
  go_enter Tryz.func15, Tryz.ntmps15
  go_wp2_with (go_at_call 57; refine (nam_all _ _).mono ?_; rintro e w' ⟨rfl, rfl⟩)
  go_ret
  exact ⟨ret_bool (by simp), rfl⟩
end Go.Proofs.YthfffpdkmoclbaaGreatDoor.W
