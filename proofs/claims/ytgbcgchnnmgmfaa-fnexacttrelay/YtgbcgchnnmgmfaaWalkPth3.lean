
/-
  The walks of PthUnder and PthJoin, of the program and of the specification. Texts of at most 1048576 bytes.
-/
import Derived.Test.YtgbcgchnnmgmfaaWalkPth2
namespace Go.Proofs.Ytgbcgchnnmgmfaa.W
open Go.RowKit Go.Proofs.Ytgbcgchnnmgmfaa.M

theorem list_eq_iff (a b : ByteArray) : a.data.toList = b.data.toList ↔ a = b := by
  constructor
  · intro h; cases a; cases b; congr; exact Array.toList_inj.1 h
  · rintro rfl; rfl

theorem eqS (a b : ByteArray) : (a.toList == b.toList) = decide (a.data.toList = b.data.toList) := by
  rw [Lib.toList_data, Lib.toList_data, Bool.eq_iff_iff]; simp
theorem pre_eq (s p : ByteArray) : ((s.extract 0 p.size).toList == p.toList) = p.data.toList.isPrefixOf s.data.toList := by
  rw [eqS, extract_pre, Bool.eq_iff_iff, decide_eq_true_iff, List.isPrefixOf_iff_prefix]
  constructor
  · intro e; rw [← e]; exact List.take_prefix _ _
  · rintro ⟨t, e⟩
    show s.data.toList.take p.size = p.data.toList
    rw [← e]; simp
theorem not_pre (s p : ByteArray) (h : ¬ p.size ≤ s.size) : p.data.toList.isPrefixOf s.data.toList = false := by
  rw [Bool.eq_false_iff]; intro e
  have := (List.isPrefixOf_iff_prefix.1 e).length_le
  simp at this; omega

set_option maxHeartbeats 400000 in
theorem hasPrefix_any (s p : ByteArray) (w : World) :
    Calls Try.prog 52 #[.string s, .string p] w fun e w' => e = .returned (.bool (p.data.toList.isPrefixOf s.data.toList)) ∧ w = w' := by
  by_cases h : p.size ≤ s.size
  · go_enter Try.func52, Try.ntmps52
    go_wp2
    go_ret
    exact ⟨ret_bool (pre_eq s p), rfl⟩
  · go_enter Try.func52, Try.ntmps52
    go_wp2
    go_ret
    exact ⟨ret_bool (by rw [not_pre s p h]), rfl⟩

theorem und_no1 (a b : List UInt8) (h : pthB a = false) : undB a b = false := by simp [undB, h]
theorem und_no2 (a b : List UInt8) (h : pthB b = false) : undB a b = false := by simp [undB, h]
theorem und_yes (a b : List UInt8) (h : pthB a = true) (h2 : pthB b = true) : undB a b = (decide (a = []) || decide (a = b) || (a ++ [47]).isPrefixOf b) := by simp [undB, h, h2]
theorem und_nil (a b : List UInt8) (h : pthB a = true) (h2 : pthB b = true) (e : a = []) : undB a b = true := by rw [und_yes a b h h2]; simp [e]
theorem und_same (a b : List UInt8) (h : pthB a = true) (h2 : pthB b = true) (e : a = b) : undB a b = true := by rw [und_yes a b h h2]; simp [e]
theorem und_else (a b : List UInt8) (h : pthB a = true) (h2 : pthB b = true) (e : a ≠ []) (e2 : a ≠ b) : undB a b = (a ++ [47]).isPrefixOf b := by rw [und_yes a b h h2]; simp [e, e2]
theorem nonempty_f (a : ByteArray) (e : a.data.toList ≠ []) : a.toList.isEmpty = false := by rw [isEmpty_list]; simpa using e
theorem empty_t (a : ByteArray) (e : a.data.toList = []) : a.toList.isEmpty = true := by rw [isEmpty_list, e]; rfl
theorem eq_f (a b : ByteArray) (e : a.data.toList ≠ b.data.toList) : (a.toList == b.toList) = false := by rw [eqS]; simpa using e

set_option maxHeartbeats 800000 in
theorem covers_any (a b : ByteArray) (w : World) (ha : a.size ≤ 1048576) (hb : b.size ≤ 1048576) :
    Calls Try.prog 42 #[.string a, .string b] w fun e w' => e = .returned (.bool (undB a.data.toList b.data.toList)) ∧ Below w.heap.size w w' := by
  have hsa : a.size ≤ 4194304 := by omega
  have hsb : b.size ≤ 4194304 := by omega
  cases h1 : pthB a.data.toList
  · rw [und_no1 _ _ h1]
    have HP : Hid (pthB a.data.toList = false) := h1
    clear h1
    go_enter Try.func42, Try.ntmps42
    go_wp2_with (go_at_call 41; refine (ok_no _ _ hsa HP.out).mono ?_; rintro e w1 ⟨rfl, hb1⟩)
    go_ret
    exact ⟨rfl, hb1⟩
  · have HP : Hid (pthB a.data.toList = true) := h1
    cases h2 : pthB b.data.toList
    · rw [und_no2 _ _ h2]
      have HQ : Hid (pthB b.data.toList = false) := h2
      clear h1 h2
      go_enter Try.func42, Try.ntmps42
      go_wp2_with (first | (go_at_call 41; refine (ok_yes _ _ hsa HP.out).mono ?_; rintro e w1 ⟨rfl, hb1⟩; clear HP) | (go_at_call 41; refine (ok_no _ _ hsb HQ.out).mono ?_; rintro e w2 ⟨rfl, hb2⟩))
      go_ret
      exact ⟨rfl, hb1.trans (hb2.mono hb1.size)⟩
    · have HQ : Hid (pthB b.data.toList = true) := h2
      by_cases e1 : a.data.toList = []
      · rw [und_nil _ _ h1 h2 e1]
        have he := empty_t a e1
        clear h1 h2 e1
        go_enter Try.func42, Try.ntmps42
        go_wp2_with (first | (go_at_call 41; refine (ok_yes _ _ hsa HP.out).mono ?_; rintro e w1 ⟨rfl, hb1⟩; clear HP) | (go_at_call 41; refine (ok_yes _ _ hsb HQ.out).mono ?_; rintro e w2 ⟨rfl, hb2⟩))
        go_ret
        exact ⟨rfl, hb1.trans (hb2.mono hb1.size)⟩
      · have he := nonempty_f a e1
        by_cases e2 : a.data.toList = b.data.toList
        · rw [und_same _ _ h1 h2 e2]
          have hq : (a.toList == b.toList) = true := by rw [eqS]; simpa using e2
          clear h1 h2 e1 e2
          go_enter Try.func42, Try.ntmps42
          go_wp2_with (first | (go_at_call 41; refine (ok_yes _ _ hsa HP.out).mono ?_; rintro e w1 ⟨rfl, hb1⟩; clear HP) | (go_at_call 41; refine (ok_yes _ _ hsb HQ.out).mono ?_; rintro e w2 ⟨rfl, hb2⟩))
          go_ret
          exact ⟨rfl, hb1.trans (hb2.mono hb1.size)⟩
        · rw [und_else _ _ h1 h2 e1 e2]
          have hq := eq_f a b e2
          clear h1 h2 e1 e2
          go_enter Try.func42, Try.ntmps42
          go_wp2_with (first | (go_at_call 41; refine (ok_yes _ _ hsa HP.out).mono ?_; rintro e w1 ⟨rfl, hb1⟩; clear HP) | (go_at_call 41; refine (ok_yes _ _ hsb HQ.out).mono ?_; rintro e w2 ⟨rfl, hb2⟩) | (go_at_call 52; refine (hasPrefix_any _ _ _).mono ?_; rintro e w3 ⟨rfl, rfl⟩))
          go_ret
          exact ⟨ret_bool rfl, hb1.trans (hb2.mono hb1.size)⟩

theorem under_impl (a b : ByteArray) (w : World) (ha : a.size ≤ 1048576) (hb : b.size ≤ 1048576) :
    Calls Try.prog 29 #[.string a, .string b] w fun e w' => e = .returned (.bool (undB a.data.toList b.data.toList)) ∧ Below w.heap.size w w' := by
  go_enter Try.func29, Try.ntmps29
  go_wp2_with (go_at_call 42; refine (covers_any _ _ _ ha hb).mono ?_; rintro e w1 ⟨rfl, hb1⟩)
  go_ret
  exact ⟨rfl, hb1⟩

theorem pre_short (a b : ByteArray) (h : ¬ a.size < b.size) : (a.data.toList ++ [47]).isPrefixOf b.data.toList = false := by
  rw [prefix_snoc, decide_eq_false (by simpa using h)]; rfl
theorem pre_part (a b : ByteArray) (h2 : ((b.extract 0 a.size).toList == a.toList) = false) : (a.data.toList ++ [47]).isPrefixOf b.data.toList = false := by
  rw [prefix_snoc]
  have e : decide (b.data.toList.take a.data.toList.length = a.data.toList) = false := by
    rw [eqS, extract_pre] at h2
    have : decide (b.data.toList.take a.size = a.data.toList) = false := h2
    simpa using this
  rw [e]; simp
theorem pre_whole (a b : ByteArray) (h : a.size < b.size) (h2 : ((b.extract 0 a.size).toList == a.toList) = true) : (((b[a.size].toNat : Int)) == 47) = (a.data.toList ++ [47]).isPrefixOf b.data.toList := by
  rw [prefix_snoc]
  have e : decide (b.data.toList.take a.data.toList.length = a.data.toList) = true := by
    rw [eqS, extract_pre] at h2
    have : decide (b.data.toList.take a.size = a.data.toList) = true := h2
    simpa using this
  have e2 : decide (a.data.toList.length < b.data.toList.length) = true := by simpa using h
  have e3 : b.data.toList[a.data.toList.length]? = some b[a.size] := by
    have := at_idx b a.size h; simpa using this
  rw [e, e2, e3, Bool.eq_iff_iff]
  constructor
  · intro hh; rw [is_stroke _ hh]; simp
  · intro hh; simp at hh; rw [hh]; decide

set_option maxHeartbeats 800000 in
theorem under_spec (a b : ByteArray) (w : World) (ha : a.size ≤ 1048576) (hb : b.size ≤ 1048576) :
    Calls Try.prog 22 #[.string a, .string b] w fun e w' => e = .returned (.bool (undB a.data.toList b.data.toList)) ∧ Below w.heap.size w w' := by
  have hsa : a.size ≤ 4194304 := by omega
  have hsb : b.size ≤ 4194304 := by omega
  cases h1 : pthB a.data.toList
  · rw [und_no1 _ _ h1]
    have HP : Hid (pthB a.data.toList = false) := h1
    clear h1
    go_enter Try.func22, Try.ntmps22
    go_wp2_with (go_at_call 21; refine (sok_no _ _ hsa HP.out).mono ?_; rintro e w1 ⟨rfl, hb1⟩)
    go_ret
    exact ⟨rfl, hb1⟩
  · have HP : Hid (pthB a.data.toList = true) := h1
    cases h2 : pthB b.data.toList
    · rw [und_no2 _ _ h2]
      have HQ : Hid (pthB b.data.toList = false) := h2
      clear h1 h2
      go_enter Try.func22, Try.ntmps22
      go_wp2_with (first | (go_at_call 21; refine (sok_yes _ _ hsa HP.out).mono ?_; rintro e w1 ⟨rfl, hb1⟩; clear HP) | (go_at_call 21; refine (sok_no _ _ hsb HQ.out).mono ?_; rintro e w2 ⟨rfl, hb2⟩))
      go_ret
      exact ⟨rfl, hb1.trans (hb2.mono hb1.size)⟩
    · have HQ : Hid (pthB b.data.toList = true) := h2
      by_cases e1 : a.data.toList = []
      · rw [und_nil _ _ h1 h2 e1]
        have he := empty_t a e1
        clear h1 h2 e1
        go_enter Try.func22, Try.ntmps22
        go_wp2_with (first | (go_at_call 21; refine (sok_yes _ _ hsa HP.out).mono ?_; rintro e w1 ⟨rfl, hb1⟩; clear HP) | (go_at_call 21; refine (sok_yes _ _ hsb HQ.out).mono ?_; rintro e w2 ⟨rfl, hb2⟩))
        go_ret
        exact ⟨rfl, hb1.trans (hb2.mono hb1.size)⟩
      · have he := nonempty_f a e1
        by_cases e2 : a.data.toList = b.data.toList
        · rw [und_same _ _ h1 h2 e2]
          have hq : (a.toList == b.toList) = true := by rw [eqS]; simpa using e2
          clear h1 h2 e1 e2
          go_enter Try.func22, Try.ntmps22
          go_wp2_with (first | (go_at_call 21; refine (sok_yes _ _ hsa HP.out).mono ?_; rintro e w1 ⟨rfl, hb1⟩; clear HP) | (go_at_call 21; refine (sok_yes _ _ hsb HQ.out).mono ?_; rintro e w2 ⟨rfl, hb2⟩))
          go_ret
          exact ⟨rfl, hb1.trans (hb2.mono hb1.size)⟩
        · rw [und_else _ _ h1 h2 e1 e2]
          have hq := eq_f a b e2
          clear h1 h2 e1 e2
          by_cases h3 : a.size < b.size
          · cases h4 : ((b.extract 0 a.size).toList == a.toList)
            · have H4 : Hid (((b.extract 0 a.size).toList == a.toList) = false) := h4
              go_enter Try.func22, Try.ntmps22
              go_wp2_with (first | (go_at_call 21; refine (sok_yes _ _ hsa HP.out).mono ?_; rintro e w1 ⟨rfl, hb1⟩; clear HP) | (go_at_call 21; refine (sok_yes _ _ hsb HQ.out).mono ?_; rintro e w2 ⟨rfl, hb2⟩))
              go_ret
              exact ⟨ret_bool (by rw [pre_part a b H4.out]), hb1.trans (hb2.mono hb1.size)⟩
            · have H4 : Hid (((b.extract 0 a.size).toList == a.toList) = true) := h4
              go_enter Try.func22, Try.ntmps22
              go_wp2_with (first | (go_at_call 21; refine (sok_yes _ _ hsa HP.out).mono ?_; rintro e w1 ⟨rfl, hb1⟩; clear HP) | (go_at_call 21; refine (sok_yes _ _ hsb HQ.out).mono ?_; rintro e w2 ⟨rfl, hb2⟩))
              go_ret
              exact ⟨ret_bool (pre_whole a b h3 H4.out), hb1.trans (hb2.mono hb1.size)⟩
          · go_enter Try.func22, Try.ntmps22
            go_wp2_with (first | (go_at_call 21; refine (sok_yes _ _ hsa HP.out).mono ?_; rintro e w1 ⟨rfl, hb1⟩; clear HP) | (go_at_call 21; refine (sok_yes _ _ hsb HQ.out).mono ?_; rintro e w2 ⟨rfl, hb2⟩))
            go_ret
            exact ⟨ret_bool (by rw [pre_short a b h3]), hb1.trans (hb2.mono hb1.size)⟩
end Go.Proofs.Ytgbcgchnnmgmfaa.W
