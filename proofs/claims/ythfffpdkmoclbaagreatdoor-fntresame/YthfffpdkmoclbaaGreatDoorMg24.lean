/-
  The walks of both 'IdRead' and of 'l2Value': each answers the number that the digits are, at every text; the world stays.
  The walk of the program's cutEntry: the entry at the beginning of a text, and the rest, or an error. Texts of at most 4194304 bytes.
  cutEntry of the program, as mathematics: cutL. Texts of at most 4194304 bytes.
-/
import Derived.Test.YthfffpdkmoclbaaGreatDoorMg01
import Derived.Test.YthfffpdkmoclbaaGreatDoorMg08
import Derived.Test.YthfffpdkmoclbaaGreatDoorMg09
import Derived.Test.YthfffpdkmoclbaaGreatDoorMg02
import Derived.Test.YthfffpdkmoclbaaGreatDoorMg10
import Derived.Laws.DeepStrings4
namespace Go.Proofs.YthfffpdkmoclbaaGreatDoor.W
open Go.RowKit Go.Proofs.YthfffpdkmoclbaaGreatDoor.M

theorem ret_ib {a b : Int} {x y : Bool} (h : a = b) (h' : x = y) : Ending.returned (.tuple #[.int .i64 a, .bool x]) = .returned (.tuple #[.int .i64 b, .bool y]) := by rw [h, h']

theorem value_any (c : UInt8) (w : World) :
    Calls Tryz.prog 139 #[.int .u8 (c.toNat : Int)] w fun e w' => e = .returned (.int .i64 (hexV c)) ∧ w = w' := by
  have hc := c.toNat_lt
  go_enter Tryz.func139, Tryz.ntmps139
  go_wp2
  all_goals go_ret
  all_goals refine ⟨ret_int ?_, rfl⟩
  all_goals (unfold hexV; split <;> (try split) <;> omega)

theorem index_any (c : UInt8) (w : World) :
    Calls Tryz.prog 189 #[.string ⟨#[48, 49, 50, 51, 52, 53, 54, 55, 56, 57, 97, 98, 99, 100, 101, 102]⟩, .int .u8 (c.toNat : Int)] w fun e w' => e = .returned (.int .i64 (hexV c)) ∧ w = w' := by
  refine (Tryz.strings_IndexByte ⟨#[48, 49, 50, 51, 52, 53, 54, 55, 56, 57, 97, 98, 99, 100, 101, 102]⟩ (c.toNat : Int) w).mono ?_
  rintro e w' ⟨rfl, rfl⟩
  refine ⟨ret_int ?_, rfl⟩
  have e : ((c.toNat : Int)).toNat.toUInt8 = c := by simp
  rw [e, ← idx_hex c]

set_option maxHeartbeats 400000 in
theorem read_spec (s : ByteArray) (w : World) (hs : s.size ≤ maxLen) :
    Calls Tryz.prog 116 #[.string s] w fun e w' => e = .returned (.tuple #[.int .i64 (rdN s.data.toList), .bool (rdB s.data.toList)]) ∧ w = w' := by
  unfold maxLen at hs
  by_cases h8 : s.size = 8
  · have h8' : ((s.size : Int) != 8) = false := by simp [h8]
    have H8 : Hid (s.data.toList.length = 8) := by show s.data.toList.length = 8; simpa using h8
    have hlo : 8 ≤ s.size := by omega
    clear h8
    go_enter Tryz.func116, Tryz.ntmps116
    go_wp2
    go_loop [4, 5, 6] (fun n i _ => ∃ k m : Nat, k ≤ 8 ∧ i = .int .i64 k ∧ n = .int .i64 m ∧ m < 16 ^ k ∧ Hid (rdF 0 s.data.toList = rdF m (s.data.toList.drop k))) (fun _ i _ => 8 - (intOf i).toNat)
    case atStart => exact ⟨0, 0, by omega, rfl, rfl, by decide, rfl⟩
    case round =>
      obtain ⟨k, m, hk, rfl, rfl, hm, HR⟩ := hrel
      have hm2 : m < 4294967296 := Nat.lt_of_lt_of_le hm (Nat.pow_le_pow_right (n := 16) (by omega) hk)
      have HM : Hid (m < 16 ^ k) := hm
      clear hm
      by_cases hlt : k < 8
      · have hks : k < s.size := by omega
        have HD : Hid (s.data.toList.drop k = s[k] :: s.data.toList.drop (k + 1)) := drop_at s k hks
        have hv := hexV_bd s[k]
        go_wp2_with (go_at_call 139; refine (value_any _ _).mono ?_; rintro e w' ⟨rfl, rfl⟩)
        · go_ret2
          have e0 : rdF 0 s.data.toList = none := by rw [HR.out, HD.out, rdF_none _ _ _ ‹_›]
          exact ⟨ret_ib (by rw [rdN_no _ H8.out e0]; rfl) (by rw [rdB_of0 _ (rdN_no _ H8.out e0)]), rfl⟩
        · go_round
          case rel =>
            refine ⟨k + 1, m * 16 + (hexV s[k]).toNat, by omega, by go_num, by go_num, pow_step m k _ HM.out (by omega) hv.2, ?_⟩
            show rdF 0 s.data.toList = rdF (m * 16 + (hexV s[k]).toNat) (s.data.toList.drop (k + 1))
            rw [HR.out, HD.out, rdF_some _ _ _ (by omega)]
          case measure => simp [intOf]; omega
      · go_wp2
        go_ret2
        obtain rfl : k = 8 := by omega
        have e0 : rdF 0 s.data.toList = some m := by rw [HR.out, List.drop_of_length_le (by rw [H8.out]; omega)]; rfl
        exact ⟨ret_ib (by rw [rdN_yes _ m H8.out e0]) (by unfold rdB; rw [rdN_yes _ m H8.out e0]), rfl⟩
  · have h8' : ((s.size : Int) != 8) = true := by simp; omega
    have H8 : Hid (¬ s.data.toList.length = 8) := by show ¬ s.data.toList.length = 8; simpa using h8
    clear h8
    go_enter Tryz.func116, Tryz.ntmps116
    go_wp2
    go_ret2
    exact ⟨ret_ib (by rw [rdN_short _ H8.out]; rfl) (by rw [rdB_of0 _ (rdN_short _ H8.out)]), rfl⟩
set_option maxHeartbeats 400000 in
theorem read_impl (s : ByteArray) (w : World) (hs : s.size ≤ maxLen) :
    Calls Tryz.prog 180 #[.string s] w fun e w' => e = .returned (.tuple #[.int .i64 (rdN s.data.toList), .bool (rdB s.data.toList)]) ∧ w = w' := by
  unfold maxLen at hs
  by_cases h8 : s.size = 8
  · have h8' : ((s.size : Int) != 8) = false := by simp [h8]
    have h9 : s.size ≤ 8 := by omega
    have H8 : Hid (s.data.toList.length = 8) := by show s.data.toList.length = 8; simpa using h8
    have hlo : 8 ≤ s.size := by omega
    clear h8
    go_enter Tryz.func180, Tryz.ntmps180
    go_wp2
    go_loop [4, 5, 6, 12] (fun n _ _ i => ∃ k m : Nat, k ≤ 8 ∧ i = .int .i64 k ∧ n = .int .i64 m ∧ m < 16 ^ k ∧ Hid (rdF 0 s.data.toList = rdF m (s.data.toList.drop k))) (fun _ _ _ i => 8 - (intOf i).toNat)
    case atStart => exact ⟨0, 0, by omega, rfl, rfl, by decide, rfl⟩
    case round =>
      obtain ⟨k, m, hk, rfl, rfl, hm, HR⟩ := hrel
      have hm2 : m < 4294967296 := Nat.lt_of_lt_of_le hm (Nat.pow_le_pow_right (n := 16) (by omega) hk)
      have HM : Hid (m < 16 ^ k) := hm
      clear hm
      by_cases hlt : k < 8
      · have hks : k < s.size := by omega
        have HD : Hid (s.data.toList.drop k = s[k] :: s.data.toList.drop (k + 1)) := drop_at s k hks
        have hv := hexV_bd s[k]
        go_wp2_with (go_at_call 189; refine (index_any _ _).mono ?_; rintro e w' ⟨rfl, rfl⟩)
        · go_ret2
          have e0 : rdF 0 s.data.toList = none := by rw [HR.out, HD.out, rdF_none _ _ _ ‹_›]
          exact ⟨ret_ib (by rw [rdN_no _ H8.out e0]; rfl) (by rw [rdB_of0 _ (rdN_no _ H8.out e0)]), rfl⟩
        · go_round
          case rel =>
            refine ⟨k + 1, m * 16 + (hexV s[k]).toNat, by omega, by go_num, by go_num, pow_step m k _ HM.out (by omega) hv.2, ?_⟩
            show rdF 0 s.data.toList = rdF (m * 16 + (hexV s[k]).toNat) (s.data.toList.drop (k + 1))
            rw [HR.out, HD.out, rdF_some _ _ _ (by omega)]
          case measure => simp [intOf]; omega
      · go_wp2_with (go_at_call 190; refine (idOk_any _ _).mono ?_; rintro e w' ⟨rfl, rfl⟩)
        go_ret2
        obtain rfl : k = 8 := by omega
        have e0 : rdF 0 s.data.toList = some m := by rw [HR.out, List.drop_of_length_le (by rw [H8.out]; omega)]; rfl
        exact ⟨ret_ib (by rw [rdN_yes _ m H8.out e0]) (by unfold rdB; rw [rdN_yes _ m H8.out e0]; rw [Bool.eq_iff_iff, Bool.and_eq_true, decide_eq_true_iff, decide_eq_true_iff, decide_eq_true_iff]; omega), rfl⟩
  · have h8' : ((s.size : Int) != 8) = true := by simp; omega
    have H8 : Hid (¬ s.data.toList.length = 8) := by show ¬ s.data.toList.length = 8; simpa using h8
    clear h8
    go_enter Tryz.func180, Tryz.ntmps180
    go_wp2
    go_ret2
    exact ⟨ret_ib (by rw [rdN_short _ H8.out]; rfl) (by rw [rdB_of0 _ (rdN_short _ H8.out)]), rfl⟩
end Go.Proofs.YthfffpdkmoclbaaGreatDoor.W
namespace Go.Proofs.YthfffpdkmoclbaaGreatDoor.W
open Go.RowKit Go.Proofs.YthfffpdkmoclbaaGreatDoor.M

/-- what cutEntry answers -/
def CutAns (r : Option (En × List UInt8)) (e : Ending) : Prop := match r with
  | none => ∃ m : ByteArray, e = .returned (.tuple #[.agg #[.string ⟨#[]⟩, .bool false, .int .i64 0], .string ⟨#[]⟩, .iface 159 (.agg #[.string m])])
  | some (x, r) => e = .returned (.tuple #[.agg #[.string ⟨x.nm.toArray⟩, .bool x.sh, .int .i64 x.id], .string ⟨r.toArray⟩, .nilIface])

set_option maxHeartbeats 1000000 in
theorem cut_short (s : ByteArray) (w : World) (hs : s.size ≤ 4194304) (h : s.size < letN s.data.toList + 9) (hl : letN s.data.toList ≤ s.size) :
    Calls Tryz.prog 159 #[.string s] w fun e w' => CutAns none e ∧ Below w.heap.size w w' := by
  have hm : s.size ≤ maxLen := by unfold maxLen; omega
  have hq := fun w' => letters_any s w' hm
  generalize letN s.data.toList = n at *
  go_enter Tryz.func159, Tryz.ntmps159
  go_wp2_with (go_at_call 88; refine (hq _).mono ?_; rintro e w1 ⟨rfl, rfl⟩)
  refine bodyPost_ret (v := .tuple #[.agg #[.string ⟨#[]⟩, .bool false, .int .i64 0], .string ⟨#[]⟩, .iface 159 (.agg #[.string _])]) (by simp [results, Tryz.results159, go_sem]; rfl) rfl ?_
  exact ⟨⟨_, rfl⟩, (Below.refl _ _).alloc (Nat.le_refl _) _⟩

set_option maxRecDepth 100000 in
set_option maxHeartbeats 1000000 in
theorem cut_mark (s : ByteArray) (w : World) (hs : s.size ≤ 4194304) (h : ¬ s.size < letN s.data.toList + 9) (hn : letN s.data.toList < s.size) (h1 : s[letN s.data.toList] ≠ 61) (h2 : s[letN s.data.toList] ≠ 47) :
    Calls Tryz.prog 159 #[.string s] w fun e w' => CutAns none e ∧ Below w.heap.size w w' := by
  have hm : s.size ≤ maxLen := by unfold maxLen; omega
  have hq := fun w' => letters_any s w' hm
  generalize letN s.data.toList = n at *
  have g1 : ((s[n].toNat : Int) != 61) = true := by simpa using fun e : (s[n].toNat : Int) = 61 => h1 (UInt8.toNat.inj (by show s[n].toNat = 61; omega))
  have g2 : ((s[n].toNat : Int) != 47) = true := by simpa using fun e : (s[n].toNat : Int) = 47 => h2 (UInt8.toNat.inj (by show s[n].toNat = 47; omega))
  clear h1 h2
  go_enter Tryz.func159, Tryz.ntmps159
  go_wp2_with (go_at_call 88; refine (hq _).mono ?_; rintro e w1 ⟨rfl, rfl⟩)
  refine bodyPost_ret (v := .tuple #[.agg #[.string ⟨#[]⟩, .bool false, .int .i64 0], .string ⟨#[]⟩, .iface 159 (.agg #[.string _])]) (by simp [results, Tryz.results159, go_sem]; rfl) rfl ?_
  exact ⟨⟨_, rfl⟩, (Below.refl _ _).alloc (Nat.le_refl _) _⟩

set_option maxRecDepth 100000 in
set_option maxHeartbeats 2000000 in
theorem cut_id (s d : ByteArray) (w : World) (c : Nat) (hs : s.size ≤ 4194304) (h : ¬ s.size < letN s.data.toList + 9) (hn : letN s.data.toList < s.size) (hc : s[letN s.data.toList].toNat = c) (hm : c = 61 ∨ c = 47) (hd : s.extract (letN s.data.toList + 1) (letN s.data.toList + 1 + 8) = d) (hb : rdB d.data.toList = false) (hds : d.size ≤ 8) :
    Calls Tryz.prog 159 #[.string s] w fun e w' => CutAns none e ∧ Below w.heap.size w w' := by
  have hm' : s.size ≤ maxLen := by unfold maxLen; omega
  have hq := fun w' => letters_any s w' hm'
  have hr := fun w' => read_impl d w' (by unfold maxLen; omega)
  rw [hb] at hr
  generalize letN s.data.toList = n at *
  have sl : ∀ w', (Instr.slice 9 (.string s) (some (.int .i64 ((n : Int) + 1))) (some (.int .i64 ((n : Int) + 1 + 8))) none).run Tryz.prog w' = .ok (.string d) w' := fun w' => by
    have e1 : ((n : Int) + 1).toNat = n + 1 := by omega
    have e2 : ((n : Int) + 1 + 8).toNat = n + 1 + 8 := by omega
    have := run_slice_string_if (P := Tryz.prog) w' 9 s .i64 .i64 ((n : Int) + 1) ((n : Int) + 1 + 8) Tryz.underlying9
    rw [if_pos (by omega), if_pos (by omega)] at this
    rw [e1, e2, hd] at this
    exact this
  clear hd
  rcases hm with rfl | rfl
  all_goals
    go_enter Tryz.func159, Tryz.ntmps159
    go_wp2_with (first | (go_at_call 88; refine (hq _).mono ?_; rintro e w1 ⟨rfl, rfl⟩) | (go_at_call 180; refine (hr _).mono ?_; rintro e w1 ⟨rfl, rfl⟩))
    refine bodyPost_ret (v := .tuple #[.agg #[.string ⟨#[]⟩, .bool false, .int .i64 0], .string ⟨#[]⟩, .iface 159 (.agg #[.string _])]) (by simp [results, Tryz.results159, go_sem]; rfl) rfl ?_
    exact ⟨⟨_, rfl⟩, (Below.refl _ _).alloc (Nat.le_refl _) _⟩

set_option maxRecDepth 100000 in
set_option maxHeartbeats 4000000 in
theorem cut_good (s d nm rest : ByteArray) (w : World) (c : Nat) (hs : s.size ≤ 4194304) (h : ¬ s.size < letN s.data.toList + 9) (hn : letN s.data.toList < s.size) (hc : s[letN s.data.toList].toNat = c) (hm : c = 61 ∨ c = 47) (hd : s.extract (letN s.data.toList + 1) (letN s.data.toList + 1 + 8) = d) (h1 : s.extract 0 (letN s.data.toList) = nm) (h2 : s.extract (letN s.data.toList + 1 + 8) s.size = rest) (hb : rdB d.data.toList = true) (hds : d.size ≤ 8) :
    Calls Tryz.prog 159 #[.string s] w fun e w' => e = .returned (.tuple #[.agg #[.string nm, .bool (decide (c = 47)), .int .i64 (rdN d.data.toList)], .string rest, .nilIface]) ∧ Below w.heap.size w w' := by
  have hm' : s.size ≤ maxLen := by unfold maxLen; omega
  have hq := fun w' => letters_any s w' hm'
  have hr := fun w' => read_impl d w' (by unfold maxLen; omega)
  rw [hb] at hr
  generalize letN s.data.toList = n at *
  generalize rdN d.data.toList = id at *
  have sl : ∀ w', (Instr.slice 9 (.string s) (some (.int .i64 ((n : Int) + 1))) (some (.int .i64 ((n : Int) + 1 + 8))) none).run Tryz.prog w' = .ok (.string d) w' := fun w' => by
    have e1 : ((n : Int) + 1).toNat = n + 1 := by omega
    have e2 : ((n : Int) + 1 + 8).toNat = n + 1 + 8 := by omega
    have := run_slice_string_if (P := Tryz.prog) w' 9 s .i64 .i64 ((n : Int) + 1) ((n : Int) + 1 + 8) Tryz.underlying9
    rw [if_pos (by omega), if_pos (by omega)] at this
    rw [e1, e2, hd] at this
    exact this
  have sl2 : ∀ w', (Instr.slice 9 (.string s) none (some (.int .i64 (n : Int))) none).run Tryz.prog w' = .ok (.string nm) w' := fun w' => by
    have := run_slice_string_h (P := Tryz.prog) w' 9 s Tryz.underlying9 .i64 (n : Int) (by omega) (by omega)
    rw [show ((n : Int)).toNat = n by omega, h1] at this
    exact this
  have sl3 : ∀ w', (Instr.slice 9 (.string s) (some (.int .i64 ((n : Int) + 1 + 8))) none none).run Tryz.prog w' = .ok (.string rest) w' := fun w' => by
    have := run_slice_string_l (P := Tryz.prog) w' 9 s Tryz.underlying9 .i64 ((n : Int) + 1 + 8) (by omega) (by omega)
    rw [show ((n : Int) + 1 + 8).toNat = n + 1 + 8 by omega, h2] at this
    exact this
  clear hd h1 h2
  rcases hm with rfl | rfl
  all_goals
    go_enter Tryz.func159, Tryz.ntmps159
    go_wp2_with (first | (go_at_call 88; refine (hq _).mono ?_; rintro e w1 ⟨rfl, rfl⟩) | (go_at_call 180; refine (hr _).mono ?_; rintro e w1 ⟨rfl, rfl⟩))
    go_region
    all_goals
      go_wp2
      refine bodyPost_ret (v := .tuple #[.agg #[.string nm, .bool _, .int .i64 id], .string rest, .nilIface]) (by simp [results, Tryz.results159, go_sem]; rfl) rfl ?_
      refine ⟨rfl, ?_⟩
      first | exact (Below.refl _ _).alloc (Nat.le_refl _) _ | exact ((Below.refl _ _).alloc (Nat.le_refl _) _).drew
end Go.Proofs.YthfffpdkmoclbaaGreatDoor.W
namespace Go.Proofs.YthfffpdkmoclbaaGreatDoor.W
open Go.RowKit Go.Proofs.YthfffpdkmoclbaaGreatDoor.M

theorem len_dat (s : ByteArray) : s.data.toList.length = s.size := by rw [Array.length_toList]; rfl
theorem letN_le' (l : List UInt8) : letN l ≤ l.length := by unfold letN; exact (List.takeWhile_sublist _).length_le
theorem ext_dat (s : ByteArray) (a b : Nat) : (s.extract a b).data.toList = (s.data.toList.take b).drop a := by
  rw [Lib.extract_data, List.drop_take]
theorem mk_dat (l : List UInt8) : (ByteArray.mk l.toArray).data.toList = l := by simp
theorem ext_mk (s : ByteArray) (a b : Nat) : s.extract a b = ⟨((s.data.toList.take b).drop a).toArray⟩ := by
  apply ByteArray.ext; apply Array.toList_inj.1; rw [ext_dat]
theorem get_dat (s : ByteArray) (n : Nat) (h : n < s.size) : s.data.toList[n]'(by rw [len_dat]; exact h) = s[n] := by simp [ByteArray.getElem_eq_getElem_data]

theorem cutE_any (s : ByteArray) (w : World) (hs : s.size ≤ 4194304) :
    Calls Tryz.prog 159 #[.string s] w fun e w' => CutAns (cutL s.data.toList) e ∧ Below w.heap.size w w' := by
  have hl := len_dat s
  have hle := letN_le' s.data.toList
  unfold cutL
  by_cases h : s.data.toList.length < letN s.data.toList + 9
  · rw [if_pos h]
    exact cut_short s w hs (by omega) (by omega)
  · rw [if_neg h]
    have hn : letN s.data.toList < s.size := by omega
    have hd := List.drop_eq_getElem_cons (l := s.data.toList) (i := letN s.data.toList) (by omega)
    rw [hd, get_dat s _ hn]
    have e8 : (s.data.toList.drop (letN s.data.toList + 1)).take 8 = (s.extract (letN s.data.toList + 1) (letN s.data.toList + 1 + 8)).data.toList := by
      rw [ext_dat, List.drop_take]; congr 1; omega
    have hz : (s.extract (letN s.data.toList + 1) (letN s.data.toList + 1 + 8)).size ≤ 8 := by
      rw [ByteArray.size_extract]; omega
    simp only
    by_cases hc : s[letN s.data.toList] = 61 ∨ s[letN s.data.toList] = 47
    · rw [if_pos hc]
      have hcn : s[letN s.data.toList].toNat = 61 ∨ s[letN s.data.toList].toNat = 47 := by
        rcases hc with e | e
        · exact Or.inl (by rw [e]; rfl)
        · exact Or.inr (by rw [e]; rfl)
      rw [e8]
      cases hr : rdB (s.extract (letN s.data.toList + 1) (letN s.data.toList + 1 + 8)).data.toList
      · exact cut_id s _ w _ hs (by omega) hn rfl hcn rfl hr hz
      · refine (cut_good s _ _ _ w _ hs (by omega) hn rfl hcn rfl rfl rfl hr hz).mono ?_
        rintro e w' ⟨rfl, hb⟩
        refine ⟨?_, hb⟩
        show _ = _
        have a1 : s.extract 0 (letN s.data.toList) = ⟨(s.data.toList.take (letN s.data.toList)).toArray⟩ := by rw [ext_mk]; simp
        have a2 : s.extract (letN s.data.toList + 1 + 8) s.size = ⟨((s.data.toList.drop (letN s.data.toList + 1)).drop 8).toArray⟩ := by
          rw [ext_mk, List.take_of_length_le (by omega), List.drop_drop]
        have a3 : decide (s[letN s.data.toList].toNat = 47) = decide (s[letN s.data.toList] = 47) := by
          rw [Bool.eq_iff_iff]; simp only [decide_eq_true_eq]
          exact ⟨fun e => UInt8.toNat.inj e, fun e => by rw [e]; rfl⟩
        rw [a1, a2, a3]
    · rw [if_neg hc]
      exact cut_mark s w hs (by omega) hn (fun e => hc (Or.inl e)) (fun e => hc (Or.inr e))
end Go.Proofs.YthfffpdkmoclbaaGreatDoor.W
