/-
  What stands behind a path: its first name is the name of the longer path at that place. No condition.
  Plain mathematics of an id's eight digits, and of reading them. No condition.
  The walks of both 'IdHex', 'l2Digit' and 'idOk'.
-/
import Derived.Test.YthfffpdkmoclbaaGreatDoorMg07
import Derived.Test.YthfffpdkmoclbaaGreatDoorMg01
import Derived.Test.YthfffpdkmoclbaaGreatDoorMg06
import Derived.WalkKit
import Derived.Laws.BytesArg
import Derived.Test.YthfffpdkmoclbaaGreatDoorMg03
import Derived.Laws.BytesString
import Derived.Below
namespace Go.Proofs.YthfffpdkmoclbaaGreatDoor.M

/-- what stands behind a path -/
def behind (p f : List UInt8) : List UInt8 := if p = [] then f else f.drop (p.length + 1)
theorem und_split (p f : List UInt8) (h : undB p f = true) (hne : p ≠ f) : pthB p = true ∧ pthB f = true ∧ behind p f ≠ [] ∧ pthB (behind p f) = true ∧ nms f = nms p ++ nms (behind p f) ∧ (p ≠ [] → p.length + 1 ≤ f.length) := by
  unfold undB at h
  simp only [Bool.and_eq_true, Bool.or_eq_true, decide_eq_true_eq] at h
  obtain ⟨⟨hp, hf⟩, h3⟩ := h
  by_cases he : p = []
  · subst he
    have : behind [] f = f := rfl
    rw [this]
    exact ⟨hp, hf, fun e => hne e.symm, hf, by simp [nms], fun e => absurd rfl e⟩
  · have h4 : (p ++ [47]).isPrefixOf f = true := by
      rcases h3 with (h3 | h3) | h3
      · exact absurd h3 he
      · exact absurd h3 hne
      · exact h3
    obtain ⟨t, ht⟩ := List.isPrefixOf_iff_prefix.1 h4
    have hf2 : f = p ++ 47 :: t := by rw [← ht]; simp
    have hb : behind p f = t := by
      unfold behind
      rw [if_neg he, ← ht]
      exact List.drop_left' (by simp)
    rw [hb]
    have hspl := spl_both p t
    have hfn : f ≠ [] := by rw [hf2]; simp
    have hall : (spl f).all namB = true ∧ (spl f).length ≤ 3 := by
      have := pth_of f hfn
      rw [hf] at this
      simpa using this.symm
    rw [hf2, hspl] at hall
    obtain ⟨ha, hl⟩ := hall
    rw [List.all_append, Bool.and_eq_true] at ha
    have htn : t ≠ [] := by
      intro e
      subst e
      exact absurd ha.2 (by decide)
    refine ⟨hp, hf, htn, ?_, by rw [hf2]; exact nms_both p t he htn, fun _ => by rw [hf2]; simp⟩
    rw [pth_of t htn, ha.2]
    rw [List.length_append] at hl
    simp
    omega
theorem und_name (p f : List UInt8) (h : undB p f = true) (hne : p ≠ f) : (nms f)[(nms p).length]? = some (firstL (behind p f)) ∧ (nms p).length < (nms f).length := by
  obtain ⟨h1, h2, h3, h4, h5, _⟩ := und_split p f h hne
  have h6 := first_is _ h4 h3
  have h7 : 0 < (nms (behind p f)).length := (List.getElem?_eq_some_iff.1 h6).1
  rw [h5]
  refine ⟨?_, by rw [List.length_append]; omega⟩
  rw [List.getElem?_append_right (Nat.le_refl _), Nat.sub_self]
  exact h6
open Go.Proofs.YthfffpdkmoclbaaGreatDoor.W in
/-- the names behind a path, as they come -/
def rawN (L : List TF) (p : List UInt8) : List (List UInt8) := (L.filter fun x => undB p x.pa.data.toList && decide (p ≠ x.pa.data.toList)).map fun x => firstL (behind p x.pa.data.toList)
open Go.Proofs.YthfffpdkmoclbaaGreatDoor.W in
theorem rawN_no (L : List TF) (p : List UInt8) (j : Nat) (h : j < L.length) (hn : (undB p (L[j]).pa.data.toList && decide (p ≠ (L[j]).pa.data.toList)) = false) : rawN (L.take (j + 1)) p = rawN (L.take j) p := by
  unfold rawN
  rw [List.take_succ_eq_append_getElem h, List.filter_append, List.map_append]
  simp only [List.filter_cons, hn, Bool.false_eq_true, if_false, List.filter_nil, List.map_nil, List.append_nil]
open Go.Proofs.YthfffpdkmoclbaaGreatDoor.W in
theorem rawN_yes (L : List TF) (p : List UInt8) (j : Nat) (h : j < L.length) (hn : (undB p (L[j]).pa.data.toList && decide (p ≠ (L[j]).pa.data.toList)) = true) : rawN (L.take (j + 1)) p = rawN (L.take j) p ++ [firstL (behind p (L[j]).pa.data.toList)] := by
  unfold rawN
  rw [List.take_succ_eq_append_getElem h, List.filter_append, List.map_append]
  simp only [List.filter_cons, hn, if_true, List.filter_nil, List.map_cons, List.map_nil]
open Go.Proofs.YthfffpdkmoclbaaGreatDoor.W in
theorem rawN_len (L : List TF) (p : List UInt8) : (rawN L p).length ≤ L.length := by
  unfold rawN
  rw [List.length_map]
  exact List.length_filter_le ..
theorem namesB_len (l : List (List UInt8)) : (namesB l).length ≤ l.length := by
  rw [← sortCompact]
  refine Nat.le_trans (Lib.compact_length_le _) ?_
  rw [List.length_mergeSort]
  exact Nat.le_refl _
end Go.Proofs.YthfffpdkmoclbaaGreatDoor.M
namespace Go.Proofs.YthfffpdkmoclbaaGreatDoor.M
open Go.RowKit

/-- the digit of a number below 16 -/
def hexD (d : Nat) : UInt8 := if d < 10 then UInt8.ofNat (48 + d) else UInt8.ofNat (87 + d)
/-- the last k digits of a number, the greatest first -/
def digs : Nat → Nat → List UInt8
  | 0, _ => []
  | k + 1, n => hexD (n / 16 ^ k % 16) :: digs k n
/-- the eight digits of an id -/
def hexL (n : Nat) : List UInt8 := digs 8 n
def hexB (n : Nat) : ByteArray := ⟨(hexL n).toArray⟩
/-- the eight digits of an id, empty of any other number -/
def idHexB (n : Int) : ByteArray := if 1 ≤ n ∧ n ≤ 4294967295 then hexB n.toNat else ByteArray.empty

theorem digs_length (k n : Nat) : (digs k n).length = k := by
  induction k with
  | zero => rfl
  | succ k ih => simp [digs, ih]
theorem hexL_length (n : Nat) : (hexL n).length = 8 := digs_length 8 n
theorem str_one (v : Int) : strOfNums [v] = ⟨#[UInt8.ofNat v.toNat]⟩ := by
  apply ByteArray.ext; simp [strOfNums]
theorem hexD_lo (d : Nat) (h : d < 10) : UInt8.ofNat (48 + (d : Int)).toNat = hexD d := by
  unfold hexD; rw [if_pos h]; congr 1
theorem hexD_hi (d : Nat) (h : ¬ d < 10) : UInt8.ofNat (97 + (d : Int) - 10).toNat = hexD d := by
  unfold hexD; rw [if_neg h]; congr 1; omega
theorem div_step (n k : Nat) : n / 16 ^ k / 16 = n / 16 ^ (k + 1) := by rw [Nat.div_div_eq_div_mul, Nat.pow_succ]
theorem hex_tab_fin : ∀ d : Fin 16, (#[48, 49, 50, 51, 52, 53, 54, 55, 56, 57, 97, 98, 99, 100, 101, 102] : Array UInt8)[d.val]? = some (hexD d.val) := by decide
theorem hex_tab (d : Nat) (h : d < (ByteArray.mk #[48, 49, 50, 51, 52, 53, 54, 55, 56, 57, 97, 98, 99, 100, 101, 102]).size) :
    (ByteArray.mk #[48, 49, 50, 51, 52, 53, 54, 55, 56, 57, 97, 98, 99, 100, 101, 102])[d] = hexD d := by
  have h16 : d < 16 := h
  have e := hex_tab_fin ⟨d, h16⟩
  have e2 : (#[48, 49, 50, 51, 52, 53, 54, 55, 56, 57, 97, 98, 99, 100, 101, 102] : Array UInt8)[d]? = some ((#[48, 49, 50, 51, 52, 53, 54, 55, 56, 57, 97, 98, 99, 100, 101, 102] : Array UInt8)[d]'h16) := Array.getElem?_eq_getElem _
  exact Option.some.inj (e2.symm.trans e)
theorem digs_get (n : Nat) : ∀ (k j : Nat), j < k → (digs k n)[j]? = some (hexD (n / 16 ^ (k - 1 - j) % 16)) := by
  intro k
  induction k with
  | zero => intro j h; omega
  | succ k ih =>
    intro j h
    cases j with
    | zero => simp [digs]
    | succ j => simp only [digs, List.getElem?_cons_succ]; rw [ih j (by omega)]; congr 5; omega
theorem str_of_bytes (l : List UInt8) : strOfNums (l.map fun c => (c.toNat : Int)) = ⟨l.toArray⟩ := by
  apply ByteArray.ext; simp [strOfNums, Function.comp_def]
theorem cs_done (n : Nat) (cs : List Int) (h8 : cs.length = 8) (h : ∀ j, j < 8 → 8 ≤ j + 8 → cs[j]? = some ((hexD (n / 16 ^ (7 - j) % 16)).toNat : Int)) : strOfNums cs = hexB n := by
  have e : cs = (hexL n).map fun c => (c.toNat : Int) := by
    apply List.ext_getElem?
    intro j
    by_cases hj : j < 8
    · rw [h j hj (by omega), List.getElem?_map, hexL, digs_get n 8 j hj]; rfl
    · rw [List.getElem?_eq_none (by omega), List.getElem?_eq_none (by rw [List.length_map, hexL_length]; omega)]
  rw [e, str_of_bytes]; rfl
theorem idHexB_in (n : Nat) (h1 : 1 ≤ n) (h2 : n ≤ 4294967295) : idHexB (n : Int) = hexB n := by
  unfold idHexB; rw [if_pos (by omega)]; rfl
theorem idHexB_out (n : Int) (h : ¬ (1 ≤ n ∧ n ≤ 4294967295)) : idHexB n = ByteArray.empty := by unfold idHexB; rw [if_neg h]
theorem hexB_size (n : Nat) : (hexB n).size = 8 := by
  have := hexL_length n
  simp [hexB, ByteArray.size, this]
theorem idHexB_size (n : Nat) (h1 : 1 ≤ n) (h2 : n ≤ 4294967295) : (idHexB (n : Int)).size = 8 := by rw [idHexB_in n h1 h2, hexB_size]
end Go.Proofs.YthfffpdkmoclbaaGreatDoor.M
namespace Go.Proofs.YthfffpdkmoclbaaGreatDoor.W
open Go.RowKit Go.Proofs.YthfffpdkmoclbaaGreatDoor.M

theorem conv1 (w : World) (c : UInt8) : (convert 22 9 (.slice (some ⟨w.heap.size, 0, none⟩) 1 1)).run Tryz.prog (w.alloc (.cells #[.int .u8 (c.toNat : Int)] 5)) = .ok (.string ⟨#[c]⟩) (w.alloc (.cells #[.int .u8 (c.toNat : Int)] 5)) := by
  have h := run_convert_bytes_arg (P := Tryz.prog) (w.alloc (.cells #[.int .u8 (c.toNat : Int)] 5)) 22 5 Tryz.underlying22 Tryz.underlying5 w.heap.size 0 1 1 [(c.toNat : Int)] rfl (fun i hi => by
    obtain rfl : i = 0 := by omega
    simp) 9 Tryz.underlying9
  rw [h, str_one]; simp
theorem conv8 (w : World) (cs : List Int) (h8 : cs.length = 8) : (convert 22 9 (.slice (some ⟨w.heap.size, 0, none⟩) 8 8)).run Tryz.prog (w.alloc (.cells (cs.map (Value.int .u8)).toArray 266)) = .ok (.string (strOfNums cs)) (w.alloc (.cells (cs.map (Value.int .u8)).toArray 266)) :=
  run_convert_bytes_arg (P := Tryz.prog) _ 22 5 Tryz.underlying22 Tryz.underlying5 w.heap.size 0 8 8 cs h8 (fun i hi => by
    have hi' : i < cs.length := by omega
    simp [List.getElem?_eq_getElem hi']) 9 Tryz.underlying9
theorem digit_any (d : Nat) (w : World) (h : d < 16) :
    Calls Tryz.prog 135 #[.int .i64 d] w fun e w' => e = .returned (.int .u8 ((hexD d).toNat : Int)) ∧ w = w' := by
  by_cases h1 : d < 10
  · go_enter Tryz.func135, Tryz.ntmps135
    go_wp2
    go_ret
    refine ⟨ret_int ?_, rfl⟩
    have e : hexD d = UInt8.ofNat (48 + d) := by unfold hexD; rw [if_pos h1]
    rw [e]; simp; omega
  · go_enter Tryz.func135, Tryz.ntmps135
    go_wp2
    go_ret
    refine ⟨ret_int ?_, rfl⟩
    have e : hexD d = UInt8.ofNat (87 + d) := by unfold hexD; rw [if_neg h1]
    rw [e]; simp; omega

set_option maxRecDepth 100000 in
set_option maxHeartbeats 400000 in
theorem hex_spec_yes (n : Nat) (w : World) (h1 : 1 ≤ n) (h2 : n ≤ 4294967295) :
    Calls Tryz.prog 112 #[.int .i64 n] w fun e w' => e = .returned (.string (hexB n)) ∧ Below w.heap.size w w' := by
  have kc := conv1
  go_enter Tryz.func112, Tryz.ntmps112
  go_wp2_with (go_at_call 129; refine (l1In_true _ _ _ _ (by omega) (by omega)).mono ?_; rintro e w' ⟨rfl, rfl⟩)
  go_loopw [0, 3, 4] (fun nn o i wr => ∃ (k m : Nat), k ≤ 8 ∧ i = .int .i64 k ∧ nn = .int .i64 m ∧ m ≤ 4294967295 ∧ m = n / 16 ^ k ∧ o = .string ⟨(digs k n).toArray⟩ ∧ Below w.heap.size w wr) (fun _ _ i _ => 8 - (intOf i).toNat)
  case atStart => exact ⟨0, n, by omega, rfl, rfl, h2, by simp, rfl, Below.refl _ _⟩
  case round =>
    obtain ⟨k, m, hk, rfl, rfl, hm, hmk, rfl, hb⟩ := hrel
    have HM : Hid (m = n / 16 ^ k) := hmk
    clear hmk
    have hdl : (digs k n).length ≤ 8 := by rw [digs_length]; exact hk
    by_cases hlt : k < 8
    · go_wp2_with (go_at_call 135; refine (digit_any (m % 16) _ (by omega)).mono ?_; rintro e w' ⟨rfl, rfl⟩)
      go_roundw
      case rel =>
        refine ⟨k + 1, m / 16, by omega, by go_num, by go_num, by omega, ?_, ?_, ?_⟩
        · rw [HM.out, div_step]
        · have e : digs (k + 1) n = hexD (m % 16) :: digs k n := by rw [HM.out]; rfl
          rw [e]; rfl
        · exact hb.alloc hb.size _
      case measure => simp [intOf]; omega
    · go_wp2
      go_ret
      obtain rfl : k = 8 := by omega
      exact ⟨rfl, hb⟩

set_option maxRecDepth 100000 in
set_option maxHeartbeats 400000 in
theorem hex_spec_no (n : Int) (w : World) (h : ¬ (1 ≤ n ∧ n ≤ 4294967295)) :
    Calls Tryz.prog 112 #[.int .i64 n] w fun e w' => e = .returned (.string ByteArray.empty) ∧ Below w.heap.size w w' := by
  go_enter Tryz.func112, Tryz.ntmps112
  go_wp2_with (go_at_call 129; refine (l1In_false _ _ _ _ (by omega)).mono ?_; rintro e w' ⟨rfl, rfl⟩)
  go_ret
  exact ⟨rfl, Below.refl _ _⟩

theorem hex_spec (n : Int) (w : World) :
    Calls Tryz.prog 112 #[.int .i64 n] w fun e w' => e = .returned (.string (idHexB n)) ∧ Below w.heap.size w w' := by
  by_cases h : 1 ≤ n ∧ n ≤ 4294967295
  · obtain ⟨m, rfl⟩ := Int.eq_ofNat_of_zero_le (show 0 ≤ n by omega)
    rw [idHexB_in m (by omega) (by omega)]
    exact hex_spec_yes m w (by omega) (by omega)
  · rw [idHexB_out n h]; exact hex_spec_no n w h

theorem idOk_any (n : Int) (w : World) :
    Calls Tryz.prog 190 #[.int .i64 n] w fun e w' => e = .returned (.bool (decide (1 ≤ n ∧ n ≤ 4294967295))) ∧ w = w' := by
  by_cases h1 : 1 ≤ n
  · go_enter Tryz.func190, Tryz.ntmps190
    go_wp2
    go_ret
    exact ⟨ret_bool (by simp [h1]), rfl⟩
  · go_enter Tryz.func190, Tryz.ntmps190
    go_wp2
    go_ret
    exact ⟨ret_bool (by simp; omega), rfl⟩
theorem idOk_true (n : Int) (w : World) (h : 1 ≤ n ∧ n ≤ 4294967295) :
    Calls Tryz.prog 190 #[.int .i64 n] w fun e w' => e = .returned (.bool true) ∧ w = w' := by
  have := idOk_any n w; rwa [decide_eq_true h] at this
theorem idOk_false (n : Int) (w : World) (h : ¬ (1 ≤ n ∧ n ≤ 4294967295)) :
    Calls Tryz.prog 190 #[.int .i64 n] w fun e w' => e = .returned (.bool false) ∧ w = w' := by
  have := idOk_any n w; rwa [decide_eq_false h] at this

set_option maxRecDepth 100000 in
set_option maxHeartbeats 400000 in
theorem hex_impl_yes (n : Nat) (w : World) (h1 : 1 ≤ n) (h2 : n ≤ 4294967295) :
    Calls Tryz.prog 220 #[.int .i64 n] w fun e w' => e = .returned (.string (hexB n)) ∧ Below w.heap.size w w' := by
  go_enter Tryz.func220, Tryz.ntmps220
  go_wp2_with (go_at_call 190; refine (idOk_true _ _ (by omega)).mono ?_; rintro e w' ⟨rfl, rfl⟩)
  go_loopw [0, 4] (fun nn i wr => ∃ (k m : Nat) (cs : List Int), k ≤ 8 ∧ i = .int .i64 (7 - (k : Int)) ∧ nn = .int .i64 m ∧ m ≤ 4294967295 ∧ Hid (m = n / 16 ^ k) ∧ cs.length = 8 ∧ Hid (∀ j, j < 8 → 8 ≤ j + k → cs[j]? = some ((hexD (n / 16 ^ (7 - j) % 16)).toNat : Int)) ∧ wr = w.alloc (.cells (cs.map (Value.int .u8)).toArray 266)) (fun _ i _ => (1 + intOf i).toNat)
  case atStart => exact ⟨0, n, [0,0,0,0,0,0,0,0], by omega, rfl, rfl, h2, by show n = n / 16 ^ 0; simp, rfl, fun j h h' => by omega, rfl⟩
  case round =>
    obtain ⟨k, m, cs, hk, rfl, rfl, hm, HM, hl, HC, rfl⟩ := hrel
    by_cases hlt : k < 8
    · obtain ⟨v, hv⟩ : ∃ v, cs[7 - k]? = some v := ⟨_, List.getElem?_eq_getElem (by omega)⟩
      go_wp2
      go_roundw
      case rel =>
        refine ⟨k + 1, m / 16, cs.set (7 - k) ((hexD (m % 16)).toNat : Int), by omega, by go_num, by go_num, by omega, ?_, by simpa using hl, ?_, ?_⟩
        · show m / 16 = n / 16 ^ (k + 1)
          rw [HM.out, div_step]
        · intro j hj hk8
          by_cases e : j = 7 - k
          · subst e
            rw [List.getElem?_set_self (by omega), HM.out, show 7 - (7 - k) = k by omega]
          · rw [List.getElem?_set_ne (by omega)]; exact HC.out j hj (by omega)
        · rw [List.map_set]
          congr 4
          rw [hex_tab]
      case measure => simp [intOf]; omega
    · have kc := conv8 w cs hl
      go_wp2
      go_ret
      obtain rfl : k = 8 := by omega
      exact ⟨ret_str (cs_done n cs hl HC.out), (Below.refl _ _).alloc (Nat.le_refl _) _⟩

set_option maxRecDepth 100000 in
set_option maxHeartbeats 400000 in
theorem hex_impl_no (n : Int) (w : World) (h : ¬ (1 ≤ n ∧ n ≤ 4294967295)) :
    Calls Tryz.prog 220 #[.int .i64 n] w fun e w' => e = .returned (.string ByteArray.empty) ∧ Below w.heap.size w w' := by
  go_enter Tryz.func220, Tryz.ntmps220
  go_wp2_with (go_at_call 190; refine (idOk_false _ _ h).mono ?_; rintro e w' ⟨rfl, rfl⟩)
  go_ret
  exact ⟨rfl, Below.refl _ _⟩

theorem hex_impl (n : Int) (w : World) :
    Calls Tryz.prog 220 #[.int .i64 n] w fun e w' => e = .returned (.string (idHexB n)) ∧ Below w.heap.size w w' := by
  by_cases h : 1 ≤ n ∧ n ≤ 4294967295
  · obtain ⟨m, rfl⟩ := Int.eq_ofNat_of_zero_le (show 0 ≤ n by omega)
    rw [idHexB_in m (by omega) (by omega)]
    exact hex_impl_yes m w (by omega) (by omega)
  · rw [idHexB_out n h]; exact hex_impl_no n w h
end Go.Proofs.YthfffpdkmoclbaaGreatDoor.W
