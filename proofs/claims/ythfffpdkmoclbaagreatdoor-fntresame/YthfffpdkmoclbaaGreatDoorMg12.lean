/-
  The walk of the specification's ObjSheet over a row of entries. At most 1048576 entries, names of at most 1048576 bytes.
  The walks of both 'ObjLeaf': each answers 'L' and the bytes, or nothing where there are more than six; nothing old is written.
  Plain mathematics of ids: the id of a text, its digits, and reading them. No condition.
-/
import Derived.Test.YthfffpdkmoclbaaGreatDoorMg10
import Derived.Test.YthfffpdkmoclbaaGreatDoorMg08
import Derived.Test.YthfffpdkmoclbaaGreatDoorMg11
import Derived.Test.YthfffpdkmoclbaaGreatDoorMg01
import Derived.Below
import Derived.WalkKit
import Derived.Laws.BitsAllLaws
namespace Go.Proofs.YthfffpdkmoclbaaGreatDoor.W
open Go.RowKit Go.Proofs.YthfffpdkmoclbaaGreatDoor.M

def enO (x : OE) : En := ⟨x.nm.data.toList, x.sh, x.id⟩
theorem wholeB (s : ByteArray) : (ByteArray.mk s.data.toList.toArray) = s := by apply ByteArray.ext; simp
theorem l2Entry_o (x : OE) (w : World) (hn : x.nm.size ≤ 1048576) :
    Calls Tryz.prog 111 #[.agg #[.string x.nm, .bool x.sh, .int .i64 x.id]] w fun ev w' => ev = .returned (.bool (okE (enO x))) ∧ Below w.heap.size w w' := by
  have := l2Entry_any (enO x) w (by show x.nm.data.toList.length ≤ _; simp; have : x.nm.size = x.nm.data.size := rfl; omega)
  have e : (ByteArray.mk (enO x).nm.toArray) = x.nm := wholeB x.nm
  rw [e] at this
  exact this
theorem mapO_get (L : List OE) (j : Nat) (h : j < L.length) : (L.map enO)[j]'(by simpa using h) = enO L[j] := by simp
theorem takeO (L : List OE) (j : Nat) (h : j < L.length) : encL ((L.map enO).take (j + 1)) = encL ((L.map enO).take j) ++ encE (enO L[j]) := by
  rw [List.take_succ_eq_append_getElem (by simpa using h), enc_snoc, mapO_get L j h]
theorem outO (o : List UInt8) (x : OE) (m : ByteArray) (hm : m = ⟨#[mrk x.sh]⟩) : (ByteArray.mk (83 :: o).toArray ++ x.nm ++ m ++ idHexB x.id) = ⟨(83 :: (o ++ encE (enO x))).toArray⟩ := by
  subst hm
  apply ByteArray.ext
  simp [encE, enO]

theorem encO_len (x : OE) (h : okE (enO x) = true) : (encE (enO x)).length ≤ 12 ∧ x.nm.size ≤ 3 ∧ (idHexB x.id).size = 8 := by
  obtain ⟨h1, h2, h3⟩ := okE_parts (enO x) h
  have a1 : (idHexB x.id).data.toList.length = 8 := idHex_length x.id ⟨h2, h3⟩
  have a2 : x.nm.data.toList.length ≤ 3 := by
    have : namB x.nm.data.toList = true := h1
    unfold namB at this; simp at this; simp; omega
  refine ⟨?_, ?_, ?_⟩
  · unfold encE; simp only [List.length_append, List.length_cons]
    show x.nm.data.toList.length + ((idHexB x.id).data.toList.length + 1) ≤ 12
    omega
  · have : x.nm.size = x.nm.data.toList.length := by rw [Array.length_toList]; rfl
    omega
  · have : (idHexB x.id).size = (idHexB x.id).data.toList.length := by rw [Array.length_toList]; rfl
    omega

set_option maxHeartbeats 2000000 in
theorem sheet_spec (A : Option Addr) (c : Nat) (L : List OE) (w : World) (hL : RdO w.heap.size w A L) (hn : L.length ≤ 1048576) (ht : ∀ j (h : j < L.length), (L[j]).nm.size ≤ 1048576) :
    Calls Tryz.prog 81 #[.slice A L.length c] w fun ev w' => ev = .returned (.string ⟨(sheetT (L.map enO)).toArray⟩) ∧ Below w.heap.size w w' := by
  have HL : Hid (RdO w.heap.size w A L) := hL
  have HT : Hid (∀ j (h : j < L.length), (L[j]).nm.size ≤ 1048576) := ht
  clear hL ht
  have hlen : (L.map enO).length = L.length := by simp
  by_cases h60 : 60 < L.length
  · go_enter Tryz.func81, Tryz.ntmps81
    go_wp2
    go_ret
    have hk : sheetT (L.map enO) = [] := by
      unfold sheetT okL
      rw [decide_eq_false (by rw [hlen]; omega)]; rfl
    rw [hk]
    exact ⟨rfl, Below.refl _ _⟩
  go_enter Tryz.func81, Tryz.ntmps81
  go_wp2
  go_loopw [3, 4, 5] (fun o i _ wr => ∃ (j : Nat) (t : List UInt8), j ≤ L.length ∧ t.length ≤ 12 * j ∧ i = .int .i64 j ∧ o = .string ⟨(83 :: t).toArray⟩ ∧ Hid (t = encL ((L.map enO).take j)) ∧ Hid (∀ k (h : k < L.length), k < j → okE (enO L[k]) = true) ∧ Hid (∀ k (h : k + 1 < L.length), k + 1 < j → Op.bytesLess (L[k]).nm.toList (L[k + 1]).nm.toList = true) ∧ Below w.heap.size w wr) (fun _ i _ _ => L.length - (intOf i).toNat)
  case atStart => exact ⟨0, [], Nat.zero_le _, by simp, rfl, rfl, rfl, fun k h h' => absurd h' (by omega), fun k h h' => absurd h' (by omega), Below.refl _ _⟩
  case round =>
    obtain ⟨j, tx, hj, htl, rfl, rfl, ET, HO, HI, hb⟩ := hrel
    have hsz := hb.size
    by_cases hlt : j < L.length
    · obtain ⟨b, o, rfl, hbl, c1, c2, c3⟩ := (HL.out.below hb (Nat.le_refl _)) j hlt
      have hpx := HT.out j hlt
      have EN : Hid (encL ((L.map enO).take (j + 1)) = tx ++ encE (enO L[j])) := by show _ = _; rw [takeO L j hlt, ET.out]
      obtain ⟨x, hx⟩ : ∃ x, L[j] = x := ⟨_, rfl⟩
      rw [hx] at c1 c2 c3 hpx EN
      have HX : Hid (L[j] = x) := hx
      have hq := fun w' => l2Entry_o x w' hpx
      clear hx
      have hne : Nonempty (Ext wr) := ⟨⟨wr, Below.refl _ _⟩⟩
      have x1 : ∀ y : Ext wr, y.world.cell? ⟨b, o + j * 3, none⟩ = some (.string x.nm) := fun y => y.cell c1
      have x2 : ∀ y : Ext wr, y.world.cell? ⟨b, o + j * 3 + 1, none⟩ = some (.bool x.sh) := fun y => y.cell c2
      have x3 : ∀ y : Ext wr, y.world.cell? ⟨b, o + j * 3 + 2, none⟩ = some (.int .i64 x.id) := fun y => y.cell c3
      cases k1 : okE (enO x)
      · have HB : Hid (sheetT (L.map enO) = []) := bad_ok _ j (by rw [hlen]; exact hlt) (by rw [mapO_get L j hlt, HX.out]; exact k1)
        rw [k1] at hq
        clear k1
        go_wp2
        refine region_ext (by kernel_rfl) (by kernel_rfl) ?_
        repeat (go_big_quiet_step ((go_at_call 111; exact calls_ext (hq _))))
        refine wpQuiet_nil ?_
        rintro _ ⟨y, rfl⟩
        have hby := hb.trans (y.below.mono hb.size)
        go_wp2
        go_ret
        rw [HB.out]
        exact ⟨rfl, hby⟩
      rw [k1] at hq
      have K1 : Hid (okE (enO x) = true) := k1
      clear k1
      have w2 : (encE (enO x)).length ≤ 12 := (encO_len x K1.out).1
      have w3 : x.nm.size ≤ 3 := (encO_len x K1.out).2.1
      have w4 : (idHexB x.id).size = 8 := (encO_len x K1.out).2.2
      have w1 : (ByteArray.mk (83 :: tx).toArray).size = tx.length + 1 := by simp [ByteArray.size]
      have HNO : Hid (∀ k (h : k < L.length), k < j + 1 → okE (enO L[k]) = true) := fun k h hk => by
        by_cases hkj : k < j
        · exact HO.out k h hkj
        · obtain rfl : k = j := by omega
          rw [HX.out]; exact K1.out
      by_cases k4 : j = 0
      · subst k4
        have HNI : Hid (∀ k (h : k + 1 < L.length), k + 1 < 0 + 1 → Op.bytesLess (L[k]).nm.toList (L[k + 1]).nm.toList = true) := fun k h hk => by omega
        simp only [Nat.zero_mul, Nat.add_zero] at x1 x2 x3 c1 c2 c3
        go_wp2
        refine region_ext (by kernel_rfl) (by kernel_rfl) ?_
        repeat (go_big_quiet_step ((go_at_call 111; exact calls_ext (hq _))))
        refine wpQuiet_nil ?_
        rintro _ ⟨y, rfl⟩
        have hby := hb.trans (y.below.mono hb.size)
        cases hsh : x.sh
        · rw [hsh] at x2
          have d2 := x2 y
          have d1 := x1 y
          have d3 := x3 y
          have hne2 : Nonempty (Ext y.world) := ⟨⟨y.world, Below.refl _ _⟩⟩
          have y1 : ∀ z : Ext y.world, z.world.cell? ⟨b, o, none⟩ = some (.string x.nm) := fun z => z.cell d1
          have y3 : ∀ z : Ext y.world, z.world.cell? ⟨b, o + 2, none⟩ = some (.int .i64 x.id) := fun z => z.cell d3
          have HV : Hid ((ByteArray.mk (83 :: tx).toArray ++ x.nm ++ ⟨#[61]⟩ ++ idHexB x.id) = ⟨(83 :: (tx ++ encE (enO x))).toArray⟩) := outO tx x _ (by rw [hsh]; rfl)
          go_wp2
          refine region_ext (by kernel_rfl) (by kernel_rfl) ?_
          repeat (go_big_quiet_step ((go_at_call 112; exact calls_ext (hex_spec x.id _))))
          refine wpQuiet_nil ?_
          rintro _ ⟨z, rfl⟩
          have hbz := hby.trans (z.below.mono hby.size)
          go_wp2
          go_roundw
          case rel => exact ⟨1, tx ++ encE (enO x), by omega, by rw [List.length_append]; omega, by go_num, by rw [HV.out], EN.out.symm, HNO, HNI, hbz⟩
          case measure => simp [intOf]; omega
        · rw [hsh] at x2
          have d2 := x2 y
          have d1 := x1 y
          have d3 := x3 y
          have hne2 : Nonempty (Ext y.world) := ⟨⟨y.world, Below.refl _ _⟩⟩
          have y1 : ∀ z : Ext y.world, z.world.cell? ⟨b, o, none⟩ = some (.string x.nm) := fun z => z.cell d1
          have y3 : ∀ z : Ext y.world, z.world.cell? ⟨b, o + 2, none⟩ = some (.int .i64 x.id) := fun z => z.cell d3
          have HV : Hid ((ByteArray.mk (83 :: tx).toArray ++ x.nm ++ ⟨#[47]⟩ ++ idHexB x.id) = ⟨(83 :: (tx ++ encE (enO x))).toArray⟩) := outO tx x _ (by rw [hsh]; rfl)
          go_wp2
          refine region_ext (by kernel_rfl) (by kernel_rfl) ?_
          repeat (go_big_quiet_step ((go_at_call 112; exact calls_ext (hex_spec x.id _))))
          refine wpQuiet_nil ?_
          rintro _ ⟨z, rfl⟩
          have hbz := hby.trans (z.below.mono hby.size)
          go_wp2
          go_roundw
          case rel => exact ⟨1, tx ++ encE (enO x), by omega, by rw [List.length_append]; omega, by go_num, by rw [HV.out], EN.out.symm, HNO, HNI, hbz⟩
          case measure => simp [intOf]; omega
      obtain ⟨i, rfl⟩ : ∃ i, j = i + 1 := ⟨j - 1, by omega⟩
      obtain ⟨b', o', ea, hbl', d1, d2, d3⟩ := (HL.out.below hb (Nat.le_refl _)) i (by omega)
      simp only [Option.some.injEq, Addr.mk.injEq] at ea
      obtain ⟨rfl, rfl, _⟩ := ea
      obtain ⟨q', hq'⟩ : ∃ q', (L[i]).nm = q' := ⟨_, rfl⟩
      rw [hq'] at d1
      have HQ : Hid ((L[i]).nm = q') := hq'
      have x4 : ∀ y : Ext wr, y.world.cell? ⟨b, o + i * 3, none⟩ = some (.string q') := fun y => y.cell d1
      clear d1 d2 d3 k4 hq'
      have y2 : (0 : Int) < ((i + 1 : Nat) : Int) := by omega
      have y3 : (0 : Int) < (i : Int) + 1 := by omega
      have htri := blTri q'.toList x.nm.toList
      have htri2 := blTri x.nm.toList q'.toList
      cases k5 : Op.bytesLess q'.toList x.nm.toList
      · have HB : Hid (sheetT (L.map enO) = []) := bad_rise _ i (by rw [hlen]; exact hlt) (by
          rw [mapO_get L i (by omega), mapO_get L (i + 1) hlt, HX.out]
          show Op.bytesLess (L[i]).nm.data.toList x.nm.data.toList = false
          rw [HQ.out, ← ByteArray.toList_eq, ← ByteArray.toList_eq]; exact k5)
        rw [k5] at htri2
        go_wp2
        refine region_ext (by kernel_rfl) (by kernel_rfl) ?_
        repeat (go_big_quiet_step ((go_at_call 111; exact calls_ext (hq _))))
        refine wpQuiet_nil ?_
        rintro _ ⟨y, rfl⟩
        have hby := hb.trans (y.below.mono hb.size)
        go_wp2
        go_ret
        rw [HB.out]
        exact ⟨rfl, hby⟩
      · have HNI : Hid (∀ k (h : k + 1 < L.length), k + 1 < i + 1 + 1 → Op.bytesLess (L[k]).nm.toList (L[k + 1]).nm.toList = true) := fun k h hk => by
          by_cases hki : k + 1 < i + 1
          · exact HI.out k h hki
          · obtain rfl : k = i := by omega
            have e2 := HX.out
            rw [e2, HQ.out]; exact k5
        rw [k5] at htri2
        go_wp2
        refine region_ext (by kernel_rfl) (by kernel_rfl) ?_
        repeat (go_big_quiet_step ((go_at_call 111; exact calls_ext (hq _))))
        refine wpQuiet_nil ?_
        rintro _ ⟨y, rfl⟩
        have hby := hb.trans (y.below.mono hb.size)
        cases hsh : x.sh
        · rw [hsh] at x2
          have d2 := x2 y
          have d1 := x1 y
          have d3 := x3 y
          have hne2 : Nonempty (Ext y.world) := ⟨⟨y.world, Below.refl _ _⟩⟩
          have y1 : ∀ z : Ext y.world, z.world.cell? ⟨b, o + (i + 1) * 3, none⟩ = some (.string x.nm) := fun z => z.cell d1
          have y3 : ∀ z : Ext y.world, z.world.cell? ⟨b, o + (i + 1) * 3 + 2, none⟩ = some (.int .i64 x.id) := fun z => z.cell d3
          have HV : Hid ((ByteArray.mk (83 :: tx).toArray ++ x.nm ++ ⟨#[61]⟩ ++ idHexB x.id) = ⟨(83 :: (tx ++ encE (enO x))).toArray⟩) := outO tx x _ (by rw [hsh]; rfl)
          go_wp2
          refine region_ext (by kernel_rfl) (by kernel_rfl) ?_
          repeat (go_big_quiet_step ((go_at_call 112; exact calls_ext (hex_spec x.id _))))
          refine wpQuiet_nil ?_
          rintro _ ⟨z, rfl⟩
          have hbz := hby.trans (z.below.mono hby.size)
          go_wp2
          go_roundw
          case rel => exact ⟨i + 1 + 1, tx ++ encE (enO x), by omega, by rw [List.length_append]; omega, by go_num, by rw [HV.out], EN.out.symm, HNO, HNI, hbz⟩
          case measure => simp [intOf]; omega
        · rw [hsh] at x2
          have d2 := x2 y
          have d1 := x1 y
          have d3 := x3 y
          have hne2 : Nonempty (Ext y.world) := ⟨⟨y.world, Below.refl _ _⟩⟩
          have y1 : ∀ z : Ext y.world, z.world.cell? ⟨b, o + (i + 1) * 3, none⟩ = some (.string x.nm) := fun z => z.cell d1
          have y3 : ∀ z : Ext y.world, z.world.cell? ⟨b, o + (i + 1) * 3 + 2, none⟩ = some (.int .i64 x.id) := fun z => z.cell d3
          have HV : Hid ((ByteArray.mk (83 :: tx).toArray ++ x.nm ++ ⟨#[47]⟩ ++ idHexB x.id) = ⟨(83 :: (tx ++ encE (enO x))).toArray⟩) := outO tx x _ (by rw [hsh]; rfl)
          go_wp2
          refine region_ext (by kernel_rfl) (by kernel_rfl) ?_
          repeat (go_big_quiet_step ((go_at_call 112; exact calls_ext (hex_spec x.id _))))
          refine wpQuiet_nil ?_
          rintro _ ⟨z, rfl⟩
          have hbz := hby.trans (z.below.mono hby.size)
          go_wp2
          go_roundw
          case rel => exact ⟨i + 1 + 1, tx ++ encE (enO x), by omega, by rw [List.length_append]; omega, by go_num, by rw [HV.out], EN.out.symm, HNO, HNI, hbz⟩
          case measure => simp [intOf]; omega
    · obtain rfl : j = L.length := by omega
      have HK : Hid (sheetT (L.map enO) = 83 :: tx) := by
        show _ = _
        rw [good _ (by rw [hlen]; omega) (fun k h => by rw [mapO_get L k (by simpa using h)]; exact HO.out k (by simpa using h) (by simpa using h)) (fun k h => by
          have h' : k + 1 < L.length := by simpa using h
          have := HI.out k h' h'
          rw [ByteArray.toList_eq, ByteArray.toList_eq] at this
          simpa [enO] using this), ET.out]
        rw [← hlen, List.take_length]
      go_wp2
      go_ret
      rw [HK.out]
      exact ⟨rfl, hb⟩
end Go.Proofs.YthfffpdkmoclbaaGreatDoor.W
namespace Go.Proofs.YthfffpdkmoclbaaGreatDoor.W
open Go.RowKit

/-- the text of a leaf -/
def leafB (s : ByteArray) : ByteArray := if s.size ≤ 6 then ⟨#[76]⟩ ++ s else ByteArray.empty

theorem leafB_yes (s : ByteArray) (h : s.size ≤ 6) : ⟨#[76]⟩ ++ s = leafB s := by unfold leafB; rw [if_pos h]
theorem leafB_no (s : ByteArray) (h : ¬ s.size ≤ 6) : ByteArray.empty = leafB s := by unfold leafB; rw [if_neg h]

theorem leaf_spec (s : ByteArray) (w : World) (hs : s.size ≤ maxLen) :
    Calls Tryz.prog 79 #[.string s] w fun e w' => e = .returned (.string (leafB s)) ∧ w = w' := by
  unfold maxLen at hs
  by_cases h : s.size ≤ 6
  · go_enter Tryz.func79, Tryz.ntmps79
    go_wp2
    go_ret
    exact ⟨ret_str (leafB_yes s h), rfl⟩
  · go_enter Tryz.func79, Tryz.ntmps79
    go_wp2
    go_ret
    exact ⟨ret_str (leafB_no s h), rfl⟩

theorem leafOk_any (s : ByteArray) (w : World) (hs : s.size ≤ maxLen) :
    Calls Tryz.prog 158 #[.agg #[.string s]] w fun e w' => e = .returned (.bool (decide (s.size ≤ 6))) ∧ Below w.heap.size w w' := by
  unfold maxLen at hs
  go_enter Tryz.func158, Tryz.ntmps158
  go_wp2
  go_ret
  exact ⟨ret_bool (by rw [Bool.eq_iff_iff]; simp; omega), (Below.refl _ _).alloc (Nat.le_refl _) _⟩

theorem leafText_any (s : ByteArray) (w : World) (hs : s.size ≤ 6) :
    Calls Tryz.prog 216 #[.agg #[.string s]] w fun e w' => e = .returned (.string (⟨#[76]⟩ ++ s)) ∧ Below w.heap.size w w' := by
  go_enter Tryz.func216, Tryz.ntmps216
  go_wp2
  go_ret
  exact ⟨rfl, (Below.refl _ _).alloc (Nat.le_refl _) _⟩
theorem m_leafOk (v : Value) (w : World) : (method 382 126 (.agg #[v]) "loop.example/chartulary/impl.ok").run Tryz.prog w = .ok (158, .agg #[v]) w := by kernel_rfl
theorem m_leafText (v : Value) (w : World) : (method 382 126 (.agg #[v]) "loop.example/chartulary/impl.text").run Tryz.prog w = .ok (216, .agg #[v]) w := by kernel_rfl

set_option maxHeartbeats 400000 in
theorem write_leaf (s : ByteArray) (w : World) (hs : s.size ≤ maxLen) :
    Calls Tryz.prog 122 #[.iface 126 (.agg #[.string s])] w fun e w' => e = .returned (.string (leafB s)) ∧ Below w.heap.size w w' := by
  have m1 := m_leafOk
  have m2 := m_leafText
  by_cases h : s.size ≤ 6
  · have hd : decide (s.size ≤ 6) = true := decide_eq_true h
    go_enter Tryz.func122, Tryz.ntmps122
    go_wp2_with (go_at_call 158; refine (leafOk_any _ _ hs).mono ?_; rintro e w1 ⟨rfl, hb1⟩)
    go_wp2_with (go_at_call 216; refine (leafText_any _ _ h).mono ?_; rintro e w2 ⟨rfl, hb2⟩)
    go_ret
    exact ⟨ret_str (leafB_yes s h), hb1.trans (hb2.mono hb1.size)⟩
  · have hd : decide (s.size ≤ 6) = false := decide_eq_false h
    go_enter Tryz.func122, Tryz.ntmps122
    go_wp2_with (go_at_call 158; refine (leafOk_any _ _ hs).mono ?_; rintro e w1 ⟨rfl, hb1⟩)
    go_ret
    exact ⟨ret_str (leafB_no s h), hb1⟩

set_option maxHeartbeats 400000 in
theorem leaf_impl (s : ByteArray) (w : World) (hs : s.size ≤ maxLen) :
    Calls Tryz.prog 125 #[.string s] w fun e w' => e = .returned (.string (leafB s)) ∧ Below w.heap.size w w' := by
  go_enter Tryz.func125, Tryz.ntmps125
  go_wp2_with (go_at_call 122; refine (write_leaf _ _ hs).mono ?_; rintro e w1 ⟨rfl, hb1⟩)
  go_ret
  exact ⟨rfl, hb1⟩
end Go.Proofs.YthfffpdkmoclbaaGreatDoor.W
namespace Go.Proofs.YthfffpdkmoclbaaGreatDoor.M
open Go.RowKit

def idStep (x : Nat) (c : UInt8) : Nat := ((x ^^^ c.toNat) * 16777619 % 4294967296) ^^^ ((x ^^^ c.toNat) * 16777619 % 4294967296 / 32768)
def idFold (x : Nat) (l : List UInt8) : Nat := l.foldl idStep x
def idFin (x : Nat) : Nat := (x * 73856093 % 4294967296) ^^^ (x * 73856093 % 4294967296 / 8192)
def idRaw (l : List UInt8) : Nat := idFin (idFold (2166136261 + l.length) l)
def idOfN (l : List UInt8) : Nat := if idRaw l = 0 then 1 else idRaw l

theorem xor_lt32 {a b : Nat} (ha : a < 4294967296) (hb : b < 4294967296) : a ^^^ b < 4294967296 :=
  Nat.xor_lt_two_pow (n := 32) ha hb
theorem idStep_lt (x : Nat) (c : UInt8) : idStep x c < 4294967296 := by
  unfold idStep; exact xor_lt32 (Nat.mod_lt _ (by omega)) (by omega)
theorem idFin_lt (x : Nat) : idFin x < 4294967296 := by
  unfold idFin; exact xor_lt32 (Nat.mod_lt _ (by omega)) (by omega)
theorem foldl_snoc {α β : Type} (f : α → β → α) (x : α) (l : List β) (c : β) : (l ++ [c]).foldl f x = f (l.foldl f x) c := by simp
theorem foldl_inv {α β : Type} (P : α → Prop) (f : α → β → α) (h : ∀ a b, P (f a b)) (x : α) (hx : P x) (l : List β) : P (l.foldl f x) := by
  induction l generalizing x with
  | nil => exact hx
  | cons a r ih => exact ih _ (h x a)
theorem idFold_snoc (x : Nat) (l : List UInt8) (c : UInt8) : idFold x (l ++ [c]) = idStep (idFold x l) c := foldl_snoc idStep x l c
theorem idFold_lt (x : Nat) (hx : x < 4294967296) (l : List UInt8) : idFold x l < 4294967296 :=
  foldl_inv (fun y => y < 4294967296) idStep idStep_lt x hx l
theorem idOfN_bd (l : List UInt8) : 1 ≤ idOfN l ∧ idOfN l ≤ 4294967295 := by
  have := idFin_lt (idFold (2166136261 + l.length) l)
  unfold idOfN idRaw; split <;> omega
theorem take_snoc (s : ByteArray) (k : Nat) (h : k < s.size) : s.data.toList.take (k + 1) = s.data.toList.take k ++ [s[k]] := by
  rw [List.take_succ_eq_append_getElem (by simpa using h)]; rfl
theorem i64_xor_nat (a b : Nat) (ha : a < 4294967296) (hb : b < 4294967296) : bits .xor .i64 (a : Int) (b : Int) = ((a ^^^ b : Nat) : Int) := by
  have hx : a ^^^ b < 2 ^ 32 := Nat.xor_lt_two_pow (by omega) (by omega)
  show IntKind.i64.wrap ((BitVec.ofInt 64 (a : Int) ^^^ BitVec.ofInt 64 (b : Int)).toNat : Int) = _
  rw [BitVec.toNat_xor, ofInt_u64 a (by omega), ofInt_u64 b (by omega), IntKind.wrap_i64]
  omega
theorem w64_nat (n : Nat) (h : n < 4294967296) : wrap64 (n : Int) = n := by unfold wrap64; omega
theorem mul_i64 (z m : Nat) (hz : z < 4294967296) (hm : m < 134217728) : (wrap64 ((z : Int) * (m : Int))).tmod 4294967296 = ((z * m % 4294967296 : Nat) : Int) := by
  have h : z * m < 4294967296 * 134217728 := Nat.mul_lt_mul'' hz hm
  have e : (z : Int) * (m : Int) = ((z * m : Nat) : Int) := by simp
  rw [e]
  have e2 : wrap64 ((z * m : Nat) : Int) = ((z * m : Nat) : Int) := by unfold wrap64; omega
  rw [e2, Int.tmod_eq_emod_of_nonneg (by omega)]; simp
theorem quo_i64 (z d : Nat) (hz : z < 4294967296) : wrap64 ((z : Int).tdiv (d : Int)) = ((z / d : Nat) : Int) := by
  have e : (z : Int).tdiv (d : Int) = ((z / d : Nat) : Int) := by rw [Int.tdiv_eq_ediv_of_nonneg (by omega)]; simp
  have : z / d ≤ z := Nat.div_le_self _ _
  rw [e]; exact w64_nat _ (by omega)
theorem c_lt (c : UInt8) : c.toNat < 4294967296 := by have := c.toNat_lt; omega
theorem step_i64 (y : Nat) (c : UInt8) (hy : y < 4294967296) :
    bits BinOp.xor IntKind.i64 ((wrap64 (bits BinOp.xor IntKind.i64 (y : Int) (wrap64 (c.toNat : Int)) * 16777619)).tmod 4294967296)
      (wrap64 (((wrap64 (bits BinOp.xor IntKind.i64 (y : Int) (wrap64 (c.toNat : Int)) * 16777619)).tmod 4294967296).tdiv 32768)) = ((idStep y c : Nat) : Int) := by
  have h1 := mul_i64 (y ^^^ c.toNat) 16777619 (xor_lt32 hy (c_lt c)) (by omega)
  have hb : (y ^^^ c.toNat) * 16777619 % 4294967296 < 4294967296 := Nat.mod_lt _ (by omega)
  have h2 := quo_i64 _ 32768 hb
  rw [w64_nat _ (c_lt c), i64_xor_nat _ _ hy (c_lt c)]
  have h1' : (wrap64 (((y ^^^ c.toNat : Nat) : Int) * 16777619)).tmod 4294967296 = (((y ^^^ c.toNat) * 16777619 % 4294967296 : Nat) : Int) := h1
  have h2' : wrap64 (((((y ^^^ c.toNat) * 16777619 % 4294967296 : Nat) : Int)).tdiv 32768) = (((y ^^^ c.toNat) * 16777619 % 4294967296 / 32768 : Nat) : Int) := h2
  rw [h1', h2', i64_xor_nat _ _ hb (by omega)]
  unfold idStep; rfl
theorem cast_mod (y m : Nat) : (y : Int) * (m : Int) % 4294967296 = ((y * m % 4294967296 : Nat) : Int) := by simp
theorem cast_div (z d : Nat) : (z : Int) / (d : Int) = ((z / d : Nat) : Int) := by simp
theorem fin_i64 (y : Nat) : bits BinOp.xor IntKind.i64 ((y : Int) * 73856093 % 4294967296) ((y : Int) * 73856093 % 4294967296 / 8192) = ((idFin y : Nat) : Int) := by
  have h1 : (y : Int) * 73856093 % 4294967296 = ((y * 73856093 % 4294967296 : Nat) : Int) := cast_mod y 73856093
  have hb : y * 73856093 % 4294967296 < 4294967296 := Nat.mod_lt _ (by omega)
  have h2 : ((y * 73856093 % 4294967296 : Nat) : Int) / 8192 = ((y * 73856093 % 4294967296 / 8192 : Nat) : Int) := cast_div _ 8192
  rw [h1, h2, i64_xor_nat _ _ hb (by omega)]
  unfold idFin; rfl
theorem fin_u32 (y : Nat) : bits BinOp.xor IntKind.u32 ((y : Int) * 73856093 % 4294967296) ((y : Int) * 73856093 % 4294967296 / 8192) = ((idFin y : Nat) : Int) := by
  have h1 : (y : Int) * 73856093 % 4294967296 = ((y * 73856093 % 4294967296 : Nat) : Int) := cast_mod y 73856093
  have hb : y * 73856093 % 4294967296 < 4294967296 := Nat.mod_lt _ (by omega)
  have h2 : ((y * 73856093 % 4294967296 : Nat) : Int) / 8192 = ((y * 73856093 % 4294967296 / 8192 : Nat) : Int) := cast_div _ 8192
  rw [h1, h2, u32_xor_nat _ _ hb (by omega)]
  unfold idFin; rfl
theorem step_u32 (y : Nat) (c : UInt8) (hy : y < 4294967296) :
    bits BinOp.xor IntKind.u32 (bits BinOp.xor IntKind.u32 (y : Int) ((c.toNat : Int) % 4294967296) * 16777619 % 4294967296)
      (bits BinOp.xor IntKind.u32 (y : Int) ((c.toNat : Int) % 4294967296) * 16777619 % 4294967296 / 32768) = ((idStep y c : Nat) : Int) := by
  have h0 : (c.toNat : Int) % 4294967296 = (c.toNat : Int) := by have := c_lt c; omega
  have h1 : ((y ^^^ c.toNat : Nat) : Int) * 16777619 % 4294967296 = (((y ^^^ c.toNat) * 16777619 % 4294967296 : Nat) : Int) := cast_mod (y ^^^ c.toNat) 16777619
  have hb : (y ^^^ c.toNat) * 16777619 % 4294967296 < 4294967296 := Nat.mod_lt _ (by omega)
  have h2 : (((y ^^^ c.toNat) * 16777619 % 4294967296 : Nat) : Int) / 32768 = (((y ^^^ c.toNat) * 16777619 % 4294967296 / 32768 : Nat) : Int) := cast_div _ 32768
  rw [h0, u32_xor_nat _ _ hy (c_lt c), h1, h2, u32_xor_nat _ _ hb (by omega)]
  unfold idStep; rfl
theorem idOf_one (l : List UInt8) (y : Nat) (hy : y = idFold (2166136261 + l.length) l) (h : ((idFin y : Nat) : Int) = 0) : (1 : Int) = ((idOfN l : Nat) : Int) := by
  have : idRaw l = 0 := by unfold idRaw; rw [← hy]; omega
  unfold idOfN; rw [if_pos this]; rfl
theorem idOf_fin (l : List UInt8) (y : Nat) (hy : y = idFold (2166136261 + l.length) l) (h : ¬ ((idFin y : Nat) : Int) = 0) : ((idFin y : Nat) : Int) = ((idOfN l : Nat) : Int) := by
  have e : idRaw l = idFin y := by unfold idRaw; rw [← hy]
  unfold idOfN; rw [if_neg (by rw [e]; omega), e]
end Go.Proofs.YthfffpdkmoclbaaGreatDoor.M
