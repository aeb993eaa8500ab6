
/-
  The walk of the specification's ObjSheet over a row of entries. At most 1048576 entries, names of at most 1048576 bytes.
-/
import Derived.Test.YtgbcgchnnmgmfaaWalkObjS
import Derived.Test.YtgbcgchnnmgmfaaMathObj3
import Derived.Test.YtgbcgchnnmgmfaaWalkHex
import Derived.Test.YtgbcgchnnmgmfaaRowO
import Derived.Test.YtgbcgchnnmgmfaaMathExt
import Derived.Test.YtgbcgchnnmgmfaaMathTri
namespace Go.Proofs.Ytgbcgchnnmgmfaa.W
open Go.RowKit Go.Proofs.Ytgbcgchnnmgmfaa.M

def enO (x : OE) : En := ⟨x.nm.data.toList, x.sh, x.id⟩
theorem wholeB (s : ByteArray) : (ByteArray.mk s.data.toList.toArray) = s := by apply ByteArray.ext; simp
theorem l2Entry_o (x : OE) (w : World) (hn : x.nm.size ≤ 1048576) :
    Calls Try.prog 39 #[.agg #[.string x.nm, .bool x.sh, .int .i64 x.id]] w fun ev w' => ev = .returned (.bool (okE (enO x))) ∧ Below w.heap.size w w' := by
  have := l2Entry_any (enO x) w (by show x.nm.data.toList.length ≤ _; simp; have : x.nm.size = x.nm.data.size := rfl; omega)
  have e : (ByteArray.mk (enO x).nm.toArray) = x.nm := wholeB x.nm
  rw [e] at this
  exact this
theorem mapO_get (L : List OE) (j : Nat) (h : j < L.length) : (L.map enO)[j]'(by simpa using h) = enO L[j] := by simp
theorem takeO (L : List OE) (j : Nat) (h : j < L.length) : encL ((L.map enO).take (j + 1)) = encL ((L.map enO).take j) ++ encE (enO L[j]) := by
  rw [List.take_succ_eq_append_getElem (by simpa using h), enc_snoc, mapO_get L j h]
theorem outO (o : List UInt8) (x : OE) (m : ByteArray) (hm : m = ⟨#[mrk x.sh]⟩) : (ByteArray.mk (83 :: o).toArray ++ x.nm ++ m ++ idHexB x.id) = ⟨(83 :: (o ++ encE (enO x))).toArray⟩ := by
  subst hm
  apply ByteArray.ext
  simp [encE, enO]

theorem encO_len (x : OE) (h : okE (enO x) = true) : (encE (enO x)).length ≤ 12 ∧ x.nm.size ≤ 3 ∧ (idHexB x.id).size = 8 := by
  obtain ⟨h1, h2, h3⟩ := okE_parts (enO x) h
  have a1 : (idHexB x.id).data.toList.length = 8 := idHex_length x.id ⟨h2, h3⟩
  have a2 : x.nm.data.toList.length ≤ 3 := by
    have : namB x.nm.data.toList = true := h1
    unfold namB at this; simp at this; simp; omega
  refine ⟨?_, ?_, ?_⟩
  · unfold encE; simp only [List.length_append, List.length_cons]
    show x.nm.data.toList.length + ((idHexB x.id).data.toList.length + 1) ≤ 12
    omega
  · have : x.nm.size = x.nm.data.toList.length := by rw [Array.length_toList]; rfl
    omega
  · have : (idHexB x.id).size = (idHexB x.id).data.toList.length := by rw [Array.length_toList]; rfl
    omega

set_option maxHeartbeats 2000000 in
theorem sheet_spec (A : Option Addr) (c : Nat) (L : List OE) (w : World) (hL : RdO w.heap.size w A L) (hn : L.length ≤ 1048576) (ht : ∀ j (h : j < L.length), (L[j]).nm.size ≤ 1048576) :
    Calls Try.prog 27 #[.slice A L.length c] w fun ev w' => ev = .returned (.string ⟨(sheetT (L.map enO)).toArray⟩) ∧ Below w.heap.size w w' := by
  have HL : Hid (RdO w.heap.size w A L) := hL
  have HT : Hid (∀ j (h : j < L.length), (L[j]).nm.size ≤ 1048576) := ht
  clear hL ht
  have hlen : (L.map enO).length = L.length := by simp
  by_cases h60 : 60 < L.length
  · go_enter Try.func27, Try.ntmps27
    go_wp2
    go_ret
    have hk : sheetT (L.map enO) = [] := by
      unfold sheetT okL
      rw [decide_eq_false (by rw [hlen]; omega)]; rfl
    rw [hk]
    exact ⟨rfl, Below.refl _ _⟩
  go_enter Try.func27, Try.ntmps27
  go_wp2
  go_loopw [3, 4, 5] (fun o i _ wr => ∃ (j : Nat) (t : List UInt8), j ≤ L.length ∧ t.length ≤ 12 * j ∧ i = .int .i64 j ∧ o = .string ⟨(83 :: t).toArray⟩ ∧ Hid (t = encL ((L.map enO).take j)) ∧ Hid (∀ k (h : k < L.length), k < j → okE (enO L[k]) = true) ∧ Hid (∀ k (h : k + 1 < L.length), k + 1 < j → Op.bytesLess (L[k]).nm.toList (L[k + 1]).nm.toList = true) ∧ Below w.heap.size w wr) (fun _ i _ _ => L.length - (intOf i).toNat)
  case atStart => exact ⟨0, [], Nat.zero_le _, by simp, rfl, rfl, rfl, fun k h h' => absurd h' (by omega), fun k h h' => absurd h' (by omega), Below.refl _ _⟩
  case round =>
    obtain ⟨j, tx, hj, htl, rfl, rfl, ET, HO, HI, hb⟩ := hrel
    have hsz := hb.size
    by_cases hlt : j < L.length
    · obtain ⟨b, o, rfl, hbl, c1, c2, c3⟩ := (HL.out.below hb (Nat.le_refl _)) j hlt
      have hpx := HT.out j hlt
      have EN : Hid (encL ((L.map enO).take (j + 1)) = tx ++ encE (enO L[j])) := by show _ = _; rw [takeO L j hlt, ET.out]
      obtain ⟨x, hx⟩ : ∃ x, L[j] = x := ⟨_, rfl⟩
      rw [hx] at c1 c2 c3 hpx EN
      have HX : Hid (L[j] = x) := hx
      have hq := fun w' => l2Entry_o x w' hpx
      clear hx
      have hne : Nonempty (Ext wr) := ⟨⟨wr, Below.refl _ _⟩⟩
      have x1 : ∀ y : Ext wr, y.world.cell? ⟨b, o + j * 3, none⟩ = some (.string x.nm) := fun y => y.cell c1
      have x2 : ∀ y : Ext wr, y.world.cell? ⟨b, o + j * 3 + 1, none⟩ = some (.bool x.sh) := fun y => y.cell c2
      have x3 : ∀ y : Ext wr, y.world.cell? ⟨b, o + j * 3 + 2, none⟩ = some (.int .i64 x.id) := fun y => y.cell c3
      cases k1 : okE (enO x)
      · have HB : Hid (sheetT (L.map enO) = []) := bad_ok _ j (by rw [hlen]; exact hlt) (by rw [mapO_get L j hlt, HX.out]; exact k1)
        rw [k1] at hq
        clear k1
        go_wp2
        refine region_ext (by kernel_rfl) (by kernel_rfl) ?_
        repeat (go_big_quiet_step ((go_at_call 39; exact calls_ext (hq _))))
        refine wpQuiet_nil ?_
        rintro _ ⟨y, rfl⟩
        have hby := hb.trans (y.below.mono hb.size)
        go_wp2
        go_ret
        rw [HB.out]
        exact ⟨rfl, hby⟩
      rw [k1] at hq
      have K1 : Hid (okE (enO x) = true) := k1
      clear k1
      have w2 : (encE (enO x)).length ≤ 12 := (encO_len x K1.out).1
      have w3 : x.nm.size ≤ 3 := (encO_len x K1.out).2.1
      have w4 : (idHexB x.id).size = 8 := (encO_len x K1.out).2.2
      have w1 : (ByteArray.mk (83 :: tx).toArray).size = tx.length + 1 := by simp [ByteArray.size]
      have HNO : Hid (∀ k (h : k < L.length), k < j + 1 → okE (enO L[k]) = true) := fun k h hk => by
        by_cases hkj : k < j
        · exact HO.out k h hkj
        · obtain rfl : k = j := by omega
          rw [HX.out]; exact K1.out
      by_cases k4 : j = 0
      · subst k4
        have HNI : Hid (∀ k (h : k + 1 < L.length), k + 1 < 0 + 1 → Op.bytesLess (L[k]).nm.toList (L[k + 1]).nm.toList = true) := fun k h hk => by omega
        simp only [Nat.zero_mul, Nat.add_zero] at x1 x2 x3 c1 c2 c3
        go_wp2
        refine region_ext (by kernel_rfl) (by kernel_rfl) ?_
        repeat (go_big_quiet_step ((go_at_call 39; exact calls_ext (hq _))))
        refine wpQuiet_nil ?_
        rintro _ ⟨y, rfl⟩
        have hby := hb.trans (y.below.mono hb.size)
        cases hsh : x.sh
        · rw [hsh] at x2
          have d2 := x2 y
          have d1 := x1 y
          have d3 := x3 y
          have hne2 : Nonempty (Ext y.world) := ⟨⟨y.world, Below.refl _ _⟩⟩
          have y1 : ∀ z : Ext y.world, z.world.cell? ⟨b, o, none⟩ = some (.string x.nm) := fun z => z.cell d1
          have y3 : ∀ z : Ext y.world, z.world.cell? ⟨b, o + 2, none⟩ = some (.int .i64 x.id) := fun z => z.cell d3
          have HV : Hid ((ByteArray.mk (83 :: tx).toArray ++ x.nm ++ ⟨#[61]⟩ ++ idHexB x.id) = ⟨(83 :: (tx ++ encE (enO x))).toArray⟩) := outO tx x _ (by rw [hsh]; rfl)
          go_wp2
          refine region_ext (by kernel_rfl) (by kernel_rfl) ?_
          repeat (go_big_quiet_step ((go_at_call 40; exact calls_ext (hex_spec x.id _))))
          refine wpQuiet_nil ?_
          rintro _ ⟨z, rfl⟩
          have hbz := hby.trans (z.below.mono hby.size)
          go_wp2
          go_roundw
          case rel => exact ⟨1, tx ++ encE (enO x), by omega, by rw [List.length_append]; omega, by go_num, by rw [HV.out], EN.out.symm, HNO, HNI, hbz⟩
          case measure => simp [intOf]; omega
        · rw [hsh] at x2
          have d2 := x2 y
          have d1 := x1 y
          have d3 := x3 y
          have hne2 : Nonempty (Ext y.world) := ⟨⟨y.world, Below.refl _ _⟩⟩
          have y1 : ∀ z : Ext y.world, z.world.cell? ⟨b, o, none⟩ = some (.string x.nm) := fun z => z.cell d1
          have y3 : ∀ z : Ext y.world, z.world.cell? ⟨b, o + 2, none⟩ = some (.int .i64 x.id) := fun z => z.cell d3
          have HV : Hid ((ByteArray.mk (83 :: tx).toArray ++ x.nm ++ ⟨#[47]⟩ ++ idHexB x.id) = ⟨(83 :: (tx ++ encE (enO x))).toArray⟩) := outO tx x _ (by rw [hsh]; rfl)
          go_wp2
          refine region_ext (by kernel_rfl) (by kernel_rfl) ?_
          repeat (go_big_quiet_step ((go_at_call 40; exact calls_ext (hex_spec x.id _))))
          refine wpQuiet_nil ?_
          rintro _ ⟨z, rfl⟩
          have hbz := hby.trans (z.below.mono hby.size)
          go_wp2
          go_roundw
          case rel => exact ⟨1, tx ++ encE (enO x), by omega, by rw [List.length_append]; omega, by go_num, by rw [HV.out], EN.out.symm, HNO, HNI, hbz⟩
          case measure => simp [intOf]; omega
      obtain ⟨i, rfl⟩ : ∃ i, j = i + 1 := ⟨j - 1, by omega⟩
      obtain ⟨b', o', ea, hbl', d1, d2, d3⟩ := (HL.out.below hb (Nat.le_refl _)) i (by omega)
      simp only [Option.some.injEq, Addr.mk.injEq] at ea
      obtain ⟨rfl, rfl, _⟩ := ea
      obtain ⟨q', hq'⟩ : ∃ q', (L[i]).nm = q' := ⟨_, rfl⟩
      rw [hq'] at d1
      have HQ : Hid ((L[i]).nm = q') := hq'
      have x4 : ∀ y : Ext wr, y.world.cell? ⟨b, o + i * 3, none⟩ = some (.string q') := fun y => y.cell d1
      clear d1 d2 d3 k4 hq'
      have y2 : (0 : Int) < ((i + 1 : Nat) : Int) := by omega
      have y3 : (0 : Int) < (i : Int) + 1 := by omega
      have htri := blTri q'.toList x.nm.toList
      have htri2 := blTri x.nm.toList q'.toList
      cases k5 : Op.bytesLess q'.toList x.nm.toList
      · have HB : Hid (sheetT (L.map enO) = []) := bad_rise _ i (by rw [hlen]; exact hlt) (by
          rw [mapO_get L i (by omega), mapO_get L (i + 1) hlt, HX.out]
          show Op.bytesLess (L[i]).nm.data.toList x.nm.data.toList = false
          rw [HQ.out, ← ByteArray.toList_eq, ← ByteArray.toList_eq]; exact k5)
        rw [k5] at htri2
        go_wp2
        refine region_ext (by kernel_rfl) (by kernel_rfl) ?_
        repeat (go_big_quiet_step ((go_at_call 39; exact calls_ext (hq _))))
        refine wpQuiet_nil ?_
        rintro _ ⟨y, rfl⟩
        have hby := hb.trans (y.below.mono hb.size)
        go_wp2
        go_ret
        rw [HB.out]
        exact ⟨rfl, hby⟩
      · have HNI : Hid (∀ k (h : k + 1 < L.length), k + 1 < i + 1 + 1 → Op.bytesLess (L[k]).nm.toList (L[k + 1]).nm.toList = true) := fun k h hk => by
          by_cases hki : k + 1 < i + 1
          · exact HI.out k h hki
          · obtain rfl : k = i := by omega
            have e2 := HX.out
            rw [e2, HQ.out]; exact k5
        rw [k5] at htri2
        go_wp2
        refine region_ext (by kernel_rfl) (by kernel_rfl) ?_
        repeat (go_big_quiet_step ((go_at_call 39; exact calls_ext (hq _))))
        refine wpQuiet_nil ?_
        rintro _ ⟨y, rfl⟩
        have hby := hb.trans (y.below.mono hb.size)
        cases hsh : x.sh
        · rw [hsh] at x2
          have d2 := x2 y
          have d1 := x1 y
          have d3 := x3 y
          have hne2 : Nonempty (Ext y.world) := ⟨⟨y.world, Below.refl _ _⟩⟩
          have y1 : ∀ z : Ext y.world, z.world.cell? ⟨b, o + (i + 1) * 3, none⟩ = some (.string x.nm) := fun z => z.cell d1
          have y3 : ∀ z : Ext y.world, z.world.cell? ⟨b, o + (i + 1) * 3 + 2, none⟩ = some (.int .i64 x.id) := fun z => z.cell d3
          have HV : Hid ((ByteArray.mk (83 :: tx).toArray ++ x.nm ++ ⟨#[61]⟩ ++ idHexB x.id) = ⟨(83 :: (tx ++ encE (enO x))).toArray⟩) := outO tx x _ (by rw [hsh]; rfl)
          go_wp2
          refine region_ext (by kernel_rfl) (by kernel_rfl) ?_
          repeat (go_big_quiet_step ((go_at_call 40; exact calls_ext (hex_spec x.id _))))
          refine wpQuiet_nil ?_
          rintro _ ⟨z, rfl⟩
          have hbz := hby.trans (z.below.mono hby.size)
          go_wp2
          go_roundw
          case rel => exact ⟨i + 1 + 1, tx ++ encE (enO x), by omega, by rw [List.length_append]; omega, by go_num, by rw [HV.out], EN.out.symm, HNO, HNI, hbz⟩
          case measure => simp [intOf]; omega
        · rw [hsh] at x2
          have d2 := x2 y
          have d1 := x1 y
          have d3 := x3 y
          have hne2 : Nonempty (Ext y.world) := ⟨⟨y.world, Below.refl _ _⟩⟩
          have y1 : ∀ z : Ext y.world, z.world.cell? ⟨b, o + (i + 1) * 3, none⟩ = some (.string x.nm) := fun z => z.cell d1
          have y3 : ∀ z : Ext y.world, z.world.cell? ⟨b, o + (i + 1) * 3 + 2, none⟩ = some (.int .i64 x.id) := fun z => z.cell d3
          have HV : Hid ((ByteArray.mk (83 :: tx).toArray ++ x.nm ++ ⟨#[47]⟩ ++ idHexB x.id) = ⟨(83 :: (tx ++ encE (enO x))).toArray⟩) := outO tx x _ (by rw [hsh]; rfl)
          go_wp2
          refine region_ext (by kernel_rfl) (by kernel_rfl) ?_
          repeat (go_big_quiet_step ((go_at_call 40; exact calls_ext (hex_spec x.id _))))
          refine wpQuiet_nil ?_
          rintro _ ⟨z, rfl⟩
          have hbz := hby.trans (z.below.mono hby.size)
          go_wp2
          go_roundw
          case rel => exact ⟨i + 1 + 1, tx ++ encE (enO x), by omega, by rw [List.length_append]; omega, by go_num, by rw [HV.out], EN.out.symm, HNO, HNI, hbz⟩
          case measure => simp [intOf]; omega
    · obtain rfl : j = L.length := by omega
      have HK : Hid (sheetT (L.map enO) = 83 :: tx) := by
        show _ = _
        rw [good _ (by rw [hlen]; omega) (fun k h => by rw [mapO_get L k (by simpa using h)]; exact HO.out k (by simpa using h) (by simpa using h)) (fun k h => by
          have h' : k + 1 < L.length := by simpa using h
          have := HI.out k h' h'
          rw [ByteArray.toList_eq, ByteArray.toList_eq] at this
          simpa [enO] using this), ET.out]
        rw [← hlen, List.take_length]
      go_wp2
      go_ret
      rw [HK.out]
      exact ⟨rfl, hb⟩
end Go.Proofs.Ytgbcgchnnmgmfaa.W
