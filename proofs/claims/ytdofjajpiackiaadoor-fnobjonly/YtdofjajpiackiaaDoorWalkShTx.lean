
/-
  The walks of the program's (sheetObject).text, of writeObject at a sheet, and of ObjSheet. At most 1048576 entries, names of at most 1048576 bytes.
-/
import Derived.Test.YtdofjajpiackiaaDoorWalkShOk
import Derived.Test.YtdofjajpiackiaaDoorWalkBld
import Derived.Test.YtdofjajpiackiaaDoorShelf
namespace Go.Proofs.YtdofjajpiackiaaDoor.W
open Go.RowKit Go.Proofs.YtdofjajpiackiaaDoor.M

theorem bld_new (w : World) (B : Nat) (hB : B ≤ w.heap.size) : Bld B w.heap.size [] (w.alloc (.cells #[.pointer none, .slice none 0 0] 129)) := by
  refine Or.inl ⟨hB, .slice none 0 0, ?_, World.ownsRow_nil _ _ _ _, by simp [Value.ownBlock]⟩
  show (w.heap.push _)[w.heap.size]? = _
  simp
theorem bytes_mk (t : List UInt8) (x : OE) (m : UInt8) (hm : m = mrk x.sh) : (Lib.byteCells (83 :: t) ++ Lib.strCells x.nm) ++ [Value.int .u8 m.toNat] ++ Lib.strCells (idHexB x.id) = Lib.byteCells (83 :: (t ++ encE (enO x))) := by
  subst hm
  simp [Lib.strCells_eq, Lib.byteCells, encE, enO]

theorem bld_below {B b : Nat} {bs : List Value} {w w' : World} (h : Bld B b bs w) (hb : Below w.heap.size w w') : Bld B b bs w' := by
  have go : ∀ p, Lib.BuilderAt 129 5 B b p bs w → Lib.BuilderAt 129 5 B b p bs w' := fun p ⟨h1, v, h2, h3, h4⟩ =>
    ⟨h1, v, (hb.block b (Array.getElem?_eq_some_iff.1 h2).1).trans h2, ownsUnder h3 hb (Nat.le_refl _), h4⟩
  rcases h with h | h
  · exact Or.inl (go _ h)
  · exact Or.inr (go _ h)
theorem bld_lt {B b : Nat} {bs : List Value} {w : World} (h : Bld B b bs w) : b < w.heap.size := by
  rcases h with ⟨_, v, h2, _⟩ | ⟨_, v, h2, _⟩ <;> exact (Array.getElem?_eq_some_iff.1 h2).1

set_option maxHeartbeats 4000000 in
theorem text_any (A : Option Addr) (c : Nat) (L : List OE) (w : World) (hL : RdO w.heap.size w A L) (hn : L.length ≤ 60) (hok : ∀ j (h : j < L.length), okE (enO L[j]) = true) :
    Calls Tryd.prog 80 #[.agg #[.slice A L.length c]] w fun ev w' => ev = .returned (.string ⟨(83 :: encL (L.map enO)).toArray⟩) ∧ Below w.heap.size w w' := by
  have HL : Hid (RdO w.heap.size w A L) := hL
  have HK : Hid (∀ j (h : j < L.length), okE (enO L[j]) = true) := hok
  clear hL hok
  have b0 := bld_new (w.alloc (.cells #[.slice A L.length c] 50)) w.heap.size (by simp)
  have z0 : (w.alloc (.cells #[.slice A L.length c] 50)).heap.size = w.heap.size + 1 := by simp
  rw [z0] at b0
  have B0 : Below w.heap.size w ((w.alloc (.cells #[.slice A L.length c] 50)).alloc (.cells #[.pointer none, .slice none 0 0] 129)) := ((Below.refl _ _).alloc (Nat.le_refl _) _).alloc (by simp) _
  have q0 : ((w.alloc (.cells #[.slice A L.length c] 50)).alloc (.cells #[.pointer none, .slice none 0 0] 129)).heap[w.heap.size]? = some (.cells #[.slice A L.length c] 50 (0, 0)) := by
    rw [Below.heap_alloc _ _ _ (by simp)]
    show (w.heap.push _)[w.heap.size]? = _
    simp
  go_enter Tryd.func80, Tryd.ntmps80
  go_wp2_with (go_at_call 81; refine (wstr_any w.heap.size (w.heap.size + 1) [] ⟨#[83]⟩ _ b0 (by decide) (by simp; omega)).mono ?_; rintro e w1 ⟨rfl, b1, hb1, kp1⟩; have q1 := kp1 w.heap.size _ _ _ (by omega) (by decide) q0; have c1 : w1.cell? ⟨w.heap.size, 0, none⟩ = some (.slice A L.length c) := (by rw [Lib.cell_of_heap q1]; rfl); replace hb1 := B0.trans hb1; clear B0 b0 q0 kp1)
  go_loopw [10] (fun iv wr => ∃ (j : Nat) (tx : List UInt8), j ≤ L.length ∧ iv = .int .i64 j ∧ tx.length ≤ 12 * j ∧ Hid (tx = encL ((L.map enO).take j)) ∧ Hid (Bld w.heap.size (w.heap.size + 1) (Lib.byteCells (83 :: tx)) wr) ∧ Below w.heap.size w wr) (fun i _ => L.length - (intOf i).toNat)
  case atStart => exact ⟨0, [], Nat.zero_le _, rfl, by simp, rfl, b1, hb1⟩
  case round =>
    obtain ⟨j, tx, hj, rfl, htl, ET, HB, hb⟩ := hrel
    have hsz := hb.size
    by_cases hlt : j < L.length
    · obtain ⟨b, o, rfl, hbl, e1, e2, e3⟩ := (HL.out.below hb (Nat.le_refl _)) j hlt
      have EN : Hid (encL ((L.map enO).take (j + 1)) = tx ++ encE (enO L[j])) := by show _ = _; rw [takeO L j hlt, ET.out]
      have K1 := HK.out j hlt
      obtain ⟨x, hx⟩ : ∃ x, L[j] = x := ⟨_, rfl⟩
      rw [hx] at e1 e2 e3 EN K1
      clear hx
      obtain ⟨l12, l3, l8⟩ := encO_len x K1
      have K1' : Hid (okE (enO x) = true) := K1
      clear K1
      have hbb := bld_lt HB.out
      have ba := bld_below HB.out ((Below.refl _ wr).alloc (Nat.le_refl _) (.cells #[.string x.nm, .bool x.sh, .int .i64 x.id] 34))
      have qa : (wr.alloc (.cells #[.string x.nm, .bool x.sh, .int .i64 x.id] 34)).heap[wr.heap.size]? = some (.cells #[.string x.nm, .bool x.sh, .int .i64 x.id] 34 (0, 0)) := by
        show (wr.heap.push _)[wr.heap.size]? = _
        simp
      have za : (wr.alloc (.cells #[.string x.nm, .bool x.sh, .int .i64 x.id] 34)).heap.size = wr.heap.size + 1 := by simp
      have Ba := hb.alloc (by omega) (.cells #[.string x.nm, .bool x.sh, .int .i64 x.id] 34)
      have t1 : True := trivial
      have HV0 : x.sh = false → Hid ((Lib.byteCells (83 :: tx) ++ Lib.strCells x.nm) ++ [Value.int .u8 61] ++ Lib.strCells (idHexB x.id) = Lib.byteCells (83 :: (tx ++ encE (enO x)))) := fun hs => bytes_mk tx x 61 (by rw [hs]; rfl)
      have HV1 : x.sh = true → Hid ((Lib.byteCells (83 :: tx) ++ Lib.strCells x.nm) ++ [Value.int .u8 47] ++ Lib.strCells (idHexB x.id) = Lib.byteCells (83 :: (tx ++ encE (enO x)))) := fun hs => bytes_mk tx x 47 (by rw [hs]; rfl)
      cases hsh : x.sh
      · have HV := HV0 hsh
        clear HV0 HV1
        rw [hsh] at ba qa za Ba e2
        go_wp2_with (first
          | (go_at_call 81; have _t := t1; refine (wstr_any w.heap.size (w.heap.size + 1) _ x.nm _ ba (by rw [Lib.byteCells_length]; simp; omega) (by omega)).mono ?_; rintro e w2 ⟨rfl, b2, hb2, kp2⟩; clear _t t1; have q2 := kp2 wr.heap.size _ _ _ (by omega) (by decide) qa; have d1 : w2.cell? ⟨wr.heap.size, 1, none⟩ = some (.bool false) := (by rw [Lib.cell_of_heap q2]; rfl); have B2 := Ba.trans hb2)
          | (go_at_call 82; refine (wbyte_any w.heap.size (w.heap.size + 1) _ 61 _ b2 (by rw [List.length_append, Lib.byteCells_length, Lib.strCells_length]; simp; omega) B2.size).mono ?_; rintro e w3 ⟨rfl, b3, hb3, kp3⟩; have q3 := kp3 wr.heap.size _ _ _ (by omega) (by decide) q2; have d2 : w3.cell? ⟨wr.heap.size, 2, none⟩ = some (.int .i64 x.id) := (by rw [Lib.cell_of_heap q3]; rfl); have B3 := B2.trans hb3)
          | (go_at_call 83; refine (hex_impl x.id _).mono ?_; rintro e w4 ⟨rfl, hb4⟩; have b4 := bld_below b3 hb4; have B4 := B3.trans (hb4.mono B3.size))
          | (go_at_call 81; refine (wstr_any w.heap.size (w.heap.size + 1) _ (idHexB x.id) _ b4 (by rw [List.length_append, List.length_append, Lib.byteCells_length, Lib.strCells_length]; simp; omega) B4.size).mono ?_; rintro e w5 ⟨rfl, b5, hb5, kp5⟩; have B5 := B4.trans hb5))
        go_roundw
        case rel => exact ⟨j + 1, tx ++ encE (enO x), by omega, by go_num, by rw [List.length_append]; omega, EN.out.symm, by rw [HV.out] at b5; exact b5, B5⟩
        case measure => simp [intOf]; omega
      · have HV := HV1 hsh
        clear HV0 HV1
        rw [hsh] at ba qa za Ba e2
        go_wp2_with (first
          | (go_at_call 81; have _t := t1; refine (wstr_any w.heap.size (w.heap.size + 1) _ x.nm _ ba (by rw [Lib.byteCells_length]; simp; omega) (by omega)).mono ?_; rintro e w2 ⟨rfl, b2, hb2, kp2⟩; clear _t t1; have q2 := kp2 wr.heap.size _ _ _ (by omega) (by decide) qa; have d1 : w2.cell? ⟨wr.heap.size, 1, none⟩ = some (.bool true) := (by rw [Lib.cell_of_heap q2]; rfl); have B2 := Ba.trans hb2)
          | (go_at_call 82; refine (wbyte_any w.heap.size (w.heap.size + 1) _ 47 _ b2 (by rw [List.length_append, Lib.byteCells_length, Lib.strCells_length]; simp; omega) B2.size).mono ?_; rintro e w3 ⟨rfl, b3, hb3, kp3⟩; have q3 := kp3 wr.heap.size _ _ _ (by omega) (by decide) q2; have d2 : w3.cell? ⟨wr.heap.size, 2, none⟩ = some (.int .i64 x.id) := (by rw [Lib.cell_of_heap q3]; rfl); have B3 := B2.trans hb3)
          | (go_at_call 83; refine (hex_impl x.id _).mono ?_; rintro e w4 ⟨rfl, hb4⟩; have b4 := bld_below b3 hb4; have B4 := B3.trans (hb4.mono B3.size))
          | (go_at_call 81; refine (wstr_any w.heap.size (w.heap.size + 1) _ (idHexB x.id) _ b4 (by rw [List.length_append, List.length_append, Lib.byteCells_length, Lib.strCells_length]; simp; omega) B4.size).mono ?_; rintro e w5 ⟨rfl, b5, hb5, kp5⟩; have B5 := B4.trans hb5))
        go_roundw
        case rel => exact ⟨j + 1, tx ++ encE (enO x), by omega, by go_num, by rw [List.length_append]; omega, EN.out.symm, by rw [HV.out] at b5; exact b5, B5⟩
        case measure => simp [intOf]; omega
    · obtain rfl : j = L.length := by omega
      have hE : tx = encL (L.map enO) := by
        rw [ET.out]; congr 1
        exact List.take_of_length_le (by simp)
      have hs := Tryd.Builder_String_any w.heap.size (w.heap.size + 1) (83 :: tx) wr HB.out hsz
      have HE : Hid (tx = encL (L.map enO)) := hE
      clear hE
      go_wp2_with (go_at_call 84; refine hs.mono ?_; rintro e w9 ⟨rfl, hb9⟩)
      go_ret
      rw [← HE.out]
      exact ⟨rfl, hb.trans hb9⟩
theorem m_sheetOk (v : Value) (w : World) : (method 249 50 (.agg #[v]) "loop.example/chartulary/impl.ok").run Tryd.prog w = .ok (50, .agg #[v]) w := by kernel_rfl
theorem m_sheetText (v : Value) (w : World) : (method 249 50 (.agg #[v]) "loop.example/chartulary/impl.text").run Tryd.prog w = .ok (80, .agg #[v]) w := by kernel_rfl
theorem okL_parts (L : List OE) (h : okL (L.map enO) = true) : L.length ≤ 60 ∧ ∀ j (h : j < L.length), okE (enO L[j]) = true := by
  unfold okL at h
  simp only [Bool.and_eq_true, decide_eq_true_eq, List.length_map] at h
  exact ⟨h.1, fun j hj => List.all_eq_true.1 h.2.1 _ (List.mem_map.2 ⟨L[j], List.getElem_mem hj, rfl⟩)⟩

set_option maxHeartbeats 1000000 in
theorem sheet_impl (A : Option Addr) (c : Nat) (L : List OE) (w : World) (hL : RdO w.heap.size w A L) (hn : L.length ≤ 1048576) (ht : ∀ j (h : j < L.length), (L[j]).nm.size ≤ 1048576) :
    Calls Tryd.prog 8 #[.slice A L.length c] w fun ev w' => ev = .returned (.string ⟨(sheetT (L.map enO)).toArray⟩) ∧ Below w.heap.size w w' := by
  have m1 := m_sheetOk
  have m2 := m_sheetText
  have hw : Calls Tryd.prog 23 #[.iface 50 (.agg #[.slice A L.length c])] w fun ev w' => ev = .returned (.string ⟨(sheetT (L.map enO)).toArray⟩) ∧ Below w.heap.size w w' := by
    have hok := sheetOk_any A c L w hL hn ht
    cases h : okL (L.map enO)
    · rw [h] at hok
      have e : sheetT (L.map enO) = [] := by unfold sheetT; rw [h]; rfl
      rw [e]
      clear e h
      go_enter Tryd.func23, Tryd.ntmps23
      go_wp2_with (go_at_call 50; refine hok.mono ?_; rintro ev w1 ⟨rfl, hb1⟩)
      go_ret
      exact ⟨rfl, hb1⟩
    · rw [h] at hok
      have e : sheetT (L.map enO) = 83 :: encL (L.map enO) := by unfold sheetT; rw [h]; rfl
      obtain ⟨h60, hall⟩ := okL_parts L h
      rw [e]
      have HT : Hid (∀ w', RdO w'.heap.size w' A L → Calls Tryd.prog 80 #[.agg #[.slice A L.length c]] w' fun ev w'' => ev = .returned (.string ⟨(83 :: encL (L.map enO)).toArray⟩) ∧ Below w'.heap.size w' w'') := fun w' r => text_any A c L w' r h60 hall
      clear e h hall
      go_enter Tryd.func23, Tryd.ntmps23
      go_wp2_with (first
        | (go_at_call 50; refine hok.mono ?_; rintro ev w1 ⟨rfl, hb1⟩)
        | (go_at_call 80; refine (HT.out _ (hL.up hb1)).mono ?_; rintro ev w2 ⟨rfl, hb2⟩))
      go_ret
      exact ⟨rfl, hb1.trans (hb2.mono hb1.size)⟩
  go_enter Tryd.func8, Tryd.ntmps8
  go_wp2_with (go_at_call 23; refine hw.mono ?_; rintro ev w1 ⟨rfl, hb1⟩)
  go_ret
  exact ⟨rfl, hb1⟩
end Go.Proofs.YtdofjajpiackiaaDoor.W
