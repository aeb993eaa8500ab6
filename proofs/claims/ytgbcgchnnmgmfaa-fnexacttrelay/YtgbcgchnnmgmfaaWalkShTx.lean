/-
  The walks of the program's entryOk and of (sheetObject).ok over a row of entries. At most 1048576 entries, names of at most 1048576 bytes.
  The walks of strings.Builder's copyCheck, WriteString and WriteByte in this program. A builder whose text stays below 1000000 bytes.
  The walks of the program's (sheetObject).text, of writeObject at a sheet, and of ObjSheet. At most 1048576 entries, names of at most 1048576 bytes.
-/
import Derived.Test.YtgbcgchnnmgmfaaWalkSheet
import Derived.Test.YtgbcgchnnmgmfaaBase
import Derived.Lib.Builder
import Derived.Lib.AppendStr
import Derived.Shelf.Strings.Builder1
import Derived.Below
import Derived.OwnWalk
import Derived.Test.YtgbcgchnnmgmfaaMathNew
import Derived.Test.YtgbcgchnnmgmfaaShelf
namespace Go.Proofs.Ytgbcgchnnmgmfaa.W
open Go.RowKit Go.Proofs.Ytgbcgchnnmgmfaa.M

theorem size_dat (s : ByteArray) : s.data.toList.length = s.size := by rw [Array.length_toList]; rfl

set_option maxHeartbeats 400000 in
theorem entryOk_any (x : OE) (w : World) (hn : x.nm.size ≤ 1048576) :
    Calls Try.prog 84 #[.agg #[.string x.nm, .bool x.sh, .int .i64 x.id]] w fun ev w' => ev = .returned (.bool (okE (enO x))) ∧ Below w.heap.size w w' := by
  have hm : x.nm.size ≤ maxLen := by unfold maxLen; omega
  have e0 : okE (enO x) = (namB x.nm.data.toList && decide (1 ≤ x.id ∧ x.id ≤ 4294967295)) := rfl
  rw [e0]
  cases h1 : namB x.nm.data.toList
  · have hs : Calls Try.prog 51 #[.string x.nm] (w.alloc (.cells #[.string x.nm, .bool x.sh, .int .i64 x.id] 55)) fun ev w' => ev = .returned (.bool false) ∧ (w.alloc (.cells #[.string x.nm, .bool x.sh, .int .i64 x.id] 55)) = w' := by
      have := nam_impl x.nm (w.alloc (.cells #[.string x.nm, .bool x.sh, .int .i64 x.id] 55)) hm; rwa [h1] at this
    clear h1 e0
    go_enter Try.func84, Try.ntmps84
    go_wp2_with (go_at_call 51; refine hs.mono ?_; rintro e w' ⟨rfl, rfl⟩)
    go_ret
    exact ⟨rfl, (Below.refl _ _).alloc (Nat.le_refl _) _⟩
  · have hs : Calls Try.prog 51 #[.string x.nm] (w.alloc (.cells #[.string x.nm, .bool x.sh, .int .i64 x.id] 55)) fun ev w' => ev = .returned (.bool true) ∧ (w.alloc (.cells #[.string x.nm, .bool x.sh, .int .i64 x.id] 55)) = w' := by
      have := nam_impl x.nm (w.alloc (.cells #[.string x.nm, .bool x.sh, .int .i64 x.id] 55)) hm; rwa [h1] at this
    by_cases h2 : 1 ≤ x.id ∧ x.id ≤ 4294967295
    · have hd : decide (1 ≤ x.id ∧ x.id ≤ 4294967295) = true := decide_eq_true h2
      rw [hd]
      clear h1 e0 hd
      go_enter Try.func84, Try.ntmps84
      go_wp2_with (first | (go_at_call 51; refine hs.mono ?_; rintro e w' ⟨rfl, rfl⟩) | (go_at_call 89; refine (idOk_true _ _ h2).mono ?_; rintro e w' ⟨rfl, rfl⟩))
      go_ret
      exact ⟨rfl, (Below.refl _ _).alloc (Nat.le_refl _) _⟩
    · have hd : decide (1 ≤ x.id ∧ x.id ≤ 4294967295) = false := decide_eq_false h2
      rw [hd]
      clear h1 e0 hd
      go_enter Try.func84, Try.ntmps84
      go_wp2_with (first | (go_at_call 51; refine hs.mono ?_; rintro e w' ⟨rfl, rfl⟩) | (go_at_call 89; refine (idOk_false _ _ h2).mono ?_; rintro e w' ⟨rfl, rfl⟩))
      go_ret
      exact ⟨rfl, (Below.refl _ _).alloc (Nat.le_refl _) _⟩

theorem okL_bad1 (L : List OE) (j : Nat) (h : j < L.length) (hb : okE (enO L[j]) = false) : okL (L.map enO) = false := by
  have : (L.map enO).all okE = false := by
    rw [List.all_eq_false]; exact ⟨enO L[j], List.mem_map.2 ⟨L[j], List.getElem_mem h, rfl⟩, by simp [hb]⟩
  unfold okL; rw [this]; simp
theorem okL_bad2 (L : List OE) (i : Nat) (h : i + 1 < L.length) (hb : Op.bytesLess (L[i]).nm.data.toList (L[i + 1]).nm.data.toList = false) : okL (L.map enO) = false := by
  unfold okL
  cases hr : riseB (L.map enO)
  · simp
  · have := rise_at (L.map enO) hr i (by simpa using h)
    rw [mapO_get L i (by omega), mapO_get L (i + 1) h] at this
    have h2 : Op.bytesLess (L[i]).nm.data.toList (L[i + 1]).nm.data.toList = true := this
    rw [hb] at h2; cases h2
theorem okL_good (L : List OE) (hl : L.length ≤ 60) (h1 : ∀ j (h : j < L.length), okE (enO L[j]) = true) (h2 : ∀ j (h : j + 1 < L.length), Op.bytesLess (L[j]).nm.data.toList (L[j + 1]).nm.data.toList = true) : okL (L.map enO) = true := by
  have e1 : (L.map enO).all okE = true := by
    rw [List.all_eq_true]; intro e he
    obtain ⟨x, hx, rfl⟩ := List.mem_map.1 he
    obtain ⟨k, hk, rfl⟩ := List.mem_iff_getElem.1 hx
    exact h1 k hk
  have e2 : riseB (L.map enO) = true := rise_of _ (fun k h => by
    have h' : k + 1 < L.length := by simpa using h
    rw [mapO_get L k (by omega), mapO_get L (k + 1) h']; exact h2 k h')
  unfold okL; rw [e1, e2]; simp [hl]
theorem bl_nilO (q : List UInt8) : Op.bytesLess [] q = !(decide (q = [])) := by cases q <;> rfl

set_option maxHeartbeats 1000000 in
theorem sheetOk_any (A : Option Addr) (c : Nat) (L : List OE) (w : World) (hL : RdO w.heap.size w A L) (hn : L.length ≤ 1048576) (ht : ∀ j (h : j < L.length), (L[j]).nm.size ≤ 1048576) :
    Calls Try.prog 82 #[.agg #[.slice A L.length c]] w fun ev w' => ev = .returned (.bool (okL (L.map enO))) ∧ Below w.heap.size w w' := by
  have HL : Hid (RdO w.heap.size w A L) := hL
  have HT : Hid (∀ j (h : j < L.length), (L[j]).nm.size ≤ 1048576) := ht
  clear hL ht
  have hB0 : Below w.heap.size w (w.alloc (.cells #[.slice A L.length c] 68)) := (Below.refl _ _).alloc (Nat.le_refl _) _
  by_cases h60 : 60 < L.length
  · have HK : Hid (okL (L.map enO) = false) := by
      show _ = _
      unfold okL
      rw [decide_eq_false (by simp; omega)]; rfl
    go_enter Try.func82, Try.ntmps82
    go_wp2
    go_ret
    exact ⟨ret_bool HK.out.symm, hB0⟩
  go_enter Try.func82, Try.ntmps82
  go_wp2
  go_loopw [3, 13] (fun sv iv wr => ∃ (j : Nat) (p : ByteArray), j ≤ L.length ∧ iv = .int .i64 j ∧ sv = .string p ∧ Hid (∀ (h0 : 0 < j) (h : j - 1 < L.length), p = (L[j - 1]).nm) ∧ Hid (j = 0 → p.data.toList = []) ∧ Hid (∀ k (h : k < L.length), k < j → okE (enO L[k]) = true) ∧ Hid (∀ k (h : k + 1 < L.length), k + 1 < j → Op.bytesLess (L[k]).nm.data.toList (L[k + 1]).nm.data.toList = true) ∧ Below w.heap.size w wr) (fun _ i _ => L.length - (intOf i).toNat)
  case atStart => exact ⟨0, _, Nat.zero_le _, rfl, rfl, fun h0 => absurd h0 (by omega), fun _ => rfl, fun k h h' => absurd h' (by omega), fun k h h' => absurd h' (by omega), hB0⟩
  case round =>
    obtain ⟨j, p, hj, rfl, rfl, P1, P0, HO, HI, hb⟩ := hrel
    have hsz := hb.size
    by_cases hlt : j < L.length
    · obtain ⟨b, o, rfl, hbl, c1, c2, c3⟩ := (HL.out.below hb (Nat.le_refl _)) j hlt
      have hpx := HT.out j hlt
      obtain ⟨x, hx⟩ : ∃ x, L[j] = x := ⟨_, rfl⟩
      rw [hx] at c1 c2 c3 hpx
      have HX : Hid (L[j] = x) := hx
      have hq := fun w' => entryOk_any x w' hpx
      clear hx
      have htri := blTri x.nm.toList p.toList
      cases k1 : okE (enO x)
      · have HB : Hid (okL (L.map enO) = false) := okL_bad1 L j hlt (by rw [HX.out]; exact k1)
        rw [k1] at hq
        clear k1
        go_wp2_with (go_at_call 84; refine (hq _).mono ?_; rintro e w1 ⟨rfl, hb1⟩; have d1 : w1.cell? ⟨wr.heap.size, 0, none⟩ = some (.string x.nm) := (hb1.cell (p := ⟨wr.heap.size, _, none⟩) (by simp)).trans (by simp); replace hb1 := (hb.alloc (by omega) (.cells #[.string x.nm, .bool x.sh, .int .i64 x.id] 55)).trans (hb1.mono (by simp; omega)))
        go_ret
        exact ⟨ret_bool HB.out.symm, hb1⟩
      rw [k1] at hq
      have K1 : Hid (okE (enO x) = true) := k1
      have hxn : x.nm.data.toList ≠ [] := by
        have := (okE_parts (enO x) k1).1
        intro e
        have h2 : namB x.nm.data.toList = true := this
        rw [e] at h2; simp [namB] at h2
      clear k1
      cases k5 : Op.bytesLess p.toList x.nm.toList
      · have HB : Hid (okL (L.map enO) = false) := by
          rw [ByteArray.toList_eq, ByteArray.toList_eq] at k5
          by_cases j0 : j = 0
          · rw [P0.out j0, bl_nilO] at k5
            exact absurd (by simpa using k5) hxn
          · obtain ⟨i, rfl⟩ : ∃ i, j = i + 1 := ⟨j - 1, by omega⟩
            refine okL_bad2 L i hlt ?_
            rw [HX.out]
            have e := P1.out (by omega) (by omega)
            simp only [Nat.add_sub_cancel] at e
            rw [← e]; exact k5
        rw [k5] at htri
        clear k5
        go_wp2_with (go_at_call 84; refine (hq _).mono ?_; rintro e w1 ⟨rfl, hb1⟩; have d1 : w1.cell? ⟨wr.heap.size, 0, none⟩ = some (.string x.nm) := (hb1.cell (p := ⟨wr.heap.size, _, none⟩) (by simp)).trans (by simp); replace hb1 := (hb.alloc (by omega) (.cells #[.string x.nm, .bool x.sh, .int .i64 x.id] 55)).trans (hb1.mono (by simp; omega)))
        go_ret
        exact ⟨ret_bool HB.out.symm, hb1⟩
      · have HNI : Hid (∀ k (h : k + 1 < L.length), k + 1 < j + 1 → Op.bytesLess (L[k]).nm.data.toList (L[k + 1]).nm.data.toList = true) := fun k h hk => by
          by_cases hki : k + 1 < j
          · exact HI.out k h hki
          · obtain rfl : j = k + 1 := by omega
            rw [HX.out]
            have e := P1.out (by omega) (by omega)
            simp only [Nat.add_sub_cancel] at e
            rw [ByteArray.toList_eq, ByteArray.toList_eq] at k5
            rw [← e]; exact k5
        have HNO : Hid (∀ k (h : k < L.length), k < j + 1 → okE (enO L[k]) = true) := fun k h hk => by
          by_cases hkj : k < j
          · exact HO.out k h hkj
          · obtain rfl : k = j := by omega
            rw [HX.out]; exact K1.out
        have HP : Hid (∀ (h0 : 0 < j + 1) (h : j + 1 - 1 < L.length), x.nm = (L[j + 1 - 1]).nm) := fun h0 h => by
          simp only [Nat.add_sub_cancel]; rw [HX.out]
        rw [k5] at htri
        have K5 : Hid (Op.bytesLess p.toList x.nm.toList = true) := k5
        clear k5 hxn
        go_wp2_with (go_at_call 84; refine (hq _).mono ?_; rintro e w1 ⟨rfl, hb1⟩; have d1 : w1.cell? ⟨wr.heap.size, 0, none⟩ = some (.string x.nm) := (hb1.cell (p := ⟨wr.heap.size, _, none⟩) (by simp)).trans (by simp); replace hb1 := (hb.alloc (by omega) (.cells #[.string x.nm, .bool x.sh, .int .i64 x.id] 55)).trans (hb1.mono (by simp; omega)))
        go_roundw
        case rel => exact ⟨j + 1, x.nm, by omega, by go_num, rfl, HP, fun h => absurd h (by omega), HNO, HNI, hb1⟩
        case measure => simp [intOf]; omega
    · have HB : Hid (okL (L.map enO) = true) := okL_good L (by omega) (fun k h => HO.out k h (by omega)) (fun k h => HI.out k h (by omega))
      go_wp2
      go_ret
      exact ⟨ret_bool HB.out.symm, hb⟩
end Go.Proofs.Ytgbcgchnnmgmfaa.W
namespace Go.Proofs.Ytgbcgchnnmgmfaa.W
open Go.RowKit Go.Shelf

theorem sizeBld : (Try.prog.info? 106).map (fun i => i.size) = some 2 := by kernel_rfl
theorem liesBld : liesAt Try.prog Try.prog.depth 106 (2 / Try.prog.cellsOf 106) 0 106 1 = true := by kernel_rfl
theorem infoU8 : (Try.prog.info? 5).map (fun i => (i.zero, i.size, i.bytes)) = some (some (.int .u8 0), 1, 1) := by kernel_rfl

set_option maxHeartbeats 1000000 in
theorem check_used (b : Nat) (w : World) (h0 : w.cell? ⟨b, 0, none⟩ = some (.pointer (some ⟨b, 0, none⟩))) :
    Calls Try.prog 90 #[.pointer (some ⟨b, 0, none⟩)] w fun e w' => e = .returned (.tuple #[]) ∧ w = w' := by
  obtain ⟨j, hj, hjs⟩ := Option.map_eq_some_iff.1 sizeBld
  have same := Lib.run_neq_ptr_same (P := Try.prog) (w := w) ⟨b, 0, none⟩ Try.underlying104 hj
  go_enter Try.func90, Try.ntmps90
  go_wp2
  go_end0
  exact ⟨rfl, rfl⟩

set_option maxHeartbeats 1000000 in
theorem check_fresh (b : Nat) (w : World) (h0 : w.cell? ⟨b, 0, none⟩ = some (.pointer none)) (hsh : w.shape? b = some (106, 2)) (hfz : w.frozen? ⟨b, 0, none⟩ = false) :
    Calls Try.prog 90 #[.pointer (some ⟨b, 0, none⟩)] w fun e w' => e = .returned (.tuple #[]) ∧ w' = w.setCell ⟨b, 0, none⟩ (.pointer (some ⟨b, 0, none⟩)) := by
  obtain ⟨j, hj, hjs⟩ := Option.map_eq_some_iff.1 sizeBld
  have toU := Lib.run_to_unsafe (P := Try.prog) (w := w) ⟨b, 0, none⟩ Try.underlying104 (show Try.prog.underlying 114 = some .unsafePointer by kernel_rfl) hj (by rw [hjs]; decide) hsh (Nat.zero_lt_succ 1)
  have ofU := Lib.run_from_unsafe (P := Try.prog) (w := w) ⟨b, 0, none⟩ (show Try.prog.underlying 114 = some .unsafePointer by kernel_rfl) Try.underlying104 hj hsh liesBld
  have ne : (callFunc 91 #[.pointer (some ⟨b, 0, none⟩)]).run Try.prog w = .ok (.value (.pointer (some ⟨b, 0, none⟩))) w := by
    rw [run_callFunc_extern Try.func91 (by kernel_rfl) (by kernel_rfl) (by kernel_rfl) (e := Extern.AbiNoEscape.same) (by kernel_rfl), Lib.run_noEscape]; rfl
  go_enter Try.func90, Try.ntmps90
  go_wp2
  go_end0
  exact ⟨rfl, rfl⟩

/-- a builder of this program: its text so far -/
def Bld (B b : Nat) (bs : List Value) (w : World) : Prop := Lib.IsBuilder 106 5 B b bs w

/-- blocks that hold no bytes stay, but the builder's own -/
def Keeps (b : Nat) (w w' : World) : Prop := ∀ k cs T fr, k ≠ b → T ≠ 5 → w.heap[k]? = some (.cells cs T fr) → w'.heap[k]? = some (.cells cs T fr)
theorem Keeps.refl (b : Nat) (w : World) : Keeps b w w := fun _ _ _ _ _ _ h => h
theorem Keeps.trans {b : Nat} {a c d : World} (h : Keeps b a c) (k : Keeps b c d) : Keeps b a d := fun i cs T fr h1 h2 h3 => k i cs T fr h1 h2 (h i cs T fr h1 h2 h3)
theorem Keeps.set (b : Nat) (w : World) (o : Nat) (u : Value) : Keeps b w (w.setCell ⟨b, o, none⟩ u) := fun _ _ _ _ h1 _ h3 => (Below.heap_setCell _ _ _ _ h1).trans h3
theorem Keeps.alloc (b : Nat) (w : World) (x : Obj) : Keeps b w (w.alloc x) := fun _ _ _ _ _ _ h3 => (Below.heap_alloc _ _ _ (Array.getElem?_eq_some_iff.1 h3).1).trans h3
theorem Keeps.grown {b B n : Nat} {w w' : World} {v : Value} {xs : List Value} (hown : w.ownsRow B 5 1 v n xs) (hg : w.grownBy w' v.ownBlock) : Keeps b w w' := fun k _ _ _ _ h2 h3 =>
  (hg.block k (Array.getElem?_eq_some_iff.1 h3).1 (fun e => Lib.ownBlock_ne hown h3 h2 e.symm)).trans h3

theorem check_any (B b : Nat) (bs : List Value) (w : World) (h : Bld B b bs w) :
    Calls Try.prog 90 #[.pointer (some ⟨b, 0, none⟩)] w fun e w' => e = .returned (.tuple #[]) ∧ Lib.BuilderAt 106 5 B b (.pointer (some ⟨b, 0, none⟩)) bs w' ∧ Below B w w' ∧ Keeps b w w' := by
  rcases h with h | h
  · obtain ⟨hB, v, hbk, hown, hne⟩ := h
    have hlt : b < w.heap.size := (Array.getElem?_eq_some_iff.1 hbk).1
    refine (check_fresh b w (by rw [Lib.cell_of_heap hbk]; rfl) (by simp [World.shape?, hbk]) (Lib.frozen_of_heap hbk 0)).mono ?_
    rintro e w' ⟨rfl, rfl⟩
    refine ⟨rfl, ⟨hB, v, ?_, ?_, hne⟩, (Below.refl _ _).setCell (p := ⟨b, 0, none⟩) hB _, Keeps.set b w 0 _⟩
    · simp [World.setCell, Array.getElem?_modify, hbk]
    · refine hown.kept (row := some b) ⟨rfl, rfl, rfl, by simp [World.setCell], fun k _ hn => Below.heap_setCell _ _ _ _ (fun e => hn (by rw [e]))⟩ (.inr hne)
  · refine (check_used b w (by obtain ⟨_, v, hbk, _⟩ := h; rw [Lib.cell_of_heap hbk]; rfl)).mono ?_
    rintro e w' ⟨rfl, rfl⟩
    exact ⟨rfl, h, Below.refl _ _, Keeps.refl _ _⟩

theorem ownSlice {w : World} {B n : Nat} {e : TypeId} {v : Value} {xs : List Value} (h : w.ownsRow B e 1 v n xs) : ∃ ao n' cap, v = .slice ao n' cap := by
  rcases h.2 with ⟨hv, _⟩ | ⟨g, cap, cur, hv, _⟩
  · exact ⟨_, _, _, hv⟩
  · exact ⟨_, _, _, hv⟩
theorem growBld {w w' a : World} {B n : Nat} {e : TypeId} {v : Value} {xs : List Value} (hb : Below B a w) (hB : B ≤ a.heap.size) (hown : w.ownsRow B e 1 v n xs) (hg : w.grownBy w' v.ownBlock) : Below B a w' :=
  hb.grown hg (Nat.le_trans hB hb.size) (fun k hk => (hown.lt k hk).1)
theorem stored_bld {w : World} {B b : Nat} {p u v : Value} {xs : List Value} (hB : B ≤ b) (hbk : w.heap[b]? = some (.cells #[p, u] 106 (0, 0))) (hown : w.ownsRow B 5 1 v xs.length xs) :
    Lib.BuilderAt 106 5 B b p xs (w.setCell ⟨b, 1, none⟩ v) := by
  have hne : v.ownBlock ≠ some b := Lib.ownBlock_ne hown hbk (by decide)
  refine ⟨hB, v, ?_, ?_, hne⟩
  · simp [World.setCell, Array.getElem?_modify, hbk]
  · exact hown.kept (row := some b) ⟨rfl, rfl, rfl, by simp [World.setCell], fun k _ hn => Below.heap_setCell _ _ _ _ (fun e => hn (by rw [e]))⟩ (.inr hne)

set_option maxHeartbeats 1000000 in
theorem wstr_any (B b : Nat) (bs : List Value) (s : ByteArray) (w : World) (h : Bld B b bs w) (hl : bs.length + s.size ≤ 1000000) (hB : B ≤ w.heap.size) :
    Calls Try.prog 85 #[.pointer (some ⟨b, 0, none⟩), .string s] w fun e w' => e = .returned (.tuple #[.int .i64 s.size, .nilIface]) ∧ Bld B b (bs ++ Lib.strCells s) w' ∧ Below B w w' ∧ Keeps b w w' := by
  obtain ⟨i0, hi, hz0, hz1, hz2⟩ := info_parts infoU8
  go_enter Try.func85, Try.ntmps85
  go_wp2_with (first
    | (go_at_call 90; refine (check_any B b bs _ h).mono ?_; rintro e w1 ⟨rfl, ⟨hbB, v, hbk, hown, hne⟩, hb1, kp1⟩; have hz := hb1.size; have c1 : w1.cell? ⟨b, 1, none⟩ = some v := (by rw [Lib.cell_of_heap hbk]; rfl))
    | (at_builtin; refine Lib.wpList_append_own_string _ rfl _ _ 59 9 rfl B 5 i0 Try.underlying59 Try.underlying9 hi hz0 hz1 hz2 _ _ _ rfl hown s rfl (by unfold maxLen; omega) (by omega) (by omega) ?_; intro v' w2 hown' hgrow _; obtain ⟨ao, n', cap', rfl⟩ := ownSlice hown'; have hlt : b < w1.heap.size := (Array.getElem?_eq_some_iff.1 hbk).1; have hbk2 : w2.heap[b]? = some (.cells #[.pointer (some ⟨b, 0, none⟩), v] 106 (0, 0)) := (hgrow.block b (by first | exact hlt | (simp; omega)) (fun e => hne e.symm)).trans hbk; have d1 : w2.cell? ⟨b, 1, none⟩ = some v := (by rw [Lib.cell_of_heap hbk2]; rfl); have f1 := Lib.frozen_of_heap hbk2 1))
  go_ret2
  refine ⟨rfl, Or.inr (stored_bld hbB hbk2 (by rw [List.length_append, Lib.strCells_length]; exact hown')), ?_, (kp1.trans (Keeps.grown hown hgrow)).trans (Keeps.set b w2 1 _)⟩
  exact (growBld hb1 hB hown hgrow).setCell (p := ⟨b, 1, none⟩) hbB _

set_option maxHeartbeats 1000000 in
theorem wbyte_any (B b : Nat) (bs : List Value) (x : Int) (w : World) (h : Bld B b bs w) (hl : bs.length + 1 ≤ 1000000) (hB : B ≤ w.heap.size) :
    Calls Try.prog 86 #[.pointer (some ⟨b, 0, none⟩), .int .u8 x] w fun e w' => e = .returned .nilIface ∧ Bld B b (bs ++ [.int .u8 x]) w' ∧ Below B w w' ∧ Keeps b w w' := by
  obtain ⟨i0, hi, hz0, hz1, hz2⟩ := info_parts infoU8
  go_enter Try.func86, Try.ntmps86
  go_wp2_with (first
    | (go_at_call 90; refine (check_any B b bs _ h).mono ?_; rintro e w1 ⟨rfl, ⟨hbB, v, hbk, hown, hne⟩, hb1, kp1⟩; have hz := hb1.size; have c1 : w1.cell? ⟨b, 1, none⟩ = some v := (by rw [Lib.cell_of_heap hbk]; rfl))
    | (at_builtin; refine wpList_append_own _ rfl _ _ 59 rfl B 5 i0 (.int .u8 0) 1 1 Try.underlying59 hi hz0 hz1 hz2 rfl (by decide) _ _ _ rfl (hown.alloc _) ⟨w1.heap.size, 0, none⟩ 1 1 [.int .u8 x] rfl rfl (cells_new _ #[.int .u8 x] _) (fun u hu => by simp at hu; subst hu; rfl) (by unfold maxLen; omega) (by omega) (by simp; omega) ?_; intro v' w2 hown' hgrow _; obtain ⟨ao, n', cap', rfl⟩ := ownSlice hown'; have hlt : b < w1.heap.size := (Array.getElem?_eq_some_iff.1 hbk).1; have hbk2 : w2.heap[b]? = some (.cells #[.pointer (some ⟨b, 0, none⟩), v] 106 (0, 0)) := (hgrow.block b (by first | exact hlt | (simp; omega)) (fun e => hne e.symm)).trans (Below.heap_alloc _ _ _ (Array.getElem?_eq_some_iff.1 hbk).1 |>.trans hbk); have d1 : w2.cell? ⟨b, 1, none⟩ = some v := (by rw [Lib.cell_of_heap hbk2]; rfl); have f1 := Lib.frozen_of_heap hbk2 1))
  go_ret
  refine ⟨rfl, Or.inr (stored_bld hbB hbk2 (by rw [List.length_append]; exact hown')), ?_, ((kp1.trans (Keeps.alloc b w1 _)).trans (Keeps.grown (hown.alloc _) hgrow)).trans (Keeps.set b w2 1 _)⟩
  exact (growBld (hb1.alloc (by omega) _) hB (hown.alloc _) hgrow).setCell (p := ⟨b, 1, none⟩) hbB _
end Go.Proofs.Ytgbcgchnnmgmfaa.W
namespace Go.Proofs.Ytgbcgchnnmgmfaa.W
open Go.RowKit Go.Proofs.Ytgbcgchnnmgmfaa.M

theorem bld_new (w : World) (B : Nat) (hB : B ≤ w.heap.size) : Bld B w.heap.size [] (w.alloc (.cells #[.pointer none, .slice none 0 0] 106)) := by
  refine Or.inl ⟨hB, .slice none 0 0, ?_, World.ownsRow_nil _ _ _ _, by simp [Value.ownBlock]⟩
  show (w.heap.push _)[w.heap.size]? = _
  simp
theorem bytes_mk (t : List UInt8) (x : OE) (m : UInt8) (hm : m = mrk x.sh) : (Lib.byteCells (83 :: t) ++ Lib.strCells x.nm) ++ [Value.int .u8 m.toNat] ++ Lib.strCells (idHexB x.id) = Lib.byteCells (83 :: (t ++ encE (enO x))) := by
  subst hm
  simp [Lib.strCells_eq, Lib.byteCells, encE, enO]

theorem bld_below {B b : Nat} {bs : List Value} {w w' : World} (h : Bld B b bs w) (hb : Below w.heap.size w w') : Bld B b bs w' := by
  have go : ∀ p, Lib.BuilderAt 106 5 B b p bs w → Lib.BuilderAt 106 5 B b p bs w' := fun p ⟨h1, v, h2, h3, h4⟩ =>
    ⟨h1, v, (hb.block b (Array.getElem?_eq_some_iff.1 h2).1).trans h2, ownsUnder h3 hb (Nat.le_refl _), h4⟩
  rcases h with h | h
  · exact Or.inl (go _ h)
  · exact Or.inr (go _ h)
theorem bld_lt {B b : Nat} {bs : List Value} {w : World} (h : Bld B b bs w) : b < w.heap.size := by
  rcases h with ⟨_, v, h2, _⟩ | ⟨_, v, h2, _⟩ <;> exact (Array.getElem?_eq_some_iff.1 h2).1

set_option maxHeartbeats 4000000 in
theorem text_any (A : Option Addr) (c : Nat) (L : List OE) (w : World) (hL : RdO w.heap.size w A L) (hn : L.length ≤ 60) (hok : ∀ j (h : j < L.length), okE (enO L[j]) = true) :
    Calls Try.prog 83 #[.agg #[.slice A L.length c]] w fun ev w' => ev = .returned (.string ⟨(83 :: encL (L.map enO)).toArray⟩) ∧ Below w.heap.size w w' := by
  have HL : Hid (RdO w.heap.size w A L) := hL
  have HK : Hid (∀ j (h : j < L.length), okE (enO L[j]) = true) := hok
  clear hL hok
  have b0 := bld_new (w.alloc (.cells #[.slice A L.length c] 68)) w.heap.size (by simp)
  have z0 : (w.alloc (.cells #[.slice A L.length c] 68)).heap.size = w.heap.size + 1 := by simp
  rw [z0] at b0
  have B0 : Below w.heap.size w ((w.alloc (.cells #[.slice A L.length c] 68)).alloc (.cells #[.pointer none, .slice none 0 0] 106)) := ((Below.refl _ _).alloc (Nat.le_refl _) _).alloc (by simp) _
  have q0 : ((w.alloc (.cells #[.slice A L.length c] 68)).alloc (.cells #[.pointer none, .slice none 0 0] 106)).heap[w.heap.size]? = some (.cells #[.slice A L.length c] 68 (0, 0)) := by
    rw [Below.heap_alloc _ _ _ (by simp)]
    show (w.heap.push _)[w.heap.size]? = _
    simp
  go_enter Try.func83, Try.ntmps83
  go_wp2_with (go_at_call 85; refine (wstr_any w.heap.size (w.heap.size + 1) [] ⟨#[83]⟩ _ b0 (by decide) (by simp; omega)).mono ?_; rintro e w1 ⟨rfl, b1, hb1, kp1⟩; have q1 := kp1 w.heap.size _ _ _ (by omega) (by decide) q0; have c1 : w1.cell? ⟨w.heap.size, 0, none⟩ = some (.slice A L.length c) := (by rw [Lib.cell_of_heap q1]; rfl); replace hb1 := B0.trans hb1; clear B0 b0 q0 kp1)
  go_loopw [10] (fun iv wr => ∃ (j : Nat) (tx : List UInt8), j ≤ L.length ∧ iv = .int .i64 j ∧ tx.length ≤ 12 * j ∧ Hid (tx = encL ((L.map enO).take j)) ∧ Hid (Bld w.heap.size (w.heap.size + 1) (Lib.byteCells (83 :: tx)) wr) ∧ Below w.heap.size w wr) (fun i _ => L.length - (intOf i).toNat)
  case atStart => exact ⟨0, [], Nat.zero_le _, rfl, by simp, rfl, b1, hb1⟩
  case round =>
    obtain ⟨j, tx, hj, rfl, htl, ET, HB, hb⟩ := hrel
    have hsz := hb.size
    by_cases hlt : j < L.length
    · obtain ⟨b, o, rfl, hbl, e1, e2, e3⟩ := (HL.out.below hb (Nat.le_refl _)) j hlt
      have EN : Hid (encL ((L.map enO).take (j + 1)) = tx ++ encE (enO L[j])) := by show _ = _; rw [takeO L j hlt, ET.out]
      have K1 := HK.out j hlt
      obtain ⟨x, hx⟩ : ∃ x, L[j] = x := ⟨_, rfl⟩
      rw [hx] at e1 e2 e3 EN K1
      clear hx
      obtain ⟨l12, l3, l8⟩ := encO_len x K1
      have K1' : Hid (okE (enO x) = true) := K1
      clear K1
      have hbb := bld_lt HB.out
      have ba := bld_below HB.out ((Below.refl _ wr).alloc (Nat.le_refl _) (.cells #[.string x.nm, .bool x.sh, .int .i64 x.id] 55))
      have qa : (wr.alloc (.cells #[.string x.nm, .bool x.sh, .int .i64 x.id] 55)).heap[wr.heap.size]? = some (.cells #[.string x.nm, .bool x.sh, .int .i64 x.id] 55 (0, 0)) := by
        show (wr.heap.push _)[wr.heap.size]? = _
        simp
      have za : (wr.alloc (.cells #[.string x.nm, .bool x.sh, .int .i64 x.id] 55)).heap.size = wr.heap.size + 1 := by simp
      have Ba := hb.alloc (by omega) (.cells #[.string x.nm, .bool x.sh, .int .i64 x.id] 55)
      have t1 : True := trivial
      have HV0 : x.sh = false → Hid ((Lib.byteCells (83 :: tx) ++ Lib.strCells x.nm) ++ [Value.int .u8 61] ++ Lib.strCells (idHexB x.id) = Lib.byteCells (83 :: (tx ++ encE (enO x)))) := fun hs => bytes_mk tx x 61 (by rw [hs]; rfl)
      have HV1 : x.sh = true → Hid ((Lib.byteCells (83 :: tx) ++ Lib.strCells x.nm) ++ [Value.int .u8 47] ++ Lib.strCells (idHexB x.id) = Lib.byteCells (83 :: (tx ++ encE (enO x)))) := fun hs => bytes_mk tx x 47 (by rw [hs]; rfl)
      cases hsh : x.sh
      · have HV := HV0 hsh
        clear HV0 HV1
        rw [hsh] at ba qa za Ba e2
        go_wp2_with (first
          | (go_at_call 85; have _t := t1; refine (wstr_any w.heap.size (w.heap.size + 1) _ x.nm _ ba (by rw [Lib.byteCells_length]; simp; omega) (by omega)).mono ?_; rintro e w2 ⟨rfl, b2, hb2, kp2⟩; clear _t t1; have q2 := kp2 wr.heap.size _ _ _ (by omega) (by decide) qa; have d1 : w2.cell? ⟨wr.heap.size, 1, none⟩ = some (.bool false) := (by rw [Lib.cell_of_heap q2]; rfl); have B2 := Ba.trans hb2)
          | (go_at_call 86; refine (wbyte_any w.heap.size (w.heap.size + 1) _ 61 _ b2 (by rw [List.length_append, Lib.byteCells_length, Lib.strCells_length]; simp; omega) B2.size).mono ?_; rintro e w3 ⟨rfl, b3, hb3, kp3⟩; have q3 := kp3 wr.heap.size _ _ _ (by omega) (by decide) q2; have d2 : w3.cell? ⟨wr.heap.size, 2, none⟩ = some (.int .i64 x.id) := (by rw [Lib.cell_of_heap q3]; rfl); have B3 := B2.trans hb3)
          | (go_at_call 87; refine (hex_impl x.id _).mono ?_; rintro e w4 ⟨rfl, hb4⟩; have b4 := bld_below b3 hb4; have B4 := B3.trans (hb4.mono B3.size))
          | (go_at_call 85; refine (wstr_any w.heap.size (w.heap.size + 1) _ (idHexB x.id) _ b4 (by rw [List.length_append, List.length_append, Lib.byteCells_length, Lib.strCells_length]; simp; omega) B4.size).mono ?_; rintro e w5 ⟨rfl, b5, hb5, kp5⟩; have B5 := B4.trans hb5))
        go_roundw
        case rel => exact ⟨j + 1, tx ++ encE (enO x), by omega, by go_num, by rw [List.length_append]; omega, EN.out.symm, by rw [HV.out] at b5; exact b5, B5⟩
        case measure => simp [intOf]; omega
      · have HV := HV1 hsh
        clear HV0 HV1
        rw [hsh] at ba qa za Ba e2
        go_wp2_with (first
          | (go_at_call 85; have _t := t1; refine (wstr_any w.heap.size (w.heap.size + 1) _ x.nm _ ba (by rw [Lib.byteCells_length]; simp; omega) (by omega)).mono ?_; rintro e w2 ⟨rfl, b2, hb2, kp2⟩; clear _t t1; have q2 := kp2 wr.heap.size _ _ _ (by omega) (by decide) qa; have d1 : w2.cell? ⟨wr.heap.size, 1, none⟩ = some (.bool true) := (by rw [Lib.cell_of_heap q2]; rfl); have B2 := Ba.trans hb2)
          | (go_at_call 86; refine (wbyte_any w.heap.size (w.heap.size + 1) _ 47 _ b2 (by rw [List.length_append, Lib.byteCells_length, Lib.strCells_length]; simp; omega) B2.size).mono ?_; rintro e w3 ⟨rfl, b3, hb3, kp3⟩; have q3 := kp3 wr.heap.size _ _ _ (by omega) (by decide) q2; have d2 : w3.cell? ⟨wr.heap.size, 2, none⟩ = some (.int .i64 x.id) := (by rw [Lib.cell_of_heap q3]; rfl); have B3 := B2.trans hb3)
          | (go_at_call 87; refine (hex_impl x.id _).mono ?_; rintro e w4 ⟨rfl, hb4⟩; have b4 := bld_below b3 hb4; have B4 := B3.trans (hb4.mono B3.size))
          | (go_at_call 85; refine (wstr_any w.heap.size (w.heap.size + 1) _ (idHexB x.id) _ b4 (by rw [List.length_append, List.length_append, Lib.byteCells_length, Lib.strCells_length]; simp; omega) B4.size).mono ?_; rintro e w5 ⟨rfl, b5, hb5, kp5⟩; have B5 := B4.trans hb5))
        go_roundw
        case rel => exact ⟨j + 1, tx ++ encE (enO x), by omega, by go_num, by rw [List.length_append]; omega, EN.out.symm, by rw [HV.out] at b5; exact b5, B5⟩
        case measure => simp [intOf]; omega
    · obtain rfl : j = L.length := by omega
      have hE : tx = encL (L.map enO) := by
        rw [ET.out]; congr 1
        exact List.take_of_length_le (by simp)
      have hs := Try.Builder_String_any w.heap.size (w.heap.size + 1) (83 :: tx) wr HB.out hsz
      have HE : Hid (tx = encL (L.map enO)) := hE
      clear hE
      go_wp2_with (go_at_call 88; refine hs.mono ?_; rintro e w9 ⟨rfl, hb9⟩)
      go_ret
      rw [← HE.out]
      exact ⟨rfl, hb.trans hb9⟩
theorem m_sheetOk (v : Value) (w : World) : (method 216 68 (.agg #[v]) "loop.example/chartulary/impl.ok").run Try.prog w = .ok (82, .agg #[v]) w := by kernel_rfl
theorem m_sheetText (v : Value) (w : World) : (method 216 68 (.agg #[v]) "loop.example/chartulary/impl.text").run Try.prog w = .ok (83, .agg #[v]) w := by kernel_rfl
theorem okL_parts (L : List OE) (h : okL (L.map enO) = true) : L.length ≤ 60 ∧ ∀ j (h : j < L.length), okE (enO L[j]) = true := by
  unfold okL at h
  simp only [Bool.and_eq_true, decide_eq_true_eq, List.length_map] at h
  exact ⟨h.1, fun j hj => List.all_eq_true.1 h.2.1 _ (List.mem_map.2 ⟨L[j], List.getElem_mem hj, rfl⟩)⟩

set_option maxHeartbeats 1000000 in
theorem sheet_impl (A : Option Addr) (c : Nat) (L : List OE) (w : World) (hL : RdO w.heap.size w A L) (hn : L.length ≤ 1048576) (ht : ∀ j (h : j < L.length), (L[j]).nm.size ≤ 1048576) :
    Calls Try.prog 31 #[.slice A L.length c] w fun ev w' => ev = .returned (.string ⟨(sheetT (L.map enO)).toArray⟩) ∧ Below w.heap.size w w' := by
  have m1 := m_sheetOk
  have m2 := m_sheetText
  have hw : Calls Try.prog 44 #[.iface 68 (.agg #[.slice A L.length c])] w fun ev w' => ev = .returned (.string ⟨(sheetT (L.map enO)).toArray⟩) ∧ Below w.heap.size w w' := by
    have hok := sheetOk_any A c L w hL hn ht
    cases h : okL (L.map enO)
    · rw [h] at hok
      have e : sheetT (L.map enO) = [] := by unfold sheetT; rw [h]; rfl
      rw [e]
      clear e h
      go_enter Try.func44, Try.ntmps44
      go_wp2_with (go_at_call 82; refine hok.mono ?_; rintro ev w1 ⟨rfl, hb1⟩)
      go_ret
      exact ⟨rfl, hb1⟩
    · rw [h] at hok
      have e : sheetT (L.map enO) = 83 :: encL (L.map enO) := by unfold sheetT; rw [h]; rfl
      obtain ⟨h60, hall⟩ := okL_parts L h
      rw [e]
      have HT : Hid (∀ w', RdO w'.heap.size w' A L → Calls Try.prog 83 #[.agg #[.slice A L.length c]] w' fun ev w'' => ev = .returned (.string ⟨(83 :: encL (L.map enO)).toArray⟩) ∧ Below w'.heap.size w' w'') := fun w' r => text_any A c L w' r h60 hall
      clear e h hall
      go_enter Try.func44, Try.ntmps44
      go_wp2_with (first
        | (go_at_call 82; refine hok.mono ?_; rintro ev w1 ⟨rfl, hb1⟩)
        | (go_at_call 83; refine (HT.out _ (hL.up hb1)).mono ?_; rintro ev w2 ⟨rfl, hb2⟩))
      go_ret
      exact ⟨rfl, hb1.trans (hb2.mono hb1.size)⟩
  go_enter Try.func31, Try.ntmps31
  go_wp2_with (go_at_call 44; refine hw.mono ?_; rintro ev w1 ⟨rfl, hb1⟩)
  go_ret
  exact ⟨rfl, hb1⟩
end Go.Proofs.Ytgbcgchnnmgmfaa.W
