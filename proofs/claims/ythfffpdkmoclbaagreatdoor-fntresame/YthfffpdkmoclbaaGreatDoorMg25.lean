/-
  The walks of the program's entryOk and of (sheetObject).ok over a row of entries. At most 1048576 entries, names of at most 1048576 bytes.
  Plain mathematics of reading a sheet, entry by entry: how much fuel there is makes no difference. No condition.
  Cells that lie in a block of new memory, carried through calls. No condition.
-/
import Derived.Test.YthfffpdkmoclbaaGreatDoorMg12
import Derived.Test.YthfffpdkmoclbaaGreatDoorMg10
import Derived.Test.YthfffpdkmoclbaaGreatDoorMg07
import Derived.Below
namespace Go.Proofs.YthfffpdkmoclbaaGreatDoor.W
open Go.RowKit Go.Proofs.YthfffpdkmoclbaaGreatDoor.M

theorem size_dat (s : ByteArray) : s.data.toList.length = s.size := by rw [Array.length_toList]; rfl

set_option maxHeartbeats 400000 in
theorem entryOk_any (x : OE) (w : World) (hn : x.nm.size ≤ 1048576) :
    Calls Tryz.prog 181 #[.agg #[.string x.nm, .bool x.sh, .int .i64 x.id]] w fun ev w' => ev = .returned (.bool (okE (enO x))) ∧ Below w.heap.size w w' := by
  have hm : x.nm.size ≤ maxLen := by unfold maxLen; omega
  have e0 : okE (enO x) = (namB x.nm.data.toList && decide (1 ≤ x.id ∧ x.id ≤ 4294967295)) := rfl
  rw [e0]
  cases h1 : namB x.nm.data.toList
  · have hs : Calls Tryz.prog 57 #[.string x.nm] (w.alloc (.cells #[.string x.nm, .bool x.sh, .int .i64 x.id] 90)) fun ev w' => ev = .returned (.bool false) ∧ (w.alloc (.cells #[.string x.nm, .bool x.sh, .int .i64 x.id] 90)) = w' := by
      have := nam_impl x.nm (w.alloc (.cells #[.string x.nm, .bool x.sh, .int .i64 x.id] 90)) hm; rwa [h1] at this
    clear h1 e0
    go_enter Tryz.func181, Tryz.ntmps181
    go_wp2_with (go_at_call 57; refine hs.mono ?_; rintro e w' ⟨rfl, rfl⟩)
    go_ret
    exact ⟨rfl, (Below.refl _ _).alloc (Nat.le_refl _) _⟩
  · have hs : Calls Tryz.prog 57 #[.string x.nm] (w.alloc (.cells #[.string x.nm, .bool x.sh, .int .i64 x.id] 90)) fun ev w' => ev = .returned (.bool true) ∧ (w.alloc (.cells #[.string x.nm, .bool x.sh, .int .i64 x.id] 90)) = w' := by
      have := nam_impl x.nm (w.alloc (.cells #[.string x.nm, .bool x.sh, .int .i64 x.id] 90)) hm; rwa [h1] at this
    by_cases h2 : 1 ≤ x.id ∧ x.id ≤ 4294967295
    · have hd : decide (1 ≤ x.id ∧ x.id ≤ 4294967295) = true := decide_eq_true h2
      rw [hd]
      clear h1 e0 hd
      go_enter Tryz.func181, Tryz.ntmps181
      go_wp2_with (first | (go_at_call 57; refine hs.mono ?_; rintro e w' ⟨rfl, rfl⟩) | (go_at_call 190; refine (idOk_true _ _ h2).mono ?_; rintro e w' ⟨rfl, rfl⟩))
      go_ret
      exact ⟨rfl, (Below.refl _ _).alloc (Nat.le_refl _) _⟩
    · have hd : decide (1 ≤ x.id ∧ x.id ≤ 4294967295) = false := decide_eq_false h2
      rw [hd]
      clear h1 e0 hd
      go_enter Tryz.func181, Tryz.ntmps181
      go_wp2_with (first | (go_at_call 57; refine hs.mono ?_; rintro e w' ⟨rfl, rfl⟩) | (go_at_call 190; refine (idOk_false _ _ h2).mono ?_; rintro e w' ⟨rfl, rfl⟩))
      go_ret
      exact ⟨rfl, (Below.refl _ _).alloc (Nat.le_refl _) _⟩

theorem okL_bad1 (L : List OE) (j : Nat) (h : j < L.length) (hb : okE (enO L[j]) = false) : okL (L.map enO) = false := by
  have : (L.map enO).all okE = false := by
    rw [List.all_eq_false]; exact ⟨enO L[j], List.mem_map.2 ⟨L[j], List.getElem_mem h, rfl⟩, by simp [hb]⟩
  unfold okL; rw [this]; simp
theorem okL_bad2 (L : List OE) (i : Nat) (h : i + 1 < L.length) (hb : Op.bytesLess (L[i]).nm.data.toList (L[i + 1]).nm.data.toList = false) : okL (L.map enO) = false := by
  unfold okL
  cases hr : riseB (L.map enO)
  · simp
  · have := rise_at (L.map enO) hr i (by simpa using h)
    rw [mapO_get L i (by omega), mapO_get L (i + 1) h] at this
    have h2 : Op.bytesLess (L[i]).nm.data.toList (L[i + 1]).nm.data.toList = true := this
    rw [hb] at h2; cases h2
theorem okL_good (L : List OE) (hl : L.length ≤ 60) (h1 : ∀ j (h : j < L.length), okE (enO L[j]) = true) (h2 : ∀ j (h : j + 1 < L.length), Op.bytesLess (L[j]).nm.data.toList (L[j + 1]).nm.data.toList = true) : okL (L.map enO) = true := by
  have e1 : (L.map enO).all okE = true := by
    rw [List.all_eq_true]; intro e he
    obtain ⟨x, hx, rfl⟩ := List.mem_map.1 he
    obtain ⟨k, hk, rfl⟩ := List.mem_iff_getElem.1 hx
    exact h1 k hk
  have e2 : riseB (L.map enO) = true := rise_of _ (fun k h => by
    have h' : k + 1 < L.length := by simpa using h
    rw [mapO_get L k (by omega), mapO_get L (k + 1) h']; exact h2 k h')
  unfold okL; rw [e1, e2]; simp [hl]
theorem bl_nilO (q : List UInt8) : Op.bytesLess [] q = !(decide (q = [])) := by cases q <;> rfl

set_option maxHeartbeats 1000000 in
theorem sheetOk_any (A : Option Addr) (c : Nat) (L : List OE) (w : World) (hL : RdO w.heap.size w A L) (hn : L.length ≤ 1048576) (ht : ∀ j (h : j < L.length), (L[j]).nm.size ≤ 1048576) :
    Calls Tryz.prog 160 #[.agg #[.slice A L.length c]] w fun ev w' => ev = .returned (.bool (okL (L.map enO))) ∧ Below w.heap.size w w' := by
  have HL : Hid (RdO w.heap.size w A L) := hL
  have HT : Hid (∀ j (h : j < L.length), (L[j]).nm.size ≤ 1048576) := ht
  clear hL ht
  have hB0 : Below w.heap.size w (w.alloc (.cells #[.slice A L.length c] 128)) := (Below.refl _ _).alloc (Nat.le_refl _) _
  by_cases h60 : 60 < L.length
  · have HK : Hid (okL (L.map enO) = false) := by
      show _ = _
      unfold okL
      rw [decide_eq_false (by simp; omega)]; rfl
    go_enter Tryz.func160, Tryz.ntmps160
    go_wp2
    go_ret
    exact ⟨ret_bool HK.out.symm, hB0⟩
  go_enter Tryz.func160, Tryz.ntmps160
  go_wp2
  go_loopw [3, 13] (fun sv iv wr => ∃ (j : Nat) (p : ByteArray), j ≤ L.length ∧ iv = .int .i64 j ∧ sv = .string p ∧ Hid (∀ (h0 : 0 < j) (h : j - 1 < L.length), p = (L[j - 1]).nm) ∧ Hid (j = 0 → p.data.toList = []) ∧ Hid (∀ k (h : k < L.length), k < j → okE (enO L[k]) = true) ∧ Hid (∀ k (h : k + 1 < L.length), k + 1 < j → Op.bytesLess (L[k]).nm.data.toList (L[k + 1]).nm.data.toList = true) ∧ Below w.heap.size w wr) (fun _ i _ => L.length - (intOf i).toNat)
  case atStart => exact ⟨0, _, Nat.zero_le _, rfl, rfl, fun h0 => absurd h0 (by omega), fun _ => rfl, fun k h h' => absurd h' (by omega), fun k h h' => absurd h' (by omega), hB0⟩
  case round =>
    obtain ⟨j, p, hj, rfl, rfl, P1, P0, HO, HI, hb⟩ := hrel
    have hsz := hb.size
    by_cases hlt : j < L.length
    · obtain ⟨b, o, rfl, hbl, c1, c2, c3⟩ := (HL.out.below hb (Nat.le_refl _)) j hlt
      have hpx := HT.out j hlt
      obtain ⟨x, hx⟩ : ∃ x, L[j] = x := ⟨_, rfl⟩
      rw [hx] at c1 c2 c3 hpx
      have HX : Hid (L[j] = x) := hx
      have hq := fun w' => entryOk_any x w' hpx
      clear hx
      have htri := blTri x.nm.toList p.toList
      cases k1 : okE (enO x)
      · have HB : Hid (okL (L.map enO) = false) := okL_bad1 L j hlt (by rw [HX.out]; exact k1)
        rw [k1] at hq
        clear k1
        go_wp2_with (go_at_call 181; refine (hq _).mono ?_; rintro e w1 ⟨rfl, hb1⟩; have d1 : w1.cell? ⟨wr.heap.size, 0, none⟩ = some (.string x.nm) := (hb1.cell (p := ⟨wr.heap.size, _, none⟩) (by simp)).trans (by simp); replace hb1 := (hb.alloc (by omega) (.cells #[.string x.nm, .bool x.sh, .int .i64 x.id] 90)).trans (hb1.mono (by simp; omega)))
        go_ret
        exact ⟨ret_bool HB.out.symm, hb1⟩
      rw [k1] at hq
      have K1 : Hid (okE (enO x) = true) := k1
      have hxn : x.nm.data.toList ≠ [] := by
        have := (okE_parts (enO x) k1).1
        intro e
        have h2 : namB x.nm.data.toList = true := this
        rw [e] at h2; simp [namB] at h2
      clear k1
      cases k5 : Op.bytesLess p.toList x.nm.toList
      · have HB : Hid (okL (L.map enO) = false) := by
          rw [ByteArray.toList_eq, ByteArray.toList_eq] at k5
          by_cases j0 : j = 0
          · rw [P0.out j0, bl_nilO] at k5
            exact absurd (by simpa using k5) hxn
          · obtain ⟨i, rfl⟩ : ∃ i, j = i + 1 := ⟨j - 1, by omega⟩
            refine okL_bad2 L i hlt ?_
            rw [HX.out]
            have e := P1.out (by omega) (by omega)
            simp only [Nat.add_sub_cancel] at e
            rw [← e]; exact k5
        rw [k5] at htri
        clear k5
        go_wp2_with (go_at_call 181; refine (hq _).mono ?_; rintro e w1 ⟨rfl, hb1⟩; have d1 : w1.cell? ⟨wr.heap.size, 0, none⟩ = some (.string x.nm) := (hb1.cell (p := ⟨wr.heap.size, _, none⟩) (by simp)).trans (by simp); replace hb1 := (hb.alloc (by omega) (.cells #[.string x.nm, .bool x.sh, .int .i64 x.id] 90)).trans (hb1.mono (by simp; omega)))
        go_ret
        exact ⟨ret_bool HB.out.symm, hb1⟩
      · have HNI : Hid (∀ k (h : k + 1 < L.length), k + 1 < j + 1 → Op.bytesLess (L[k]).nm.data.toList (L[k + 1]).nm.data.toList = true) := fun k h hk => by
          by_cases hki : k + 1 < j
          · exact HI.out k h hki
          · obtain rfl : j = k + 1 := by omega
            rw [HX.out]
            have e := P1.out (by omega) (by omega)
            simp only [Nat.add_sub_cancel] at e
            rw [ByteArray.toList_eq, ByteArray.toList_eq] at k5
            rw [← e]; exact k5
        have HNO : Hid (∀ k (h : k < L.length), k < j + 1 → okE (enO L[k]) = true) := fun k h hk => by
          by_cases hkj : k < j
          · exact HO.out k h hkj
          · obtain rfl : k = j := by omega
            rw [HX.out]; exact K1.out
        have HP : Hid (∀ (h0 : 0 < j + 1) (h : j + 1 - 1 < L.length), x.nm = (L[j + 1 - 1]).nm) := fun h0 h => by
          simp only [Nat.add_sub_cancel]; rw [HX.out]
        rw [k5] at htri
        have K5 : Hid (Op.bytesLess p.toList x.nm.toList = true) := k5
        clear k5 hxn
        go_wp2_with (go_at_call 181; refine (hq _).mono ?_; rintro e w1 ⟨rfl, hb1⟩; have d1 : w1.cell? ⟨wr.heap.size, 0, none⟩ = some (.string x.nm) := (hb1.cell (p := ⟨wr.heap.size, _, none⟩) (by simp)).trans (by simp); replace hb1 := (hb.alloc (by omega) (.cells #[.string x.nm, .bool x.sh, .int .i64 x.id] 90)).trans (hb1.mono (by simp; omega)))
        go_roundw
        case rel => exact ⟨j + 1, x.nm, by omega, by go_num, rfl, HP, fun h => absurd h (by omega), HNO, HNI, hb1⟩
        case measure => simp [intOf]; omega
    · have HB : Hid (okL (L.map enO) = true) := okL_good L (by omega) (fun k h => HO.out k h (by omega)) (fun k h => HI.out k h (by omega))
      go_wp2
      go_ret
      exact ⟨ret_bool HB.out.symm, hb⟩
end Go.Proofs.YthfffpdkmoclbaaGreatDoor.W
namespace Go.Proofs.YthfffpdkmoclbaaGreatDoor.M
open Go.RowKit

/-- all entries of a text -/
def parse (l : List UInt8) : Option (List En) := parseF (l.length + 1) l
theorem parse_fuel : ∀ (n f : Nat) (l : List UInt8), l.length ≤ n → l.length < f → parseF f l = parseF (l.length + 1) l
  | _, 0, _, _, h => by omega
  | n, f + 1, [], _, _ => by simp [parseF]
  | 0, f + 1, c :: l, h, _ => by simp at h
  | n + 1, f + 1, c :: l, hn, hf => by
    show (match cutL (c :: l) with | none => none | some (e, r) => (parseF f r).map (e :: ·)) = (match cutL (c :: l) with | none => none | some (e, r) => (parseF (c :: l).length r).map (e :: ·))
    cases hc : cutL (c :: l) with
    | none => rfl
    | some x =>
      obtain ⟨e, r⟩ := x
      obtain ⟨_, hr⟩ := enc_cut _ _ _ hc
      simp only [List.length_cons] at hr hn hf ⊢
      rw [parse_fuel n f r (by omega) (by omega), parse_fuel n (l.length + 1) r (by omega) (by omega)]
theorem parse_nil : parse [] = some [] := rfl
theorem parse_bad (l : List UInt8) (hl : l ≠ []) (h : cutL l = none) : parse l = none := by
  cases l with
  | nil => exact absurd rfl hl
  | cons c l => show (match cutL (c :: l) with | none => none | some (e, r) => (parseF (c :: l).length r).map (e :: ·)) = none; rw [h]
theorem parse_cut (l : List UInt8) (hl : l ≠ []) (e : En) (r : List UInt8) (h : cutL l = some (e, r)) : parse l = (parse r).map (e :: ·) := by
  cases l with
  | nil => exact absurd rfl hl
  | cons c l =>
    obtain ⟨_, hr⟩ := enc_cut _ _ _ h
    show (match cutL (c :: l) with | none => none | some (e, r) => (parseF (c :: l).length r).map (e :: ·)) = _
    rw [h]
    simp only
    rw [parse_fuel _ (c :: l).length r (Nat.le_refl _) hr]; rfl
theorem cut_len (l : List UInt8) (e : En) (r : List UInt8) (h : cutL l = some (e, r)) : r.length + 9 ≤ l.length ∧ e.nm.length ≤ l.length := by
  unfold cutL at h
  split at h
  · cases h
  · rename_i hlen
    split at h
    · cases h
    · rename_i c t hd
      split at h
      · split at h
        · simp only [Option.some.injEq, Prod.mk.injEq] at h
          obtain ⟨rfl, rfl⟩ := h
          have hl : t.length + 1 = l.length - letN l := by
            have := congrArg List.length hd
            simp at this; omega
          simp
          omega
        · cases h
      · cases h
theorem sheetI_parse (l : List UInt8) : sheetI l = match parse l with
    | some es => if okL es then some es else none
    | none => none := by
  unfold sheetI parse
  cases parseF (l.length + 1) l <;> rfl
end Go.Proofs.YthfffpdkmoclbaaGreatDoor.M
namespace Go.Proofs.YthfffpdkmoclbaaGreatDoor.W
open Go.RowKit
/-- cells lie in a block that may be written -/
def AtC (w : World) (b : Nat) (cs : Array Value) : Prop := (∀ i u, cs[i]? = some u → w.cell? ⟨b, i, none⟩ = some u) ∧ ∀ i, w.frozen? ⟨b, i, none⟩ = false
theorem atC_new (w : World) (cs : Array Value) (t : TypeId) : AtC (w.alloc (.cells cs t)) w.heap.size cs := ⟨fun i u h => by simpa using h, fun i => by simp⟩
theorem AtC.up {w w' : World} {b : Nat} {cs : Array Value} (h : AtC w b cs) (hb : Below w.heap.size w w') (hl : b < w.heap.size) : AtC w' b cs := ⟨fun i u e => (hb.cell (p := ⟨b, _, none⟩) hl).trans (h.1 i u e), fun i => (hb.frozen (p := ⟨b, _, none⟩) hl).trans (h.2 i)⟩
theorem AtC.alloc {w : World} {b : Nat} {cs : Array Value} (h : AtC w b cs) (hl : b < w.heap.size) (o : Obj) : AtC (w.alloc o) b cs := h.up ((Below.refl _ _).alloc (Nat.le_refl _) o) hl
theorem AtC.set {w : World} {b b' i : Nat} {cs : Array Value} {u : Value} (h : AtC w b cs) (hne : b' ≠ b) : AtC (w.setCell ⟨b', i, none⟩ u) b cs := by
  have e : (w.setCell ⟨b', i, none⟩ u).heap[b]? = w.heap[b]? := Below.heap_setCell _ _ _ _ (fun e => hne e.symm)
  exact ⟨fun j u hj => (World.cell?_of_block (w := w) (a := ⟨b, j, none⟩) e).trans (h.1 j u hj), fun j => (World.frozen?_of_block (w := w) (a := ⟨b, j, none⟩) e).trans (h.2 j)⟩
theorem AtC.own {w : World} {b : Nat} {cs : Array Value} (h : AtC w b cs) (i : Nat) (u : Value) : AtC (w.setCell ⟨b, i, none⟩ u) b (cs.setIfInBounds i u) := by
  constructor
  · intro j v hj
    rw [Array.getElem?_setIfInBounds] at hj
    split at hj
    · next e =>
      subst e
      split at hj
      · next hl =>
        cases hj
        exact World.cell?_setCell_same _ _ _ (h.1 i _ (Array.getElem?_eq_getElem hl))
      · cases hj
    · next e =>
      exact (World.cell?_setCell_other _ _ _ _ (fun q => e (by cases q; rfl))).trans (h.1 j v hj)
  · intro j
    simpa using h.2 j
end Go.Proofs.YthfffpdkmoclbaaGreatDoor.W
