/-
  The walks of the exact laws' own helpers on rows of items: 'szPolItemS', 'toPolItemS', 'eqPolItemS'.
  The walks of PolGet, of the program and of the specification: both go by halves, and come to the same. At most 1048576 items.
  PolOk of the program and of the specification. Texts of at most 1048576 bytes.
-/
import Derived.Test.YthfffpdkmoclbaaGreatDoorMg29
import Derived.Test.YthfffpdkmoclbaaGreatDoorMg07
import Derived.Test.YthfffpdkmoclbaaGreatDoorMg28
import Derived.Test.YthfffpdkmoclbaaGreatDoorMg15
namespace Go.Proofs.YthfffpdkmoclbaaGreatDoor.W
open Go.RowKit

set_option maxHeartbeats 1000000 in
theorem szPS_any (A : Option Addr) (c : Nat) (L : List PI) (w : World) (hL : RdP w.heap.size w A L) (hn : L.length ≤ maxLen) (ht : ∀ j (h : j < L.length), (L[j]).tx.size ≤ maxLen) :
    Calls Tryz.prog 39 #[.slice A L.length c, .int .i64 1048576] w fun e w' => (∃ r : Int, e = .returned (.int .i64 r) ∧ (r < 0 ∨ (¬ r < 0 ∧ L.length + szP L ≤ 1048576))) ∧ Below w.heap.size w w' := by
  unfold maxLen at hn
  by_cases h0 : 1048576 < L.length
  · go_enter Tryz.func39, Tryz.ntmps39
    go_wp2
    go_ret
    exact ⟨⟨_, rfl, Or.inl (by decide)⟩, Below.refl _ _⟩
  have HT : Hid (∀ j (h : j < L.length), (L[j]).tx.size ≤ maxLen) := ht
  have HL : Hid (RdP w.heap.size w A L) := hL
  clear ht hL hn
  go_enter Tryz.func39, Tryz.ntmps39
  go_wp2
  go_loopw [1, 5] (fun lv iv wr => ∃ j s : Nat, j ≤ L.length ∧ iv = .int .i64 j ∧ lv = .int .i64 ((1048576 - (L.length + s) : Nat) : Int) ∧ L.length + s ≤ 1048576 ∧ Hid (s = szP (L.take j)) ∧ Below w.heap.size w wr) (fun _ i _ => L.length - (intOf i).toNat)
  case atStart => exact ⟨0, 0, Nat.zero_le _, rfl, by go_num, by omega, rfl, Below.refl _ _⟩
  case round =>
    obtain ⟨j, s, hj, rfl, rfl, hs, HS, hb⟩ := hrel
    have hsz := hb.size
    by_cases hlt : j < L.length
    · obtain ⟨b, o, rfl, hbl, c1, c2⟩ := (HL.out.below hb (Nat.le_refl _)) j hlt
      have htx := HT.out j hlt
      have est := szP_snoc L j hlt
      have ele := szP_le L (j + 1)
      generalize (L[j]).id = i at c1
      generalize L[j].tx = t at *
      have HE : Hid (szP (L.take (j + 1)) = s + t.size) := by rw [HS.out]; exact est
      have HF : Hid (szP (L.take (j + 1)) ≤ szP L) := ele
      clear est ele
      by_cases hfit : t.size ≤ 1048576 - (L.length + s)
      · go_wp2_with (go_at_call 74; refine (szPolItem_fits i t _ _ (by omega) hfit).mono ?_; rintro e w1 ⟨rfl, hb1⟩)
        go_roundw
        case rel => exact ⟨j + 1, s + t.size, by omega, by go_num, by go_num, by omega, HE.out.symm, hb.trans (hb1.mono (by omega))⟩
        case measure => simp [intOf]; omega
      · go_wp2_with (go_at_call 74; refine (szPolItem_over i t _ _ (by omega) htx (by omega)).mono ?_; rintro e w1 ⟨rfl, hb1⟩)
        go_ret
        exact ⟨⟨_, rfl, Or.inl (by decide)⟩, hb.trans (hb1.mono (by omega))⟩
    · go_wp2
      go_ret
      obtain rfl : j = L.length := by omega
      have e := HS.out
      rw [List.take_length] at e
      exact ⟨⟨_, rfl, Or.inr ⟨by omega, by omega⟩⟩, hb⟩

theorem infoP : (Tryz.prog.info? 35).map (fun i => (i.zero, i.size, i.bytes)) = some (some (.agg #[.int .i64 0, .string ByteArray.empty]), 2, 24) := by kernel_rfl

/-- a row in which the first j are laid -/
def laidP (L : List PI) (j : Nat) : List Value := cellsP (L.take j) ++ (List.replicate (L.length - j) [Value.int .i64 0, .string ByteArray.empty]).flatten
theorem laidP_zero (L : List PI) : laidP L 0 = (madeCells #[.int .i64 0, .string ByteArray.empty] (L.length * 2)).toList := by
  rw [made_flat _ _ 2 rfl (by decide)]; simp [laidP, cellsP]
theorem laidP_all (L : List PI) : laidP L L.length = cellsP L := by simp [laidP]
theorem laidP_step (L : List PI) (j : Nat) (h : j < L.length) : ((laidP L j).set (j * 2) (.int .i64 (L[j]).id)).set (j * 2 + 1) (.string (L[j]).tx) = laidP L (j + 1) := by
  unfold laidP
  have hl : (cellsP (L.take j)).length = j * 2 := by rw [cellsP_length]; simp; omega
  obtain ⟨m, hm⟩ : ∃ m, L.length - j = m + 1 := ⟨L.length - j - 1, by omega⟩
  have hm' : L.length - (j + 1) = m := by omega
  rw [hm, hm', List.replicate_succ, List.flatten_cons, List.take_succ_eq_append_getElem h, cellsP_snoc]
  rw [List.set_append_right _ _ (by omega), hl, Nat.sub_self]
  simp only [List.cons_append, List.set_cons_zero]
  rw [List.set_append_right _ _ (by omega), hl, show j * 2 + 1 - j * 2 = 1 by omega]
  simp

set_option maxHeartbeats 1000000 in
theorem toPS_any (A : Option Addr) (c : Nat) (L : List PI) (w : World) (hL : RdP w.heap.size w A L) (hn : L.length ≤ 1048576) :
    Calls Tryz.prog 40 #[.slice A L.length c] w fun e w' => (∃ v, e = .returned v ∧ w'.ownsRow w.heap.size 35 2 v L.length (cellsP L)) ∧ Below w.heap.size w w' := by
  have HL : Hid (RdP w.heap.size w A L) := hL
  clear hL
  obtain ⟨i0, hi, hz0, hz1, hz2⟩ := info_parts infoP
  go_enter Tryz.func40, Tryz.ntmps40
  go_wp2_with (at_make; refine wpList_make_full _ rfl _ _ 23 rfl w.heap.size 35 i0 (.agg #[.int .i64 0, .string ByteArray.empty]) 2 Tryz.underlying23 hi hz0 hz1 _ _ _ _ L.length rfl rfl rfl rfl (by rw [hz2]; omega) (by unfold maxLen; omega) (Nat.le_refl _) ?_)
  intro w1 hown hgr
  have hb0 : Below w.heap.size w w1 := (Below.refl _ _).grown hgr (Nat.le_refl _) (fun k h => by cases h)
  rw [← laidP_zero] at hown
  go_wp2
  go_loopw [4] (fun iv wr => ∃ j : Nat, j ≤ L.length ∧ iv = .int .i64 j ∧ wr.ownsRow w.heap.size 35 2 (.slice (some ⟨w.heap.size, 0, none⟩) L.length L.length) L.length (laidP L j) ∧ Below w.heap.size w wr) (fun i _ => L.length - (intOf i).toNat)
  case atStart => exact ⟨0, Nat.zero_le _, rfl, hown, hb0⟩
  case round =>
    obtain ⟨j, hj, rfl, hrow, hb⟩ := hrel
    have hsz := hb.size
    by_cases hlt : j < L.length
    · obtain ⟨b, o, rfl, hbl, c1, c2⟩ := (HL.out.below hb (Nat.le_refl _)) j hlt
      have est := laidP_step L j hlt
      generalize (L[j]).id = i at *
      generalize L[j].tx = t at *
      have HE : Hid (((laidP L j).set (j * 2) (.int .i64 i)).set (j * 2 + 1) (.string t) = laidP L (j + 1)) := est
      clear est
      go_wp2_with (go_at_call 75; refine (toPolItem_any i t _).mono ?_; rintro e w2 ⟨rfl, hb1⟩; have hrow2 := ownsUnder hrow hb1 (Nat.le_refl _); obtain ⟨u1, hu1⟩ := ownsCell hrow2 (j * 2) (by omega); obtain ⟨u2, hu2⟩ := ownsCell hrow2 (j * 2 + 1) (by omega); have hf1 := hrow2.frozenAt (j * 2); have hf2 := hrow2.frozenAt (j * 2 + 1))
      go_roundw
      case rel =>
        have hst := ((hrow2.stored (j * 2) (.int .i64 i)).1.stored (j * 2 + 1) (.string t)).1
        rw [HE.out] at hst
        exact ⟨j + 1, by omega, by go_num, hst, ((hb.trans (hb1.mono (by omega))).setCell (p := ⟨w.heap.size, j * 2, none⟩) (Nat.le_refl _) _).setCell (p := ⟨w.heap.size, j * 2 + 1, none⟩) (Nat.le_refl _) _⟩
      case measure => simp [intOf]; omega
    · go_wp2
      go_ret
      obtain rfl : j = L.length := by omega
      rw [laidP_all] at hrow
      exact ⟨⟨_, rfl, hrow⟩, hb⟩

set_option maxHeartbeats 1000000 in
theorem eqPS_same (A A' : Option Addr) (c c' : Nat) (L : List PI) (w : World) (h1 : RdP w.heap.size w A L) (h2 : RdP w.heap.size w A' L) (hn : L.length ≤ maxLen) :
    Calls Tryz.prog 43 #[.slice A L.length c, .slice A' L.length c'] w fun e w' => e = .returned (.bool true) ∧ Below w.heap.size w w' := by
  unfold maxLen at hn
  have H1 : Hid (RdP w.heap.size w A L) := h1
  have H2 : Hid (RdP w.heap.size w A' L) := h2
  clear h1 h2
  go_enter Tryz.func43, Tryz.ntmps43
  go_wp2
  go_loopw [5] (fun iv wr => ∃ j : Nat, j ≤ L.length ∧ iv = .int .i64 j ∧ Below w.heap.size w wr) (fun i _ => L.length - (intOf i).toNat)
  case atStart => exact ⟨0, Nat.zero_le _, rfl, Below.refl _ _⟩
  case round =>
    obtain ⟨j, hj, rfl, hb⟩ := hrel
    have hsz := hb.size
    by_cases hlt : j < L.length
    · obtain ⟨b, o, rfl, hbl, c1, c2⟩ := (H1.out.below hb (Nat.le_refl _)) j hlt
      obtain ⟨b', o', rfl, hbl', c1', c2'⟩ := (H2.out.below hb (Nat.le_refl _)) j hlt
      generalize (L[j]).id = i at *
      generalize L[j].tx = t at *
      go_wp2
      go_region_with (go_at_call 76; refine (eqPolItem_same i t _).mono ?_; rintro e w1 ⟨rfl, hb1⟩; have hb2 : Below w.heap.size w w1 := hb.drew.trans (hb1.mono (by simp; omega)))
      all_goals
        go_wp2
        go_roundw
        case rel => exact ⟨j + 1, by omega, by go_num, by first | exact hb2 | exact hb2.drew⟩
        case measure => simp [intOf]; omega
    · go_wp2
      go_ret
      exact ⟨rfl, hb⟩
end Go.Proofs.YthfffpdkmoclbaaGreatDoor.W
namespace Go.Proofs.YthfffpdkmoclbaaGreatDoor.W
open Go.RowKit

/-- where the halves end -/
def atL (L : List PI) (id : Int) : Nat → Nat → Nat → Nat
  | 0, low, _ => low
  | f + 1, low, high => if low < high then (if ((L.getD ((low + high) / 2) ⟨0, ByteArray.empty⟩).id < id) then atL L id f ((low + high) / 2 + 1) high else atL L id f low ((low + high) / 2)) else low
theorem atL_step (L : List PI) (id : Int) (f low high : Nat) (hf : high - low ≤ f) (h : low < high) (hh : high ≤ L.length) :
    ∃ f', atL L id f low high = (if (L[(low + high) / 2]'(by omega)).id < id then atL L id f' ((low + high) / 2 + 1) high else atL L id f' low ((low + high) / 2)) ∧ high - ((low + high) / 2 + 1) ≤ f' ∧ (low + high) / 2 - low ≤ f' := by
  cases f with
  | zero => omega
  | succ f =>
    refine ⟨f, ?_, by omega, by omega⟩
    rw [atL, if_pos h]
    have e : (L.getD ((low + high) / 2) ⟨0, ByteArray.empty⟩) = L[(low + high) / 2]'(by omega) := by
      simp [List.getD, show (low + high) / 2 < L.length by omega]
    rw [e]
theorem atL_end (L : List PI) (id : Int) (f low high : Nat) (h : ¬ low < high) : atL L id f low high = low := by
  cases f with
  | zero => rfl
  | succ f => rw [atL, if_neg h]
/-- the place at which the halves end -/
def plP (L : List PI) (id : Int) : Nat := atL L id L.length 0 L.length
/-- what PolGet answers -/
def getP (L : List PI) (id : Int) : Option ByteArray := if h : plP L id < L.length then (if (L[plP L id]).id = id then some (L[plP L id]).tx else none) else none

set_option maxHeartbeats 1000000 in
theorem l3At_any (A : Option Addr) (c : Nat) (L : List PI) (id : Int) (w : World) (hL : RdP w.heap.size w A L) (hn : L.length ≤ 1048576) :
    Calls Tryz.prog 85 #[.slice A L.length c, .int .i64 id] w fun e w' => e = .returned (.int .i64 (plP L id)) ∧ w = w' := by
  have HL : Hid (RdP w.heap.size w A L) := hL
  clear hL
  go_enter Tryz.func85, Tryz.ntmps85
  go_wp2
  go_loopw [5, 6] (fun lv hv wr => ∃ low high f : Nat, low ≤ high ∧ high ≤ L.length ∧ lv = .int .i64 low ∧ hv = .int .i64 high ∧ Hid (high - low ≤ f) ∧ Hid (plP L id = atL L id f low high) ∧ w = wr) (fun l h _ => (intOf h).toNat - (intOf l).toNat)
  case atStart => exact ⟨0, L.length, L.length, Nat.zero_le _, Nat.le_refl _, rfl, rfl, by show _ ≤ _; omega, rfl, rfl⟩
  case round =>
    obtain ⟨low, high, f, hlh, hh, rfl, rfl, HF, HP, rfl⟩ := hrel
    by_cases hlt : low < high
    · obtain ⟨f', e, e1, e2⟩ := atL_step L id f low high HF.out hlt hh
      have HE : Hid (plP L id = _) := HP.out.trans e
      clear e HP HF
      obtain ⟨m, hm⟩ : ∃ m, (low + high) / 2 = m := ⟨_, rfl⟩
      have hmi : ((low : Int) + (high : Int)) / 2 = (m : Int) := by omega
      have hml : m < L.length := by omega
      simp only [hm] at HE e1 e2
      obtain ⟨b, o, rfl, hbl, c1, c2⟩ := HL.out m hml
      generalize hid : (L[m]).id = i at *
      have h1 : low ≤ m := by omega
      have h2 : m < high := by omega
      by_cases hi : i < id
      · have HE' : Hid (plP L id = atL L id f' (m + 1) high) := by have := HE.out; rwa [if_pos hi] at this
        have E1 : Hid (high - (m + 1) ≤ f') := e1
        clear HE e1 e2 hid hm
        go_wp2
        go_roundw
        case rel => exact ⟨m + 1, high, f', by omega, by omega, by go_num, by go_num, E1, HE', trivial⟩
        case measure => simp [intOf]; omega
      · have HE' : Hid (plP L id = atL L id f' low m) := by have := HE.out; rwa [if_neg hi] at this
        have E1 : Hid (m - low ≤ f') := e2
        clear HE e1 e2 hid hm
        go_wp2
        go_roundw
        case rel => exact ⟨low, m, f', by omega, by omega, by go_num, by go_num, E1, HE', trivial⟩
        case measure => simp [intOf]; omega
    · go_wp2
      go_ret
      exact ⟨ret_int (by rw [HP.out, atL_end L id f low high hlt]), rfl⟩

/-- what PolGet answers, as a pair -/
def getV (L : List PI) (id : Int) : Value := match getP L id with
  | some t => .tuple #[.string t, .bool true]
  | none => .tuple #[.string ByteArray.empty, .bool false]

set_option maxHeartbeats 1000000 in
theorem polGet_spec (A : Option Addr) (c : Nat) (L : List PI) (id : Int) (w : World) (hL : RdP w.heap.size w A L) (hn : L.length ≤ 1048576) :
    Calls Tryz.prog 92 #[.slice A L.length c, .int .i64 id] w fun e w' => e = .returned (getV L id) ∧ w = w' := by
  have hat := l3At_any A c L id w hL hn
  unfold getV getP
  generalize hp : plP L id = p at *
  by_cases h : p < L.length
  · obtain ⟨b, o, rfl, hbl, c1, c2⟩ := hL p h
    rw [dif_pos h]
    by_cases hi : (L[p]).id = id
    · rw [if_pos hi]
      rw [hi] at c1
      generalize (L[p]).tx = t at *
      clear hL hi hp
      go_enter Tryz.func92, Tryz.ntmps92
      go_wp2_with (go_at_call 85; refine hat.mono ?_; rintro e w' ⟨rfl, rfl⟩)
      go_ret2
      exact ⟨rfl, rfl⟩
    · rw [if_neg hi]
      generalize (L[p]).tx = t at *
      generalize (L[p]).id = i at *
      clear hL hp
      go_enter Tryz.func92, Tryz.ntmps92
      go_wp2_with (go_at_call 85; refine hat.mono ?_; rintro e w' ⟨rfl, rfl⟩)
      go_ret2
      exact ⟨rfl, rfl⟩
  · rw [dif_neg h]
    clear hL hp
    go_enter Tryz.func92, Tryz.ntmps92
    go_wp2_with (go_at_call 85; refine hat.mono ?_; rintro e w' ⟨rfl, rfl⟩)
    go_ret2
    exact ⟨rfl, rfl⟩

set_option maxHeartbeats 1000000 in
theorem polGet_impl (A : Option Addr) (c : Nat) (L : List PI) (id : Int) (w : World) (hL : RdP w.heap.size w A L) (hn : L.length ≤ 1048576) :
    Calls Tryz.prog 16 #[.slice A L.length c, .int .i64 id] w fun e w' => e = .returned (getV L id) ∧ w = w' := by
  have HL : Hid (RdP w.heap.size w A L) := hL
  clear hL
  go_enter Tryz.func16, Tryz.ntmps16
  go_wp2
  go_loopw [6, 7] (fun lv hv wr => ∃ low high f : Nat, low ≤ high ∧ high ≤ L.length ∧ lv = .int .i64 low ∧ hv = .int .i64 high ∧ Hid (high - low ≤ f) ∧ Hid (plP L id = atL L id f low high) ∧ w = wr) (fun l h _ => (intOf h).toNat - (intOf l).toNat)
  case atStart => exact ⟨0, L.length, L.length, Nat.zero_le _, Nat.le_refl _, rfl, rfl, by show _ ≤ _; omega, rfl, rfl⟩
  case round =>
    obtain ⟨low, high, f, hlh, hh, rfl, rfl, HF, HP, rfl⟩ := hrel
    by_cases hlt : low < high
    · obtain ⟨f', e, e1, e2⟩ := atL_step L id f low high HF.out hlt hh
      have HE : Hid (plP L id = _) := HP.out.trans e
      clear e HP HF
      obtain ⟨m, hm⟩ : ∃ m, (low + high) / 2 = m := ⟨_, rfl⟩
      have hmi : ((low : Int) + (high : Int)) / 2 = (m : Int) := by omega
      have hml : m < L.length := by omega
      simp only [hm] at HE e1 e2
      obtain ⟨b, o, rfl, hbl, c1, c2⟩ := HL.out m hml
      generalize hid : (L[m]).id = i at *
      have h1 : low ≤ m := by omega
      have h2 : m < high := by omega
      by_cases hi : i < id
      · have HE' : Hid (plP L id = atL L id f' (m + 1) high) := by have := HE.out; rwa [if_pos hi] at this
        have E1 : Hid (high - (m + 1) ≤ f') := e1
        clear HE e1 e2 hid hm
        go_wp2
        go_roundw
        case rel => exact ⟨m + 1, high, f', by omega, by omega, by go_num, by go_num, E1, HE', trivial⟩
        case measure => simp [intOf]; omega
      · have HE' : Hid (plP L id = atL L id f' low m) := by have := HE.out; rwa [if_neg hi] at this
        have E1 : Hid (m - low ≤ f') := e2
        clear HE e1 e2 hid hm
        go_wp2
        go_roundw
        case rel => exact ⟨low, m, f', by omega, by omega, by go_num, by go_num, E1, HE', trivial⟩
        case measure => simp [intOf]; omega
    · have hp : plP L id = low := by rw [HP.out, atL_end L id f low high hlt]
      by_cases h : low < L.length
      · obtain ⟨b, o, rfl, hbl, c1, c2⟩ := HL.out low h
        by_cases hi : (L[low]).id = id
        · have HG : Hid (getV L id = .tuple #[.string (L[low]).tx, .bool true]) := by
            show _ = _
            simp only [getV, getP, hp, dif_pos h, if_pos hi]
          rw [hi] at c1
          generalize (L[low]).tx = t at *
          clear hi hp HP HF
          go_wp2
          go_ret2
          exact ⟨by rw [HG.out]; rfl, rfl⟩
        · have HG : Hid (getV L id = .tuple #[.string ByteArray.empty, .bool false]) := by
            show _ = _
            simp only [getV, getP, hp, dif_pos h, if_neg hi]
          generalize (L[low]).tx = t at *
          generalize (L[low]).id = i at *
          clear hp HP HF
          go_wp2
          go_ret2
          exact ⟨by rw [HG.out]; rfl, rfl⟩
      · have HG : Hid (getV L id = .tuple #[.string ByteArray.empty, .bool false]) := by
          show _ = _
          simp only [getV, getP, hp, dif_neg h]
        clear hp HP HF
        go_wp2
        go_ret2
        exact ⟨by rw [HG.out]; rfl, rfl⟩
end Go.Proofs.YthfffpdkmoclbaaGreatDoor.W
namespace Go.Proofs.YthfffpdkmoclbaaGreatDoor.W
open Go.RowKit Go.Proofs.YthfffpdkmoclbaaGreatDoor.M

def idP (L : List PI) (i : Nat) : Int := (L.getD i ⟨0, ByteArray.empty⟩).id
def txP (L : List PI) (i : Nat) : ByteArray := (L.getD i ⟨0, ByteArray.empty⟩).tx
/-- an item that may stand at its place -/
def gP (L : List PI) (i : Nat) : Bool := decide (kd (txP L i) ≠ 0) && (decide (idP L i = (idOfN (txP L i).data.toList : Int)) && (decide (i = 0) || decide (idP L (i - 1) < idP L i)))
def okP (L : List PI) : Bool := decide (L.length ≤ 700) && (List.range L.length).all (gP L)
theorem idP_at (L : List PI) (i : Nat) (h : i < L.length) : idP L i = (L[i]).id := by simp [idP, List.getD, h]
theorem txP_at (L : List PI) (i : Nat) (h : i < L.length) : txP L i = (L[i]).tx := by simp [txP, List.getD, h]
theorem okP_long (L : List PI) (h : 700 < L.length) : okP L = false := by
  have : decide (L.length ≤ 700) = false := decide_eq_false (by omega)
  unfold okP; rw [this]; rfl
theorem okP_bad (L : List PI) (i : Nat) (h : i < L.length) (hb : gP L i = false) : okP L = false := by
  unfold okP
  have : (List.range L.length).all (gP L) = false := by
    rw [List.all_eq_false]; exact ⟨i, List.mem_range.2 h, by simp [hb]⟩
  simp [this]
theorem okP_good (L : List PI) (h : L.length ≤ 700) (h1 : ∀ i, i < L.length → gP L i = true) : okP L = true := by
  unfold okP
  have e1 : (List.range L.length).all (gP L) = true := List.all_eq_true.2 fun i hi => h1 i (List.mem_range.1 hi)
  simp [e1, h]

theorem idI (s : ByteArray) (n : Nat) (w : World) (hs : s.size ≤ 1048576) (h : idOfN s.data.toList = n) :
    Calls Tryz.prog 17 #[.string s] w fun e w' => e = .returned (.int .i64 (n : Int)) ∧ Below w.heap.size w w' := by
  subst h; exact (idOf_impl s w (by omega)).mono fun _ _ ⟨a, b⟩ => ⟨a, b ▸ Below.refl _ _⟩
theorem idS (s : ByteArray) (n : Nat) (w : World) (hs : s.size ≤ 1048576) (h : idOfN s.data.toList = n) :
    Calls Tryz.prog 55 #[.string s] w fun e w' => e = .returned (.int .i64 (n : Int)) ∧ Below w.heap.size w w' := by
  subst h; exact (idOf_spec s w (by omega)).mono fun _ _ ⟨a, b⟩ => ⟨a, b ▸ Below.refl _ _⟩
theorem kdI (s : ByteArray) (m : Nat) (w : World) (hs : s.size ≤ 1048576) (h : kd s = m) (hg : TypeCell w) :
    Calls Tryz.prog 58 #[.string s] w fun e w' => e = .returned (.int .i64 ((m : Nat) : Int)) ∧ Below w.heap.size w w' := by
  subst h; exact objKind_impl s w hs hg
theorem kdS (s : ByteArray) (m : Nat) (w : World) (hs : s.size ≤ 1048576) (h : kd s = m) :
    Calls Tryz.prog 14 #[.string s] w fun e w' => e = .returned (.int .i64 ((m : Nat) : Int)) ∧ Below w.heap.size w w' := by
  subst h; exact objKind_spec s w hs
set_option maxRecDepth 100000 in
set_option maxHeartbeats 4000000 in
theorem polOk_impl (A : Option Addr) (c : Nat) (L : List PI) (w : World) (hg : TypeCell w) (hL : RdP w.heap.size w A L) (hn : L.length ≤ 1048576) (ht : ∀ j (h : j < L.length), (L[j]).tx.size ≤ 1048576) :
    Calls Tryz.prog 18 #[.slice A L.length c] w fun e w' => e = .returned (.bool (okP L)) ∧ Below w.heap.size w w' := by
  have HL : Hid (RdP w.heap.size w A L) := hL
  have HT : Hid (∀ j (h : j < L.length), (L[j]).tx.size ≤ 1048576) := ht
  have hgl := hg.lt
  have HG : Hid (TypeCell w) := hg
  clear hL ht hg
  by_cases h7 : 700 < L.length
  · rw [okP_long L h7]
    go_enter Tryz.func18, Tryz.ntmps18
    go_wp2
    go_ret
    exact ⟨rfl, Below.refl _ _⟩
  generalize hk : okP L = k
  have HK : Hid (okP L = k) := hk
  clear hk
  go_enter Tryz.func18, Tryz.ntmps18
  go_wp2
  go_loopw [3, 11] (fun lv iv wr => ∃ (j : Nat) (la : Int), j ≤ L.length ∧ iv = .int .i64 j ∧ lv = .int .i64 la ∧ Hid (la = if j = 0 then 0 else idP L (j - 1)) ∧ Hid (∀ i, i < j → gP L i = true) ∧ Below w.heap.size w wr) (fun _ i _ => L.length - (intOf i).toNat)
  case atStart => exact ⟨0, 0, Nat.zero_le _, rfl, rfl, rfl, (show ∀ i, i < 0 → _ from fun i h => by omega), Below.refl _ _⟩
  case round =>
    obtain ⟨j, la, hj, rfl, rfl, HLA, HA, hb⟩ := hrel
    have hsz := hb.size
    by_cases hlt : j < L.length
    · obtain ⟨b, o, rfl, hbl, c1, c2⟩ := (HL.out.below hb (Nat.le_refl _)) j hlt
      have hts := HT.out j hlt
      have e1 : Hid (idP L j = (L[j]).id) := idP_at L j hlt
      have e2 : Hid (txP L j = (L[j]).tx) := txP_at L j hlt
      generalize (L[j]).id = id at *
      generalize (L[j]).tx = tx at *
      have hN1 := idOfN_bd tx.data.toList
      obtain ⟨n, hn'⟩ : ∃ n, idOfN tx.data.toList = n := ⟨_, rfl⟩
      obtain ⟨m, hm'⟩ : ∃ m, kd tx = m := ⟨_, rfl⟩
      rw [hn'] at hN1
      have HN : Hid (idOfN tx.data.toList = n) := hn'
      have HM : Hid (kd tx = m) := hm'
      have NO : Hid (gP L j = false → k = false) := fun h => by rw [← HK.out]; exact okP_bad L j hlt h
      have GE : Hid (gP L j = (decide (m ≠ 0) && (decide (id = (n : Int)) && (decide (j = 0) || decide (idP L (j - 1) < id))))) := by
        show _ = _
        unfold gP; rw [e1.out, e2.out, hn', hm']
      clear hn' hm'
      have x1 : ∀ x : Ext (wr.alloc (.cells #[.int .i64 id, .string tx] 35)), x.world.cell? ⟨wr.heap.size, 0, none⟩ = some (.int .i64 id) := fun x => x.cell (by simp)
      have x2 : ∀ x : Ext (wr.alloc (.cells #[.int .i64 id, .string tx] 35)), x.world.cell? ⟨wr.heap.size, 1, none⟩ = some (.string tx) := fun x => x.cell (by simp)
      have hgx : ∀ x : Ext (wr.alloc (.cells #[.int .i64 id, .string tx] 35)), TypeCell x.world := fun x => (HG.out.below (hb.alloc hsz (.cells #[.int .i64 id, .string tx] 35)) hgl).below x.below (by first | (simp; done) | (simp; omega))
      have hne : Nonempty (Ext (wr.alloc (.cells #[.int .i64 id, .string tx] 35))) := ⟨⟨_, Below.refl _ _⟩⟩
      by_cases k1 : id ≤ la
      · have e := NO.out (by
          rw [GE.out]
          by_cases hn0 : id = (n : Int)
          · have hla := HLA.out
            by_cases h0 : j = 0
            · rw [if_pos h0] at hla; exfalso; omega
            · rw [if_neg h0] at hla
              have : decide (idP L (j - 1) < id) = false := decide_eq_false (by omega)
              rw [this, decide_eq_false h0]; simp
          · rw [decide_eq_false hn0]; simp)
        subst e
        go_wp2
        refine region_ext (by kernel_rfl) (by kernel_rfl) ?_
        repeat (go_big_quiet_step (first | (go_at_call 17; exact calls_ext (idI tx n _ hts HN.out)) | (go_at_call 58; exact calls_ext (kdI tx m _ hts HM.out (hgx _)))))
        refine wpQuiet_nil ?_
        rintro _ ⟨x, rfl⟩
        have hbx := (hb.alloc hsz (.cells #[.int .i64 id, .string tx] 35)).trans (x.below.mono (by simp; omega))
        go_wp2
        go_ret
        exact ⟨rfl, hbx⟩
      have y1 : decide (id ≤ la) = false := decide_eq_false k1
      by_cases k2 : id = (n : Int)
      · have y2 : (id != (n : Int)) = false := by rw [k2]; simp
        have y2' : (id == (n : Int)) = true := by rw [k2]; simp
        by_cases k3 : m = 0
        · have e := NO.out (by rw [GE.out, k3]; rfl)
          subst e
          have y3 : (((m : Nat) : Int) == 0) = true := by rw [k3]; rfl
          clear k1 k2 GE NO
          go_wp2
          refine region_ext (by kernel_rfl) (by kernel_rfl) ?_
          repeat (go_big_quiet_step (first | (go_at_call 17; exact calls_ext (idI tx n _ hts HN.out)) | (go_at_call 58; exact calls_ext (kdI tx m _ hts HM.out (hgx _)))))
          refine wpQuiet_nil ?_
          rintro _ ⟨x, rfl⟩
          have hbx := (hb.alloc hsz (.cells #[.int .i64 id, .string tx] 35)).trans (x.below.mono (by simp; omega))
          go_wp2
          go_ret
          exact ⟨rfl, hbx⟩
        · have y3 : (((m : Nat) : Int) == 0) = false := beq_eq_false_iff_ne.2 (by omega)
          have HA' : Hid (∀ i, i < j + 1 → gP L i = true) := fun i hi => by
            by_cases h : i < j
            · exact HA.out i h
            · obtain rfl : i = j := by omega
              rw [GE.out, decide_eq_true k3, decide_eq_true k2]
              have hla := HLA.out
              by_cases h0 : i = 0
              · rw [decide_eq_true h0]; rfl
              · rw [if_neg h0] at hla
                have : decide (idP L (i - 1) < id) = true := decide_eq_true (by omega)
                rw [this]; simp
          have HLA' : Hid (id = if j + 1 = 0 then 0 else idP L (j + 1 - 1)) := by
            show _ = _
            rw [if_neg (by omega), Nat.add_sub_cancel, e1.out]
          clear k1 k2 k3 GE NO
          go_wp2
          refine region_ext (by kernel_rfl) (by kernel_rfl) ?_
          repeat (go_big_quiet_step (first | (go_at_call 17; exact calls_ext (idI tx n _ hts HN.out)) | (go_at_call 58; exact calls_ext (kdI tx m _ hts HM.out (hgx _)))))
          refine wpQuiet_nil ?_
          rintro _ ⟨x, rfl⟩
          have hbx := (hb.alloc hsz (.cells #[.int .i64 id, .string tx] 35)).trans (x.below.mono (by simp; omega))
          have x1' := x1 x
          go_wp2
          go_roundw
          case rel => exact ⟨j + 1, id, by omega, by go_num, rfl, HLA', HA', hbx⟩
          case measure => simp [intOf]; omega
      · have e := NO.out (by rw [GE.out, decide_eq_false k2]; simp)
        subst e
        have y2 : (id != (n : Int)) = true := by simpa using k2
        have y2' : (id == (n : Int)) = false := by simpa using k2
        clear k1 k2 GE NO
        go_wp2
        refine region_ext (by kernel_rfl) (by kernel_rfl) ?_
        repeat (go_big_quiet_step (first | (go_at_call 17; exact calls_ext (idI tx n _ hts HN.out)) | (go_at_call 58; exact calls_ext (kdI tx m _ hts HM.out (hgx _)))))
        refine wpQuiet_nil ?_
        rintro _ ⟨x, rfl⟩
        have hbx := (hb.alloc hsz (.cells #[.int .i64 id, .string tx] 35)).trans (x.below.mono (by simp; omega))
        go_wp2
        go_ret
        exact ⟨rfl, hbx⟩
    · obtain rfl : j = L.length := by omega
      have e : k = true := by rw [← HK.out]; exact okP_good L (by omega) HA.out
      subst e
      go_wp2
      go_ret
      exact ⟨rfl, hb⟩
set_option maxRecDepth 100000 in
set_option maxHeartbeats 4000000 in
theorem polOk_spec (A : Option Addr) (c : Nat) (L : List PI) (w : World) (hL : RdP w.heap.size w A L) (hn : L.length ≤ 1048576) (ht : ∀ j (h : j < L.length), (L[j]).tx.size ≤ 1048576) :
    Calls Tryz.prog 13 #[.slice A L.length c] w fun e w' => e = .returned (.bool (okP L)) ∧ Below w.heap.size w w' := by
  have HL : Hid (RdP w.heap.size w A L) := hL
  have HT : Hid (∀ j (h : j < L.length), (L[j]).tx.size ≤ 1048576) := ht
  clear hL ht
  by_cases h7 : 700 < L.length
  · rw [okP_long L h7]
    go_enter Tryz.func13, Tryz.ntmps13
    go_wp2
    go_ret
    exact ⟨rfl, Below.refl _ _⟩
  generalize hk : okP L = k
  have HK : Hid (okP L = k) := hk
  clear hk
  go_enter Tryz.func13, Tryz.ntmps13
  go_wp2
  go_loopw [3] (fun iv wr => ∃ (j : Nat), j ≤ L.length ∧ iv = .int .i64 j ∧ Hid (∀ i, i < j → gP L i = true) ∧ Below w.heap.size w wr) (fun i _ => L.length - (intOf i).toNat)
  case atStart => exact ⟨0, Nat.zero_le _, rfl, (show ∀ i, i < 0 → _ from fun i h => by omega), Below.refl _ _⟩
  case round =>
    obtain ⟨j, hj, rfl, HA, hb⟩ := hrel
    have hsz := hb.size
    by_cases hlt : j < L.length
    · obtain ⟨b, o, rfl, hbl, c1, c2⟩ := (HL.out.below hb (Nat.le_refl _)) j hlt
      have hts := HT.out j hlt
      have e1 : Hid (idP L j = (L[j]).id) := idP_at L j hlt
      have e2 : Hid (txP L j = (L[j]).tx) := txP_at L j hlt
      generalize (L[j]).id = id at *
      generalize (L[j]).tx = tx at *
      obtain ⟨n, hn'⟩ : ∃ n, idOfN tx.data.toList = n := ⟨_, rfl⟩
      obtain ⟨m, hm'⟩ : ∃ m, kd tx = m := ⟨_, rfl⟩
      have HN : Hid (idOfN tx.data.toList = n) := hn'
      have HM : Hid (kd tx = m) := hm'
      have NO : Hid (gP L j = false → k = false) := fun h => by rw [← HK.out]; exact okP_bad L j hlt h
      have GE : Hid (gP L j = (decide (m ≠ 0) && (decide (id = (n : Int)) && (decide (j = 0) || decide (idP L (j - 1) < id))))) := by
        show _ = _
        unfold gP; rw [e1.out, e2.out, hn', hm']
      clear hn' hm'
      have x1 : ∀ x : Ext wr, x.world.cell? ⟨b, o + j * 2, none⟩ = some (.int .i64 id) := fun x => x.cell c1
      have x2 : ∀ x : Ext wr, x.world.cell? ⟨b, o + j * 2 + 1, none⟩ = some (.string tx) := fun x => x.cell c2
      have hne : Nonempty (Ext wr) := ⟨⟨wr, Below.refl _ _⟩⟩
      by_cases k3 : m = 0
      · have e := NO.out (by rw [GE.out, k3]; rfl)
        subst e
        have y3 : (((m : Nat) : Int) == 0) = true := by rw [k3]; rfl
        clear GE NO k3
        go_wp2
        refine region_ext (by kernel_rfl) (by kernel_rfl) ?_
        repeat (go_big_quiet_step (first | (go_at_call 55; exact calls_ext (idS tx n _ hts HN.out)) | (go_at_call 14; exact calls_ext (kdS tx m _ hts HM.out))))
        refine wpQuiet_nil ?_
        rintro _ ⟨x, rfl⟩
        have hbx := hb.trans (x.below.mono hsz)
        go_wp2
        go_ret
        exact ⟨rfl, hbx⟩
      have y3 : (((m : Nat) : Int) == 0) = false := beq_eq_false_iff_ne.2 (by omega)
      by_cases k2 : id = (n : Int)
      rotate_left
      · have e := NO.out (by rw [GE.out, decide_eq_false k2]; simp)
        subst e
        have y2 : (id != (n : Int)) = true := by simpa using k2
        have y2' : (id == (n : Int)) = false := by simpa using k2
        clear GE NO k2 k3
        go_wp2
        refine region_ext (by kernel_rfl) (by kernel_rfl) ?_
        repeat (go_big_quiet_step (first | (go_at_call 55; exact calls_ext (idS tx n _ hts HN.out)) | (go_at_call 14; exact calls_ext (kdS tx m _ hts HM.out))))
        refine wpQuiet_nil ?_
        rintro _ ⟨x, rfl⟩
        have hbx := hb.trans (x.below.mono hsz)
        go_wp2
        go_ret
        exact ⟨rfl, hbx⟩
      have y2 : (id != (n : Int)) = false := by rw [k2]; simp
      have y2' : (id == (n : Int)) = true := by rw [k2]; simp
      by_cases k4 : j = 0
      · have HA' : Hid (∀ i, i < 1 → gP L i = true) := fun i hi => by
          obtain rfl : i = 0 := by omega
          subst k4
          rw [GE.out, decide_eq_true k3, decide_eq_true k2]; rfl
        subst k4
        simp only [Nat.zero_mul, Nat.add_zero] at x1 x2 c1 c2
        clear GE NO k2 k3
        go_wp2
        refine region_ext (by kernel_rfl) (by kernel_rfl) ?_
        repeat (go_big_quiet_step (first | (go_at_call 55; exact calls_ext (idS tx n _ hts HN.out)) | (go_at_call 14; exact calls_ext (kdS tx m _ hts HM.out))))
        refine wpQuiet_nil ?_
        rintro _ ⟨x, rfl⟩
        have hbx := hb.trans (x.below.mono hsz)
        go_wp2
        go_roundw
        case rel => exact ⟨1, by omega, rfl, HA', hbx⟩
        case measure => simp [intOf]; omega
      obtain ⟨i, rfl⟩ : ∃ i, j = i + 1 := ⟨j - 1, by omega⟩
      obtain ⟨b', o', ea, hbl', d1, d2⟩ := (HL.out.below hb (Nat.le_refl _)) i (by omega)
      simp only [Option.some.injEq, Addr.mk.injEq] at ea
      obtain ⟨rfl, rfl, _⟩ := ea
      have e3 : Hid (idP L i = (L[i]).id) := idP_at L i (by omega)
      generalize (L[i]).id = id' at *
      have x3 : ∀ x : Ext wr, x.world.cell? ⟨b, o + i * 2, none⟩ = some (.int .i64 id') := fun x => x.cell d1
      clear d1 d2 k4
      have y4 : (0 : Int) < ((i + 1 : Nat) : Int) := by omega
      have y5 : (0 : Int) < (i : Int) + 1 := by omega
      by_cases k5 : id ≤ id'
      · have e := NO.out (by
          rw [GE.out, Nat.add_sub_cancel, e3.out]
          have : decide (id' < id) = false := decide_eq_false (by omega)
          rw [this]; simp)
        subst e
        clear GE NO k2 k3
        go_wp2
        refine region_ext (by kernel_rfl) (by kernel_rfl) ?_
        repeat (go_big_quiet_step (first | (go_at_call 55; exact calls_ext (idS tx n _ hts HN.out)) | (go_at_call 14; exact calls_ext (kdS tx m _ hts HM.out))))
        refine wpQuiet_nil ?_
        rintro _ ⟨x, rfl⟩
        have hbx := hb.trans (x.below.mono hsz)
        go_wp2
        go_ret
        exact ⟨rfl, hbx⟩
      · have y6 : decide (id ≤ id') = false := decide_eq_false k5
        have HA' : Hid (∀ t, t < i + 1 + 1 → gP L t = true) := fun t ht => by
          by_cases h : t < i + 1
          · exact HA.out t h
          · obtain rfl : t = i + 1 := by omega
            rw [GE.out, decide_eq_true k3, decide_eq_true k2, Nat.add_sub_cancel, e3.out]
            have : decide (id' < id) = true := decide_eq_true (by omega)
            rw [this]; simp
        clear GE NO k2 k3 k5
        go_wp2
        refine region_ext (by kernel_rfl) (by kernel_rfl) ?_
        repeat (go_big_quiet_step (first | (go_at_call 55; exact calls_ext (idS tx n _ hts HN.out)) | (go_at_call 14; exact calls_ext (kdS tx m _ hts HM.out))))
        refine wpQuiet_nil ?_
        rintro _ ⟨x, rfl⟩
        have hbx := hb.trans (x.below.mono hsz)
        go_wp2
        go_roundw
        case rel => exact ⟨i + 1 + 1, by omega, by go_num, HA', hbx⟩
        case measure => simp [intOf]; omega
    · obtain rfl : j = L.length := by omega
      have e : k = true := by rw [← HK.out]; exact okP_good L (by omega) HA.out
      subst e
      go_wp2
      go_ret
      exact ⟨rfl, hb⟩
end Go.Proofs.YthfffpdkmoclbaaGreatDoor.W
