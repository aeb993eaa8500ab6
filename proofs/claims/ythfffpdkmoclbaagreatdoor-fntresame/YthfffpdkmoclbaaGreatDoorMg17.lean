/-
  The walk of TreOk of the specification. Texts of at most 1048576 bytes.
  TreLay of the specification. At most 1048576 files, texts of at most 1048576 bytes.
  Texts that are not one, as the model asks it. No condition.
-/
import Derived.Test.YthfffpdkmoclbaaGreatDoorMg07
import Derived.Test.YthfffpdkmoclbaaGreatDoorMg11
import Derived.Test.YthfffpdkmoclbaaGreatDoorMg05
import Derived.Test.YthfffpdkmoclbaaGreatDoorMg16
import Derived.Test.YthfffpdkmoclbaaGreatDoorMg01
namespace Go.Proofs.YthfffpdkmoclbaaGreatDoor.W
open Go.RowKit Go.Proofs.YthfffpdkmoclbaaGreatDoor.M

def paL (L : List TF) (i : Nat) : List UInt8 := (L.getD i ⟨ByteArray.empty, ByteArray.empty⟩).pa.data.toList
def byN (L : List TF) (i : Nat) : Nat := (L.getD i ⟨ByteArray.empty, ByteArray.empty⟩).by_.size
/-- a file that may stand at its place -/
def g1 (L : List TF) (i : Nat) : Bool := decide (paL L i ≠ []) && (pthB (paL L i) && (decide (byN L i ≤ 6) && (decide (i = 0) || Op.bytesLess (paL L (i - 1)) (paL L i))))
/-- a file that does not lie under the one ahead of it -/
def g2 (L : List TF) (i : Nat) : Bool := decide (i = 0) || !(undB (paL L (i - 1)) (paL L i))
def okT (L : List TF) : Bool := decide (L.length ≤ 60) && ((List.range L.length).all (g1 L) && (List.range L.length).all (g2 L))
theorem paL_at (L : List TF) (i : Nat) (h : i < L.length) : paL L i = (L[i]).pa.data.toList := by simp [paL, List.getD, h]
theorem byN_at (L : List TF) (i : Nat) (h : i < L.length) : byN L i = (L[i]).by_.size := by simp [byN, List.getD, h]
theorem bad1 (L : List TF) (i : Nat) (h : i < L.length) (hb : g1 L i = false) : okT L = false := by
  unfold okT
  have : (List.range L.length).all (g1 L) = false := by
    rw [List.all_eq_false]; exact ⟨i, List.mem_range.2 h, by simp [hb]⟩
  simp [this]
theorem bad2 (L : List TF) (i : Nat) (h : i < L.length) (hb : g2 L i = false) : okT L = false := by
  unfold okT
  have : (List.range L.length).all (g2 L) = false := by
    rw [List.all_eq_false]; exact ⟨i, List.mem_range.2 h, by simp [hb]⟩
  simp [this]
theorem badN (L : List TF) (h : 60 < L.length) : okT L = false := by
  unfold okT
  have : decide (L.length ≤ 60) = false := by simp; omega
  simp [this]
theorem goodT (L : List TF) (h : L.length ≤ 60) (h1 : ∀ i, i < L.length → g1 L i = true) (h2 : ∀ i, i < L.length → g2 L i = true) : okT L = true := by
  unfold okT
  have e1 : (List.range L.length).all (g1 L) = true := List.all_eq_true.2 fun i hi => h1 i (List.mem_range.1 hi)
  have e2 : (List.range L.length).all (g2 L) = true := List.all_eq_true.2 fun i hi => h2 i (List.mem_range.1 hi)
  simp [e1, e2, h]

set_option maxHeartbeats 1000000 in
theorem treOk_spec (A : Option Addr) (c : Nat) (L : List TF) (w : World) (hL : RdF w.heap.size w A L) (hn : L.length ≤ 1048576) (ht : ∀ j (h : j < L.length), (L[j]).pa.size ≤ 1048576 ∧ (L[j]).by_.size ≤ 1048576) :
    Calls Tryz.prog 35 #[.slice A L.length c] w fun e w' => e = .returned (.bool (okT L)) ∧ Below w.heap.size w w' := by
  have HL : Hid (RdF w.heap.size w A L) := hL
  have HT : Hid (∀ j (h : j < L.length), (L[j]).pa.size ≤ 1048576 ∧ (L[j]).by_.size ≤ 1048576) := ht
  clear hL ht
  by_cases h60 : 60 < L.length
  · go_enter Tryz.func35, Tryz.ntmps35
    go_wp2
    go_ret
    exact ⟨ret_bool (badN L h60).symm, Below.refl _ _⟩
  go_enter Tryz.func35, Tryz.ntmps35
  go_wp2
  go_loopw [3] (fun iv wr => ∃ j : Nat, j ≤ L.length ∧ iv = .int .i64 j ∧ Hid (∀ i, i < j → g1 L i = true) ∧ Below w.heap.size w wr) (fun i _ => L.length - (intOf i).toNat)
  case atStart => exact ⟨0, Nat.zero_le _, rfl, fun i h => by omega, Below.refl _ _⟩
  case round =>
    obtain ⟨j, hj, rfl, HG, hb⟩ := hrel
    have hsz := hb.size
    by_cases hlt : j < L.length
    · obtain ⟨b, o, rfl, hbl, c1, c2⟩ := (HL.out.below hb (Nat.le_refl _)) j hlt
      have hpx := (HT.out j hlt).1
      have e1 : Hid (paL L j = (L[j]).pa.data.toList) := paL_at L j hlt
      have e2 : Hid (byN L j = (L[j]).by_.size) := byN_at L j hlt
      generalize (L[j]).pa = q at *
      generalize (L[j]).by_ = t at *
      have x1 : ∀ x : Ext wr, x.world.cell? ⟨b, o + j * 2, none⟩ = some (.string q) := fun x => x.cell c1
      have x2 : ∀ x : Ext wr, x.world.cell? ⟨b, o + j * 2 + 1, none⟩ = some (.string t) := fun x => x.cell c2
      have hne : Nonempty (Ext wr) := ⟨⟨wr, Below.refl _ _⟩⟩
      have hs4 : q.size ≤ 4194304 := by omega
      by_cases k1 : q.data.toList = []
      · have z1 : q.toList.isEmpty = true := empty_t q k1
        have HB : Hid (okT L = false) := bad1 L j hlt (by unfold g1; rw [e1.out, k1]; rfl)
        clear k1
        go_wp2
        refine region_ext (by kernel_rfl) (by kernel_rfl) ?_
        repeat (go_big_quiet_step (fail))
        refine wpQuiet_nil ?_
        rintro _ ⟨x, rfl⟩
        have hbx := x.below
        go_wp2
        go_ret
        exact ⟨ret_bool HB.out.symm, hb.trans (hbx.mono (by omega))⟩
      have z1 : q.toList.isEmpty = false := nonempty_f q k1
      cases k2 : pthB q.data.toList
      · have HB : Hid (okT L = false) := bad1 L j hlt (by unfold g1; rw [e1.out, k2]; simp)
        have HP : Hid (pthB q.data.toList = false) := k2
        clear k1 k2
        go_wp2
        refine region_ext (by kernel_rfl) (by kernel_rfl) ?_
        repeat (go_big_quiet_step ((go_at_call 69; exact calls_ext (sok_no q _ hs4 HP.out))))
        refine wpQuiet_nil ?_
        rintro _ ⟨x, rfl⟩
        have hbx := x.below
        go_wp2
        go_ret
        exact ⟨ret_bool HB.out.symm, hb.trans (hbx.mono (by omega))⟩
      have HP : Hid (pthB q.data.toList = true) := k2
      have K1 : Hid (q.data.toList ≠ []) := k1
      clear k1 k2
      by_cases k3 : 6 < t.size
      · have HB : Hid (okT L = false) := bad1 L j hlt (by unfold g1; rw [e2.out]; have : decide (t.size ≤ 6) = false := by (simp; omega)
                                                          rw [this]; simp)
        have y1 : (6 : Int) < (t.size : Int) := by omega
        go_wp2
        refine region_ext (by kernel_rfl) (by kernel_rfl) ?_
        repeat (go_big_quiet_step ((go_at_call 69; exact calls_ext (sok_yes q _ hs4 HP.out))))
        refine wpQuiet_nil ?_
        rintro _ ⟨x, rfl⟩
        have hbx := x.below
        go_wp2
        go_ret
        exact ⟨ret_bool HB.out.symm, hb.trans (hbx.mono (by omega))⟩
      have k3' : t.size ≤ 6 := by omega
      have y1 : decide ((6 : Int) < (t.size : Int)) = false := by rw [decide_eq_false_iff_not]; omega
      by_cases k4 : j = 0
      · have HN : Hid (∀ i, i < 1 → g1 L i = true) := fun i hi => by
          obtain rfl : i = 0 := by omega
          subst k4
          unfold g1; rw [e1.out, e2.out, HP.out]; simp [K1.out, k3']
        subst k4
        simp only [Nat.zero_mul, Nat.add_zero] at x1 x2 c1 c2
        go_wp2
        refine region_ext (by kernel_rfl) (by kernel_rfl) ?_
        repeat (go_big_quiet_step ((go_at_call 69; exact calls_ext (sok_yes q _ hs4 HP.out))))
        refine wpQuiet_nil ?_
        rintro _ ⟨x, rfl⟩
        have hbx := x.below
        go_wp2
        go_roundw
        case rel => exact ⟨1, by omega, rfl, HN, hb.trans (hbx.mono (by omega))⟩
        case measure => simp [intOf]; omega
      obtain ⟨i, rfl⟩ : ∃ i, j = i + 1 := ⟨j - 1, by omega⟩
      obtain ⟨b', o', ea, hbl', d1, d2⟩ := (HL.out.below hb (Nat.le_refl _)) i (by omega)
      simp only [Option.some.injEq, Addr.mk.injEq] at ea
      obtain ⟨rfl, rfl, _⟩ := ea
      have e3 : Hid (paL L i = (L[i]).pa.data.toList) := paL_at L i (by omega)
      generalize (L[i]).pa = q' at *
      have x3 : ∀ x : Ext wr, x.world.cell? ⟨b, o + i * 2, none⟩ = some (.string q') := fun x => x.cell d1
      clear d1 d2 k4
      have y2 : (0 : Int) < ((i + 1 : Nat) : Int) := by omega
      have y3 : (0 : Int) < (i : Int) + 1 := by omega
      have htri := blTri q'.toList q.toList
      have htri2 := blTri q.toList q'.toList
      cases k5 : Op.bytesLess q'.toList q.toList
      · have HB : Hid (okT L = false) := bad1 L (i + 1) hlt (by unfold g1; rw [e1.out, Nat.add_sub_cancel, e3.out, ← ByteArray.toList_eq, ← ByteArray.toList_eq, k5]; simp)
        rw [k5] at htri2
        have HQ : Hid (Op.bytesLess q'.toList q.toList = false) := k5
        go_wp2
        refine region_ext (by kernel_rfl) (by kernel_rfl) ?_
        repeat (go_big_quiet_step ((go_at_call 69; exact calls_ext (sok_yes q _ hs4 HP.out))))
        refine wpQuiet_nil ?_
        rintro _ ⟨x, rfl⟩
        have hbx := x.below
        go_wp2
        go_ret
        exact ⟨ret_bool HB.out.symm, hb.trans (hbx.mono (by omega))⟩
      · have HN : Hid (∀ k, k < i + 2 → g1 L k = true) := fun k hk => by
          by_cases hki : k < i + 1
          · exact HG.out k hki
          · obtain rfl : k = i + 1 := by omega
            unfold g1; rw [e1.out, e2.out, HP.out, Nat.add_sub_cancel, e3.out, ← ByteArray.toList_eq, ← ByteArray.toList_eq, k5]
            have := K1.out
            rw [← ByteArray.toList_eq] at this
            simp [this, k3']
        rw [k5] at htri2
        go_wp2
        refine region_ext (by kernel_rfl) (by kernel_rfl) ?_
        repeat (go_big_quiet_step ((go_at_call 69; exact calls_ext (sok_yes q _ hs4 HP.out))))
        refine wpQuiet_nil ?_
        rintro _ ⟨x, rfl⟩
        have hbx := x.below
        go_wp2
        go_roundw
        case rel => exact ⟨i + 2, by omega, by go_num, HN, hb.trans (hbx.mono (by omega))⟩
        case measure => simp [intOf]; omega
    · obtain rfl : j = L.length := by omega
      go_wp2
      go_loopw [4] (fun iv wr2 => ∃ k : Nat, 1 ≤ k ∧ (k ≤ L.length ∨ k = 1) ∧ iv = .int .i64 k ∧ Hid (∀ i, i < k → g2 L i = true) ∧ Below w.heap.size w wr2) (fun i _ => L.length - (intOf i).toNat)
      case atStart => exact ⟨1, Nat.le_refl _, Or.inr rfl, rfl, fun i h => by obtain rfl : i = 0 := by omega
                                                                              rfl, hb⟩
      case round =>
        obtain ⟨k, hk1, hk2, rfl, H2, hb2⟩ := hrel
        have hsz2 := hb2.size
        by_cases hlt2 : k < L.length
        · obtain ⟨i, rfl⟩ : ∃ i, k = i + 1 := ⟨k - 1, by omega⟩
          obtain ⟨b, o, rfl, hbl, c1, c2⟩ := (HL.out.below hb2 (Nat.le_refl _)) (i + 1) hlt2
          obtain ⟨b', o', ea, hbl', d1, d2⟩ := (HL.out.below hb2 (Nat.le_refl _)) i (by omega)
          simp only [Option.some.injEq, Addr.mk.injEq] at ea
          obtain ⟨rfl, rfl, _⟩ := ea
          have hpx := (HT.out (i + 1) hlt2).1
          have hpy := (HT.out i (by omega)).1
          have e1 : Hid (paL L (i + 1) = (L[i + 1]).pa.data.toList) := paL_at L (i + 1) hlt2
          have e3 : Hid (paL L i = (L[i]).pa.data.toList) := paL_at L i (by omega)
          generalize (L[i + 1]).pa = q at *
          generalize (L[i]).pa = q' at *
          have hne : Nonempty (Ext wr) := ⟨⟨wr, Below.refl _ _⟩⟩
          have x1 : ∀ x : Ext wr, x.world.cell? ⟨b, o + (i + 1) * 2, none⟩ = some (.string q) := fun x => x.cell c1
          have x3 : ∀ x : Ext wr, x.world.cell? ⟨b, o + i * 2, none⟩ = some (.string q') := fun x => x.cell d1
          cases k5 : undB q'.data.toList q.data.toList
          · have HN : Hid (∀ k, k < i + 2 → g2 L k = true) := fun k hk => by
              by_cases hki : k < i + 1
              · exact H2.out k hki
              · obtain rfl : k = i + 1 := by omega
                unfold g2; rw [e1.out, Nat.add_sub_cancel, e3.out, k5]; simp
            have HU : Hid (undB q'.data.toList q.data.toList = false) := k5
            clear k5
            go_wp2
            refine region_ext (by kernel_rfl) (by kernel_rfl) ?_
            repeat (go_big_quiet_step ((go_at_call 70; exact calls_ext (HU.out ▸ under_spec q' q _ hpy hpx))))
            refine wpQuiet_nil ?_
            rintro _ ⟨x, rfl⟩
            have hbx := x.below
            go_wp2
            go_roundw
            case rel => exact ⟨i + 2, by omega, by omega, by go_num, HN, hb2.trans (hbx.mono (by omega))⟩
            case measure => simp [intOf]; omega
          · have HB : Hid (okT L = false) := bad2 L (i + 1) hlt2 (by unfold g2; rw [e1.out, Nat.add_sub_cancel, e3.out, k5]; simp)
            have HU : Hid (undB q'.data.toList q.data.toList = true) := k5
            clear k5
            go_wp2
            refine region_ext (by kernel_rfl) (by kernel_rfl) ?_
            repeat (go_big_quiet_step ((go_at_call 70; exact calls_ext (HU.out ▸ under_spec q' q _ hpy hpx))))
            refine wpQuiet_nil ?_
            rintro _ ⟨x, rfl⟩
            have hbx := x.below
            go_wp2
            go_ret
            exact ⟨ret_bool HB.out.symm, hb2.trans (hbx.mono (by omega))⟩
        · go_wp2
          go_ret
          exact ⟨ret_bool (goodT L (by omega) (fun i hi => HG.out i hi) (fun i hi => H2.out i (by omega))).symm, hb2⟩
end Go.Proofs.YthfffpdkmoclbaaGreatDoor.W
namespace Go.Proofs.YthfffpdkmoclbaaGreatDoor.W
open Go.RowKit Go.Proofs.YthfffpdkmoclbaaGreatDoor.M
set_option linter.unusedVariables false

theorem ownsUpA9 {w : World} {base base' n z : Nat} {e : TypeId} {v : Value} {xs : List Value} (h : w.ownsRow base e z v n xs) (hb : base' ≤ base) : w.ownsRow base' e z v n xs := by
  refine ⟨h.1, ?_⟩
  rcases h.2 with h1 | ⟨g, cap, cur, h1, h2, h3⟩
  · exact .inl h1
  · exact .inr ⟨g, cap, cur, h1, by omega, h3⟩
/-- the texts of a tree, and its sheet's id -/
def texT (L : List TF) : List ByteArray := if okT L = true then layT 3 L else []
def texI (L : List TF) : Nat := if okT L = true then layI 3 L else 0
theorem okT_60 (L : List TF) (h : okT L = true) : L.length ≤ 60 := by
  unfold okT at h
  simp only [Bool.and_eq_true, decide_eq_true_eq] at h
  exact h.1
theorem texT_len (L : List TF) : (texT L).length ≤ 13400000 := by
  unfold texT
  split
  · rename_i h
    exact Nat.le_trans (layT_len 60 3 L (okT_60 L h)) (layN_3 3 (by omega))
  · simp
set_option maxHeartbeats 4000000 in
theorem treLay_spec (A : Option Addr) (c : Nat) (L : List TF) (w : World) (hL : RdF w.heap.size w A L) (hn : L.length ≤ 1048576) (ht : smallF 1048576 L) :
    Calls Tryz.prog 33 #[.slice A L.length c] w fun e w' => (∃ v, e = .returned (.tuple #[v, .int .i64 (texI L)]) ∧ w'.ownsRow w.heap.size 9 1 v (texT L).length (strs (sL (texT L)))) ∧ Below w.heap.size w w' := by
  have hts : ∀ j (h : j < L.length), (L[j]).pa.size ≤ 1048576 ∧ (L[j]).by_.size ≤ 1048576 := fun j h => ht _ (List.getElem_mem h)
  unfold texT texI
  cases hk : okT L
  · have HK : Hid (okT L = false) := hk
    rw [if_neg (by decide), if_neg (by decide)]
    clear hk
    go_enter Tryz.func33, Tryz.ntmps33
    go_wp2_with (go_at_call 35; refine (treOk_spec A c L _ hL hn hts).mono ?_; rw [HK.out]; rintro e w1 ⟨rfl, hb⟩)
    go_ret2
    exact ⟨⟨_, rfl, ownsUpA9 (World.ownsRow_lit w1 #[] 0 (Nat.le_refl _) (by unfold maxLen; omega) rfl) hb.size⟩, hb.alloc hb.size _⟩
  · have HK : Hid (okT L = true) := hk
    have h60 := okT_60 L hk
    rw [if_pos rfl, if_pos rfl]
    obtain ⟨id, hid⟩ : ∃ id : Nat, layI 3 L = id := ⟨_, rfl⟩
    obtain ⟨T, hT⟩ : ∃ T, layT 3 L = T := ⟨_, rfl⟩
    have HC : Hid (∀ w', RdF w'.heap.size w' A L → Calls Tryz.prog 68 #[.slice A L.length c, .int .i64 3] w' fun e w'' => (∃ u, e = .returned (.tuple #[u, .int .i64 id]) ∧ w''.ownsRow w'.heap.size 9 1 u T.length (strs (sL T))) ∧ Below w'.heap.size w' w'') := (show ∀ w', _ → _ from fun w' h => by rw [← hid, ← hT]; exact l4Lay_all 3 (Nat.le_refl _) A c L w' h h60 ht)
    rw [hid, hT]
    clear hk hid hT
    go_enter Tryz.func33, Tryz.ntmps33
    go_wp2_with (first
      | (go_at_call 35; refine (treOk_spec A c L _ hL hn hts).mono ?_; rw [HK.out]; rintro e w1 ⟨rfl, hb⟩; have R1 := hL.up hb)
      | (go_at_call 68; refine (HC.out _ R1).mono ?_; rintro e w2 ⟨⟨u, rfl, ou⟩, hb2⟩))
    go_ret2
    exact ⟨⟨_, rfl, ownsUpA9 ou hb.size⟩, hb.trans (hb2.mono hb.size)⟩
end Go.Proofs.YthfffpdkmoclbaaGreatDoor.W
namespace Go.Proofs.YthfffpdkmoclbaaGreatDoor.W
open Go.RowKit
theorem toList_inj {a b : ByteArray} (h : a.toList = b.toList) : a = b := by
  rw [ByteArray.toList_eq, ByteArray.toList_eq] at h
  exact ByteArray.ext (Array.toList_inj.1 h)
/-- two texts that are not one, as the model asks it -/
theorem bytes_ne {a b : ByteArray} (h : ¬ a = b) : (a.toList == b.toList) = false := by
  simpa using fun e => h (toList_inj e)
end Go.Proofs.YthfffpdkmoclbaaGreatDoor.W
