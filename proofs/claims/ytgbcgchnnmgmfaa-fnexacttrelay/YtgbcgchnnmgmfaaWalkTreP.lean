
/-
  The walk of TreOk of the program: it comes to what the specification's does. Texts of at most 1048576 bytes.
-/
import Derived.Test.YtgbcgchnnmgmfaaWalkLayT
namespace Go.Proofs.Ytgbcgchnnmgmfaa.W
open Go.RowKit Go.Proofs.Ytgbcgchnnmgmfaa.M

theorem bl_nil (q : List UInt8) : Op.bytesLess [] q = !(decide (q = [])) := by cases q <;> rfl
theorem bl_of (p q : List UInt8) (h : Op.bytesLess p q = true) : q ≠ [] := by
  intro e; subst e; cases p <;> simp [Op.bytesLess] at h

set_option maxHeartbeats 1000000 in
theorem treOk_impl (A : Option Addr) (c : Nat) (L : List TF) (w : World) (hL : RdF w.heap.size w A L) (hn : L.length ≤ 1048576) (ht : ∀ j (h : j < L.length), (L[j]).pa.size ≤ 1048576 ∧ (L[j]).by_.size ≤ 1048576) :
    Calls Try.prog 17 #[.slice A L.length c] w fun e w' => e = .returned (.bool (okT L)) ∧ Below w.heap.size w w' := by
  have HL : Hid (RdF w.heap.size w A L) := hL
  have HT : Hid (∀ j (h : j < L.length), (L[j]).pa.size ≤ 1048576 ∧ (L[j]).by_.size ≤ 1048576) := ht
  clear hL ht
  by_cases h60 : 60 < L.length
  · go_enter Try.func17, Try.ntmps17
    go_wp2
    go_ret
    exact ⟨ret_bool (badN L h60).symm, Below.refl _ _⟩
  go_enter Try.func17, Try.ntmps17
  go_wp2
  go_loopw [3, 11] (fun sv iv wr => ∃ (j : Nat) (p : ByteArray), j ≤ L.length ∧ iv = .int .i64 j ∧ sv = .string p ∧ p.size ≤ 1048576 ∧ Hid (p.data.toList = (if j = 0 then [] else paL L (j - 1))) ∧ Hid (∀ i, i < j → g1 L i = true ∧ g2 L i = true) ∧ Below w.heap.size w wr) (fun _ i _ => L.length - (intOf i).toNat)
  case atStart => exact ⟨0, _, Nat.zero_le _, rfl, rfl, by decide, rfl, fun i h => by omega, Below.refl _ _⟩
  case round =>
    obtain ⟨j, p, hj, rfl, rfl, hps, EP, HG, hb⟩ := hrel
    have hsz := hb.size
    by_cases hlt : j < L.length
    · obtain ⟨b, o, rfl, hbl, c1, c2⟩ := (HL.out.below hb (Nat.le_refl _)) j hlt
      have hpx := (HT.out j hlt).1
      have e1 : Hid (paL L j = (L[j]).pa.data.toList) := paL_at L j hlt
      have e2 : Hid (byN L j = (L[j]).by_.size) := byN_at L j hlt
      generalize (L[j]).pa = q at *
      generalize (L[j]).by_ = t at *
      have hs4 : q.size ≤ 4194304 := by omega
      cases k2 : pthB q.data.toList
      · have HB : Hid (okT L = false) := bad1 L j hlt (by unfold g1; rw [e1.out, k2]; simp)
        have hq : Calls Try.prog 28 #[.string q] (wr.alloc (.cells #[.string q, .string t] 39)) fun e w' => e = .returned (.bool false) ∧ Below (wr.alloc (.cells #[.string q, .string t] 39)).heap.size (wr.alloc (.cells #[.string q, .string t] 39)) w' := by
          have := pthOk_impl q (wr.alloc (.cells #[.string q, .string t] 39)) hs4; rwa [k2] at this
        clear k2
        go_wp2_with (go_at_call 28; refine hq.mono ?_; rintro e w1 ⟨rfl, hb1⟩)
        go_ret
        exact ⟨ret_bool HB.out.symm, (hb.alloc (by omega) _).trans (hb1.mono (by simp; omega))⟩
      have hq : Calls Try.prog 28 #[.string q] (wr.alloc (.cells #[.string q, .string t] 39)) fun e w' => e = .returned (.bool true) ∧ Below (wr.alloc (.cells #[.string q, .string t] 39)).heap.size (wr.alloc (.cells #[.string q, .string t] 39)) w' := by
        have := pthOk_impl q (wr.alloc (.cells #[.string q, .string t] 39)) hs4; rwa [k2] at this
      have htri := blTri q.toList p.toList
      have hgj : g1 L j = (decide (q.data.toList ≠ []) && (decide (t.size ≤ 6) && (decide (j = 0) || Op.bytesLess (paL L (j - 1)) q.data.toList))) := by
        unfold g1; rw [e1.out, e2.out, k2]; simp
      have GJ : Hid (g1 L j = _) := hgj
      clear k2 hgj
      cases k5 : Op.bytesLess p.toList q.toList
      · have HB : Hid (okT L = false) := bad1 L j hlt (by
          rw [GJ.out]
          rw [ByteArray.toList_eq, ByteArray.toList_eq, EP.out] at k5
          by_cases j0 : j = 0
          · rw [if_pos j0, bl_nil] at k5
            have : q.data.toList = [] := by simpa using k5
            simp [this]
          · rw [if_neg j0] at k5
            simp [j0, k5])
        rw [k5] at htri
        clear k5
        go_wp2_with (go_at_call 28; refine hq.mono ?_; rintro e w1 ⟨rfl, hb1⟩; have d1 : w1.cell? ⟨wr.heap.size, 0, none⟩ = some (.string q) := (hb1.cell (p := ⟨wr.heap.size, _, none⟩) (by simp)).trans (by simp); have d2 : w1.cell? ⟨wr.heap.size, 1, none⟩ = some (.string t) := (hb1.cell (p := ⟨wr.heap.size, _, none⟩) (by simp)).trans (by simp); have hz1 := hb1.size; simp at hz1; replace hb1 := (hb.alloc (by omega) (.cells #[.string q, .string t] 39)).trans (hb1.mono (by simp; omega)))
        go_ret
        exact ⟨ret_bool HB.out.symm, hb1⟩
      have hqn : q.data.toList ≠ [] := by rw [← ByteArray.toList_eq]; exact bl_of _ _ k5
      by_cases k3 : 6 < t.size
      · have HB : Hid (okT L = false) := bad1 L j hlt (by
          rw [GJ.out]
          have : decide (t.size ≤ 6) = false := by (simp; omega)
          rw [this]; simp)
        have y1 : (6 : Int) < (t.size : Int) := by omega
        rw [k5] at htri
        have K5 : Hid (Op.bytesLess p.toList q.toList = true) := k5
        clear k5 hqn
        go_wp2_with (go_at_call 28; refine hq.mono ?_; rintro e w1 ⟨rfl, hb1⟩; have d1 : w1.cell? ⟨wr.heap.size, 0, none⟩ = some (.string q) := (hb1.cell (p := ⟨wr.heap.size, _, none⟩) (by simp)).trans (by simp); have d2 : w1.cell? ⟨wr.heap.size, 1, none⟩ = some (.string t) := (hb1.cell (p := ⟨wr.heap.size, _, none⟩) (by simp)).trans (by simp); have hz1 := hb1.size; simp at hz1; replace hb1 := (hb.alloc (by omega) (.cells #[.string q, .string t] 39)).trans (hb1.mono (by simp; omega)))
        go_ret
        exact ⟨ret_bool HB.out.symm, hb1⟩
      have y1 : decide ((6 : Int) < (t.size : Int)) = false := by rw [decide_eq_false_iff_not]; omega
      have G1 : Hid (g1 L j = true) := by
        show _ = _
        rw [GJ.out]
        have h6 : t.size ≤ 6 := by omega
        by_cases j0 : j = 0
        · simp [hqn, h6, j0]
        · rw [ByteArray.toList_eq, ByteArray.toList_eq, EP.out, if_neg j0] at k5
          simp [hqn, h6, k5]
      rw [k5] at htri
      have K5 : Hid (Op.bytesLess p.toList q.toList = true) := k5
      have HQ : Hid (q.data.toList ≠ []) := hqn
      clear k5 hqn
      by_cases k6 : p.data.toList = []
      · have j0 : j = 0 := by
          by_cases j0 : j = 0
          · exact j0
          · have h1 := (HG.out (j - 1) (by omega)).1
            have h2 := EP.out
            rw [if_neg j0, k6] at h2
            unfold g1 at h1; rw [← h2] at h1; simp at h1
        have z1 : p.toList.isEmpty = true := empty_t p k6
        have HN : Hid (∀ i, i < j + 1 → g1 L i = true ∧ g2 L i = true) := fun i hi => by
          obtain rfl : i = j := by omega
          exact ⟨G1.out, by unfold g2; simp [j0]⟩
        have HE : Hid (q.data.toList = (if j + 1 = 0 then [] else paL L (j + 1 - 1))) := by
          show _ = _
          rw [if_neg (by omega), Nat.add_sub_cancel, e1.out]
        clear k6 j0
        go_wp2_with (go_at_call 28; refine hq.mono ?_; rintro e w1 ⟨rfl, hb1⟩; have d1 : w1.cell? ⟨wr.heap.size, 0, none⟩ = some (.string q) := (hb1.cell (p := ⟨wr.heap.size, _, none⟩) (by simp)).trans (by simp); have d2 : w1.cell? ⟨wr.heap.size, 1, none⟩ = some (.string t) := (hb1.cell (p := ⟨wr.heap.size, _, none⟩) (by simp)).trans (by simp); have hz1 := hb1.size; simp at hz1; replace hb1 := (hb.alloc (by omega) (.cells #[.string q, .string t] 39)).trans (hb1.mono (by simp; omega)))
        go_roundw
        case rel => exact ⟨j + 1, q, by omega, by go_num, rfl, hpx, HE, HN, hb1⟩
        case measure => simp [intOf]; omega
      have z1 : p.toList.isEmpty = false := nonempty_f p k6
      have hj0 : j ≠ 0 := fun j0 => k6 (by rw [EP.out, if_pos j0])
      have e4 : Hid (p.data.toList = paL L (j - 1)) := by show _ = _; rw [EP.out, if_neg hj0]
      clear k6
      cases k7 : undB p.data.toList q.data.toList
      · have HN : Hid (∀ i, i < j + 1 → g1 L i = true ∧ g2 L i = true) := fun i hi => by
          by_cases hij : i < j
          · exact HG.out i hij
          · obtain rfl : i = j := by omega
            exact ⟨G1.out, by unfold g2; rw [← e4.out, e1.out, k7]; simp⟩
        have HE : Hid (q.data.toList = (if j + 1 = 0 then [] else paL L (j + 1 - 1))) := by
          show _ = _
          rw [if_neg (by omega), Nat.add_sub_cancel, e1.out]
        have HU : Hid (undB p.data.toList q.data.toList = false) := k7
        clear k7
        go_wp2_with (first | (go_at_call 28; refine hq.mono ?_; rintro e w1 ⟨rfl, hb1⟩; have d1 : w1.cell? ⟨wr.heap.size, 0, none⟩ = some (.string q) := (hb1.cell (p := ⟨wr.heap.size, _, none⟩) (by simp)).trans (by simp); have d2 : w1.cell? ⟨wr.heap.size, 1, none⟩ = some (.string t) := (hb1.cell (p := ⟨wr.heap.size, _, none⟩) (by simp)).trans (by simp); have hz1 := hb1.size; simp at hz1; replace hb1 := (hb.alloc (by omega) (.cells #[.string q, .string t] 39)).trans (hb1.mono (by simp; omega))) | (go_at_call 29; refine (under_impl p q _ hps hpx).mono ?_; rw [HU.out]; rintro e w3 ⟨rfl, hb3⟩; replace d1 := (hb3.cell (p := ⟨wr.heap.size, _, none⟩) (by show wr.heap.size < _; omega)).trans d1; have hb4 := hb1.trans (hb3.mono hb1.size)))
        go_roundw
        case rel => exact ⟨j + 1, q, by omega, by go_num, rfl, hpx, HE, HN, hb4⟩
        case measure => simp [intOf]; omega
      · have HB : Hid (okT L = false) := bad2 L j hlt (by unfold g2; rw [← e4.out, e1.out, k7]; simp [hj0])
        have HU : Hid (undB p.data.toList q.data.toList = true) := k7
        clear k7
        go_wp2_with (first | (go_at_call 28; refine hq.mono ?_; rintro e w1 ⟨rfl, hb1⟩; have d1 : w1.cell? ⟨wr.heap.size, 0, none⟩ = some (.string q) := (hb1.cell (p := ⟨wr.heap.size, _, none⟩) (by simp)).trans (by simp); have d2 : w1.cell? ⟨wr.heap.size, 1, none⟩ = some (.string t) := (hb1.cell (p := ⟨wr.heap.size, _, none⟩) (by simp)).trans (by simp); have hz1 := hb1.size; simp at hz1; replace hb1 := (hb.alloc (by omega) (.cells #[.string q, .string t] 39)).trans (hb1.mono (by simp; omega))) | (go_at_call 29; refine (under_impl p q _ hps hpx).mono ?_; rw [HU.out]; rintro e w3 ⟨rfl, hb3⟩; have hb4 := hb1.trans (hb3.mono hb1.size)))
        go_ret
        exact ⟨ret_bool HB.out.symm, hb4⟩
    · go_wp2
      go_ret
      obtain rfl : j = L.length := by omega
      exact ⟨ret_bool (goodT L (by omega) (fun i hi => (HG.out i hi).1) (fun i hi => (HG.out i hi).2)).symm, hb⟩
end Go.Proofs.Ytgbcgchnnmgmfaa.W
