/-
  The walk of a path text's 'ok' and of 'PthOk' of the program: each answers whether the text is a path; nothing old is written. Texts of at most 4194304 bytes.
  The walks of the specification's 'l1Cut' and 'PthOk'. Texts of at most 4194304 bytes.
  Plain mathematics of a path's first name, its rest, what lies under it, and of joining. No condition.
-/
import Derived.Test.YthfffpdkmoclbaaGreatDoorMg03
import Derived.RangeFuncFrom
import Derived.Test.YthfffpdkmoclbaaGreatDoorMg02
import Derived.OwnWalk
import Derived.Maps.AppendAt
import Derived.Laws.BytesArg
import Derived.RangeFuncBox
namespace Go.Proofs.YthfffpdkmoclbaaGreatDoor.W
open Go.RowKit Go.Shelf Go.Proofs.YthfffpdkmoclbaaGreatDoor.M
attribute [local go_sem] Oper.semAt_some

theorem not_all_snoc (pre : List (List UInt8)) (x : List UInt8) (h : namB x = false) (h2 : (pre ++ [x]).all namB = true) : False := by
  simp [h] at h2
theorem all_snoc (pre : List (List UInt8)) (x : List UInt8) (h0 : pre.all namB = true) (h : namB x = true) : (pre ++ [x]).all namB = true := by
  rw [List.all_append, h0]; simp [h]
theorem cellOther {W : World} {n : Nat} {v : Value} (h : W.cell? ⟨n, 0, none⟩ = some v) (u : Value) : (W.setCell ⟨n + 1, 0, none⟩ u).cell? ⟨n, 0, none⟩ = some v := by
  rw [World.cell?_setCell_other _ _ _ _ (by simp)]; exact h
theorem cellSame {W : World} {a : Addr} {v : Value} (h : W.cell? a = some v) (u : Value) : (W.setCell a u).cell? a = some u :=
  World.cell?_setCell_same' _ _ _ (by rw [h]; rfl)
theorem cellNo {W : World} {n : Nat} (h : W.cell? ⟨n, 0, none⟩ = some (.bool false)) (u : Value) : ((W.setCell ⟨n + 1, 0, none⟩ u).setCell ⟨n, 0, none⟩ (.bool false)).cell? ⟨n, 0, none⟩ = some (.bool false) :=
  cellSame (cellOther h u) _
theorem pth_stop (l : List UInt8) (pre : List (List UInt8)) (hp : pre <+: nms l) (hno : ¬ (pre.length ≤ 3 ∧ pre.all namB = true)) : pthB l = false := by
  rw [Bool.eq_false_iff]; intro h
  unfold pthB at h
  rw [Bool.and_eq_true, decide_eq_true_iff] at h
  exact hno ⟨Nat.le_trans hp.length_le h.1, List.all_eq_true.2 (fun y hy => List.all_eq_true.1 h.2 y (hp.subset hy))⟩
theorem nam_no (x : List UInt8) (h : namB x = false) (w : World) :
    Calls Tryz.prog 57 #[.string ⟨x.toArray⟩] w fun e w' => e = .returned (.bool false) ∧ w = w' := by
  have := nam_all ⟨x.toArray⟩ w; rwa [show namB (ByteArray.mk x.toArray).data.toList = false from h] at this
theorem nam_yes (x : List UInt8) (h : namB x = true) (w : World) :
    Calls Tryz.prog 57 #[.string ⟨x.toArray⟩] w fun e w' => e = .returned (.bool true) ∧ w = w' := by
  have := nam_all ⟨x.toArray⟩ w; rwa [show namB (ByteArray.mk x.toArray).data.toList = true from h] at this

set_option maxRecDepth 100000 in
set_option maxHeartbeats 2000000 in
theorem ok_any (s : ByteArray) (w : World) (hs : s.size ≤ 4194304) :
    Calls Tryz.prog 120 #[.string s] w fun e w' => e = .returned (.bool (pthB s.data.toList)) ∧ Below w.heap.size w w' := by
  refine (callsIn_wide (n := 6)).1 ?_
  refine callsIn_of_wp_marks Tryz.func120 rfl trivial ?_ rfl
  simp only [Tryz.ntmps120, List.size_toArray, List.length_cons, List.length_nil, Nat.reduceAdd, Nat.reduceSub, Array.replicate_succ, Array.replicate_zero, List.push_toArray, List.append_toArray, List.nil_append, List.cons_append]
  gi_wp2_with (refine ⟨trivial, ?_⟩; gi_at_call 147; refine (callsIn_wide.2 (names_any _ _)).mono ?_; rintro e w' ⟨rfl, rfl⟩)
  have c0 := cellNew w (.bool false) 4
  have c1 := cellNew (w.alloc (.cells #[.bool false] 4)) (.int .i64 0) 3
  have c2 := cellNew ((w.alloc (.cells #[.bool false] 4)).alloc (.cells #[.int .i64 0] 3)) (.string s) 162
  simp only [World.size_alloc] at c1 c2
  have hB0 : Below w.heap.size w (((w.alloc (.cells #[.bool false] 4)).alloc (.cells #[.int .i64 0] 3)).alloc (.cells #[.string s] 162)) := (((Below.refl _ w).alloc (Nat.le_refl _) _).alloc (by simp) _).alloc (by simp; omega) _
  refine wpIn_rangeFunc_ownF (α := List UInt8) (encs := fun x => #[.string ⟨x.toArray⟩]) (Kp := KeepsWalks) rfl (by omega) (gf := 164) (lb := #[.pointer (some ⟨w.heap.size + 1 + 1, 0, none⟩)]) rfl trivial (enters_of Tryz.func164 (by kernel_rfl) rfl)
    (names_stops _ (by omega) (w.heap.size + 1 + 1) s hs _ (by simp) c2.1) walksK_t walksK_b (Below.refl _ _) (fun _ => rfl)
    (fun pre W => (pre.length ≤ 3 ∧ pre.all namB = true ∧ W.cell? ⟨w.heap.size, 0, none⟩ = some (.bool false) ∧ W.frozen? ⟨w.heap.size, 0, none⟩ = false ∧ W.cell? ⟨w.heap.size + 1, 0, none⟩ = some (.int .i64 pre.length) ∧ W.frozen? ⟨w.heap.size + 1, 0, none⟩ = false) ∧ Below w.heap.size w W)
    (fun c pre W => (c = .ret ∧ ¬ (pre.length ≤ 3 ∧ pre.all namB = true) ∧ W.cell? ⟨w.heap.size, 0, none⟩ = some (.bool false)) ∧ Below w.heap.size w W)
    (OwnFrom.and (Own.from (fun s A B row hs hg hr => ⟨hs.1, hs.2.1, cell_kept hs.2.2.1 hg hr, (frozen_kept hs.2.2.1 hg hr).trans hs.2.2.2.1, cell_kept hs.2.2.2.2.1 hg hr, (frozen_kept hs.2.2.2.2.1 hg hr).trans hs.2.2.2.2.2⟩) _) (ownFrom_below (Nat.le_refl _) (by simp; omega)))
    (fun c => OwnFrom.and (Own.from (fun s A B row hs hg hr => ⟨hs.1, hs.2.1, cell_kept hs.2.2 hg hr⟩) _) (ownFrom_below (Nat.le_refl _) (by simp; omega)))
    ⟨⟨by simp, rfl, cellLater _ (cellLater _ c0.1), frozenLater _ (cellLater _ c0.1) (frozenLater _ c0.1 c0.2), cellLater _ c1.1, frozenLater _ c1.1 c1.2⟩, hB0⟩
    (fun x => { tmps := #[.string s, undef, .pointer (some ⟨w.heap.size, 0, none⟩), .pointer (some ⟨w.heap.size + 1, 0, none⟩), .string ⟨x.toArray⟩, .string s, .func (.func 164) #[] #[.pointer (some ⟨w.heap.size + 1 + 1, 0, none⟩)], .string ⟨x.toArray⟩, undef, undef, undef, undef, undef, undef, undef, undef, undef], defers := [] }) ?assign ?body ?done ?stop
  case assign =>
    intro l x W K hK
    gi_wp2
    exact hK
  case body =>
    rintro l pre x W ⟨⟨hl, hall, hc0, hf0, hc1, hf1⟩, hB⟩ _
    have HALL : Hid (pre.all namB = true) := hall
    clear hall
    by_cases h3 : pre.length + 1 ≤ 3
    · cases hn : namB x
      · have HN : Hid (namB x = false) := hn
        clear hn
        gi_wp2_with (refine ⟨trivial, ?_⟩; gi_at_call 57; refine (CallsIn.inRound l (callsIn_wide.2 (nam_no x HN.out _))).mono ?_; rintro e w' ⟨rfl, rfl⟩)
        exact ⟨(KeepsOthers.setCell _ _ _).trans (KeepsOthers.setCell _ _ _), ⟨rfl, fun h => not_all_snoc pre x HN.out h.2, cellNo hc0 _⟩, (hB.setCell (p := ⟨w.heap.size + 1, 0, none⟩) (by simp) _).setCell (p := ⟨w.heap.size, 0, none⟩) (Nat.le_refl _) _⟩
      · have HN : Hid (namB x = true) := hn
        clear hn
        gi_wp2_with (refine ⟨trivial, ?_⟩; gi_at_call 57; refine (CallsIn.inRound l (callsIn_wide.2 (nam_yes x HN.out _))).mono ?_; rintro e w' ⟨rfl, rfl⟩)
        exact ⟨KeepsOthers.setCell _ _ _, KeepsWalks.setCell _ _ _, ⟨by simpa using h3, all_snoc pre x HALL.out HN.out, cellOther hc0 _, by rw [World.frozen?_setCell]; exact hf0, by rw [cellSame hc1 _]; simp, by rw [World.frozen?_setCell]; exact hf1⟩, hB.setCell (p := ⟨w.heap.size + 1, 0, none⟩) (by simp) _⟩
    · gi_wp2
      refine ⟨trivial, ?_⟩
      gi_wp2
      exact ⟨(KeepsOthers.setCell _ _ _).trans (KeepsOthers.setCell _ _ _), ⟨rfl, fun h => h3 (by simpa using h.1), cellNo hc0 _⟩, (hB.setCell (p := ⟨w.heap.size + 1, 0, none⟩) (by simp) _).setCell (p := ⟨w.heap.size, 0, none⟩) (Nat.le_refl _) _⟩
  case done =>
    rintro D ys W hD rfl ⟨⟨hl, hall, hc0, hf0, hc1, hf1⟩, hB⟩ hK
    have HALL : Hid ((nms s.data.toList).all namB = true) := hall
    clear hall
    gi_wp2
    have hK' := (KeepsOthers.setCell W ⟨w.heap.size, 0, none⟩ (.bool true)).same D _ hK rfl
    refine ⟨by simp, .inl ⟨_, _, rfl, run_takeDeferred hK', ?_⟩⟩
    have hc5 := cell_kept (cellSame hc0 (.bool true)) (grownBy_putObj' _ D (.deferred none)) (fun r e => by cases e; exact ⟨_, hK', rfl⟩)
    refine ⟨.bool true, ?_, by unfold pthB; rw [HALL.out, decide_eq_true hl]; rfl, (hB.setCell (p := ⟨w.heap.size, 0, none⟩) (Nat.le_refl _) _).trans (belowK_b (w := w) (Nat.le_refl _) _ D _ _ (by simp at hD; omega) hK' rfl rfl)⟩
    simp [results, Tryz.f120, go_sem, hc5]
  case stop =>
    rintro D c pre W hD hpre ⟨⟨rfl, hno, hcr⟩, hB⟩ hK
    gi_wp2
    refine ⟨by simp, .inl ⟨_, _, rfl, run_takeDeferred hK, ?_⟩⟩
    have hc5 := cell_kept hcr (grownBy_putObj' _ D (.deferred none)) (fun r e => by cases e; exact ⟨_, hK, rfl⟩)
    refine ⟨.bool false, ?_, ?_, hB.trans (belowK_b (w := w) (Nat.le_refl _) W D _ _ (by simp at hD; omega) hK rfl rfl)⟩
    · simp [results, Tryz.f120, go_sem, hc5]
    · rw [pth_stop _ pre hpre hno]

set_option maxHeartbeats 400000 in
theorem pthOk_impl (s : ByteArray) (w : World) (hs : s.size ≤ 4194304) :
    Calls Tryz.prog 97 #[.string s] w fun e w' => e = .returned (.bool (pthB s.data.toList)) ∧ Below w.heap.size w w' := by
  go_enter Tryz.func97, Tryz.ntmps97
  go_wp2_with (go_at_call 120; refine (ok_any _ _ hs).mono ?_; rintro e w' ⟨rfl, hb⟩)
  go_ret
  exact ⟨rfl, hb⟩
end Go.Proofs.YthfffpdkmoclbaaGreatDoor.W
namespace Go.Proofs.YthfffpdkmoclbaaGreatDoor.W
open Go.RowKit Go.Proofs.YthfffpdkmoclbaaGreatDoor.M

theorem info9 : (Tryz.prog.info? 9).map (fun i => (i.zero, i.size, i.bytes)) = some (some (.string ByteArray.empty), 1, 16) := by kernel_rfl
theorem conv1c (w : World) (c : UInt8) : (convert 22 9 (.slice (some ⟨w.heap.size, 0, none⟩) 1 1)).run Tryz.prog (w.alloc (.cells #[.int .u8 (c.toNat : Int)] 5)) = .ok (.string ⟨#[c]⟩) (w.alloc (.cells #[.int .u8 (c.toNat : Int)] 5)) := by
  have h := run_convert_bytes_arg (P := Tryz.prog) (w.alloc (.cells #[.int .u8 (c.toNat : Int)] 5)) 22 5 Tryz.underlying22 Tryz.underlying5 w.heap.size 0 1 1 [(c.toNat : Int)] rfl (fun i hi => by
    obtain rfl : i = 0 := by omega
    simp) 9 Tryz.underlying9
  have e : strOfNums [(c.toNat : Int)] = ⟨#[c]⟩ := by apply ByteArray.ext; simp [strOfNums]
  rw [h, e]
/-- the texts of a list, as a row of strings -/
def strs (L : List (List UInt8)) : List Value := L.map fun x => Value.string ⟨x.toArray⟩
theorem strs_length (L : List (List UInt8)) : (strs L).length = L.length := by simp [strs]
theorem strs_snoc (L : List (List UInt8)) (x : List UInt8) : strs (L ++ [x]) = strs L ++ [.string ⟨x.toArray⟩] := by simp [strs]

set_option maxHeartbeats 800000 in
theorem l1Cut_any (s : ByteArray) (w : World) (hs : s.size ≤ 4194304) :
    Calls Tryz.prog 105 #[.string s] w fun e w' => ∃ g cap, e = .returned (.slice (some ⟨g, 0, none⟩) (spl s.data.toList).length cap) ∧ w'.ownsRow w.heap.size 9 1 (.slice (some ⟨g, 0, none⟩) (spl s.data.toList).length cap) (spl s.data.toList).length (strs (spl s.data.toList)) ∧ Below w.heap.size w w' := by
  obtain ⟨i0, hi, hz0, hz1, hz2⟩ := info_parts info9
  have kc := conv1c
  go_enter Tryz.func105, Tryz.ntmps105
  go_wp2
  go_loopw [3, 4, 5] (fun v o i wr => ∃ (k g cap : Nat) (L : List (List UInt8)) (x : List UInt8), k ≤ s.size ∧ i = .int .i64 k ∧ o = .string ⟨x.toArray⟩ ∧ v = .slice (some ⟨g, 0, none⟩) L.length cap ∧ x.length ≤ k ∧ L.length ≤ k ∧ Hid (spl (s.data.toList.take k) = L ++ [x]) ∧ wr.ownsRow w.heap.size 9 1 v L.length (strs L) ∧ Below w.heap.size w wr)
    (fun _ _ i _ => s.size - (intOf i).toNat)
  case atStart =>
    exact ⟨0, w.heap.size, 0, [], [], Nat.zero_le _, rfl, rfl, rfl, Nat.zero_le _, Nat.zero_le _, rfl, World.ownsRow_lit w #[] 0 (Nat.le_refl _) (by unfold maxLen; omega) rfl, (Below.refl _ _).alloc (Nat.le_refl _) _⟩
  case round =>
    obtain ⟨k, g, cap, L, x, hk, rfl, rfl, rfl, hx, hL, HS, hown, hnx⟩ := hrel
    have hsize := hnx.size
    by_cases hlt : k < s.size
    · cases hc : (((s[k].toNat : Int)) == 47)
      · go_wp2
        go_roundw
        case rel =>
          exact ⟨k + 1, g, cap, L, x ++ [s[k]], by omega, by go_num, by rw [append_mk], rfl, by simp; omega, by omega, spl_next_no s k hlt L x HS.out hc, hown.alloc _, hnx.alloc hsize _⟩
        case measure => simp [intOf]; omega
      · go_wp2_with (at_builtin; refine wpList_append_own _ rfl _ _ 51 rfl w.heap.size 9 i0 (.string ByteArray.empty) 1 16 Tryz.underlying51 hi hz0 hz1 hz2 rfl (by decide) _ _ _ rfl (hown.alloc _) ⟨wr.heap.size, 0, none⟩ 1 1 [.string ⟨x.toArray⟩] rfl rfl (cell_one_new _ _ _) (fun u hu => by simp at hu; subst hu; rfl) (by unfold maxLen; omega) (by omega) (by simp; omega) ?_; intro v' w3 hown' hgrow3 hnil3)
        go_roundw
        case rel =>
          obtain ⟨g3, cap3, hv3⟩ := ownsRow_succ hown'
          subst hv3
          exact ⟨k + 1, g3, cap3, L ++ [x], [], by omega, by go_num, rfl, by simp, by simp, by simp; omega, spl_next_yes s k hlt L x HS.out hc, by rw [strs_snoc, List.length_append]; exact hown', (hnx.alloc hsize _).grown hgrow3 (by simp; omega) (fun q hq => (hown.lt q hq).1)⟩
        case measure => simp [intOf]; omega
    · go_wp2_with (at_builtin; refine wpList_append_own _ rfl _ _ 51 rfl w.heap.size 9 i0 (.string ByteArray.empty) 1 16 Tryz.underlying51 hi hz0 hz1 hz2 rfl (by decide) _ _ _ rfl (hown.alloc _) ⟨wr.heap.size, 0, none⟩ 1 1 [.string ⟨x.toArray⟩] rfl rfl (cell_one_new _ _ _) (fun u hu => by simp at hu; subst hu; rfl) (by unfold maxLen; omega) (by omega) (by simp; omega) ?_; intro v' w3 hown' hgrow3 hnil3)
      go_ret
      obtain ⟨g3, cap3, hv3⟩ := ownsRow_succ hown'
      subst hv3
      have e : spl s.data.toList = L ++ [x] := by
        have := HS.out; rwa [List.take_of_length_le (by simp; omega)] at this
      rw [e, strs_snoc, List.length_append]
      exact ⟨g3, cap3, rfl, hown', (hnx.alloc hsize _).grown hgrow3 (by simp; omega) (fun q hq => (hown.lt q hq).1)⟩

theorem nams_no (x : List UInt8) (h : namB x = false) (w : World) (hs : x.length ≤ 4194304) :
    Calls Tryz.prog 106 #[.string ⟨x.toArray⟩] w fun e w' => e = .returned (.bool false) ∧ w = w' := by
  have := nam_spec ⟨x.toArray⟩ w (by rw [size_mk]; unfold maxLen; omega); rwa [show namB (ByteArray.mk x.toArray).data.toList = false from h] at this
theorem nams_yes (x : List UInt8) (h : namB x = true) (w : World) (hs : x.length ≤ 4194304) :
    Calls Tryz.prog 106 #[.string ⟨x.toArray⟩] w fun e w' => e = .returned (.bool true) ∧ w = w' := by
  have := nam_spec ⟨x.toArray⟩ w (by rw [size_mk]; unfold maxLen; omega); rwa [show namB (ByteArray.mk x.toArray).data.toList = true from h] at this
theorem all_no (L : List (List UInt8)) (x : List UInt8) (hm : x ∈ L) (h : namB x = false) : L.all namB = false := by
  rw [Bool.eq_false_iff]; intro ha; rw [List.all_eq_true.1 ha x hm] at h; cases h
theorem strs_get (L : List (List UInt8)) (k : Nat) (h : k < L.length) : (strs L)[k]? = some (.string ⟨(L[k]).toArray⟩) := by
  simp [strs, h]

set_option maxHeartbeats 800000 in
theorem pthOk_spec (s : ByteArray) (w : World) (hs : s.size ≤ 4194304) :
    Calls Tryz.prog 69 #[.string s] w fun e w' => e = .returned (.bool (pthB s.data.toList)) ∧ Below w.heap.size w w' := by
  by_cases h0 : s.data.toList = []
  · have he : s.toList.isEmpty = true := by rw [isEmpty_list, h0]; rfl
    rw [h0, pth_nil]
    clear h0
    go_enter Tryz.func69, Tryz.ntmps69
    go_wp2
    go_ret
    exact ⟨rfl, Below.refl _ _⟩
  · have he : s.toList.isEmpty = false := by rw [isEmpty_list]; simpa using h0
    by_cases h12 : 12 < s.size
    · rw [pth_long _ (by simpa using h12)]
      clear h0
      go_enter Tryz.func69, Tryz.ntmps69
      go_wp2
      go_ret
      exact ⟨rfl, Below.refl _ _⟩
    · have HP : Hid (pthB s.data.toList = ((spl s.data.toList).all namB && decide ((spl s.data.toList).length ≤ 3))) := pth_of _ h0
      have hsl : (spl s.data.toList).length ≤ 13 := by have := spl_len s.data.toList; simp at this; omega
      have HL : Hid (∀ x ∈ spl s.data.toList, x.length ≤ 4194304) := fun x hx => by have := spl_mem_len s.data.toList x hx; simp at this; omega
      clear h0
      go_enter Tryz.func69, Tryz.ntmps69
      go_wp2_with (go_at_call 105; refine (l1Cut_any _ _ hs).mono ?_; rintro e w1 ⟨g, cap, rfl, hown, hb1⟩)
      obtain ⟨L, hLe⟩ : ∃ L, L = spl s.data.toList := ⟨_, rfl⟩
      rw [← hLe] at HP HL hown hsl ⊢
      clear hLe
      go_loop [4] (fun i => ∃ k : Nat, k ≤ L.length ∧ i = .int .i64 k ∧ Hid ((L.take k).all namB = true)) (fun i => L.length - (intOf i).toNat)
      case atStart => exact ⟨0, Nat.zero_le _, rfl, rfl⟩
      case round =>
        obtain ⟨k, hk, rfl, HA⟩ := hrel
        by_cases hlt : k < L.length
        · have hcell : w1.cell? ⟨g, k, none⟩ = some (.string ⟨(L[k]).toArray⟩) := by rw [hown.cellAt k (by omega), strs_get L k hlt]
          have hx : (L[k]).length ≤ 4194304 := HL.out _ (List.getElem_mem hlt)
          obtain ⟨x, hxe⟩ : ∃ x, x = L[k] := ⟨_, rfl⟩
          have HX : Hid (L.take (k + 1) = L.take k ++ [x]) := by rw [hxe]; exact List.take_succ_eq_append_getElem hlt
          have HM : Hid (x ∈ L) := by rw [hxe]; exact List.getElem_mem hlt
          rw [← hxe] at hcell hx
          clear hxe
          cases hn : namB x
          · have HN : Hid (namB x = false) := hn
            clear hn
            go_wp2_with (go_at_call 106; refine (nams_no x HN.out _ hx).mono ?_; rintro e w' ⟨rfl, rfl⟩)
            go_ret
            exact ⟨ret_bool (by rw [HP.out, all_no L x HM.out HN.out]; rfl), hb1⟩
          · have HN : Hid (namB x = true) := hn
            clear hn
            go_wp2_with (go_at_call 106; refine (nams_yes x HN.out _ hx).mono ?_; rintro e w' ⟨rfl, rfl⟩)
            go_round
            case rel => exact ⟨k + 1, by omega, by go_num, by show (L.take (k + 1)).all namB = true; rw [HX.out, List.all_append, HA.out]; simp [HN.out]⟩
            case measure => simp [intOf]; omega
        · go_wp2
          go_ret
          refine ⟨ret_bool ?_, hb1⟩
          have e := HA.out
          rw [List.take_of_length_le (by omega)] at e
          rw [HP.out, e]
          simp
          try omega
end Go.Proofs.YthfffpdkmoclbaaGreatDoor.W
namespace Go.Proofs.YthfffpdkmoclbaaGreatDoor.M
open Go.RowKit

def firstL (l : List UInt8) : List UInt8 := if pthB l then bef l else []
def restL (l : List UInt8) : List UInt8 := if pthB l then aft l else []
/-- the second path is the first one, or lies under it -/
def undB (a b : List UInt8) : Bool := pthB a && pthB b && (decide (a = []) || decide (a = b) || (a ++ [47]).isPrefixOf b)
/-- two paths, one behind the other -/
def joinL (a b : List UInt8) : List UInt8 :=
  if pthB a = true ∧ pthB b = true then (if a = [] then b else if b = [] then a else if pthB (a ++ 47 :: b) then a ++ 47 :: b else []) else []

theorem spl_head (l : List UInt8) : ∃ t, spl l = bef l :: t := by
  rcases idx_cases l with ⟨_, e2, e3, _⟩ | ⟨_, _, _, e2, _, _⟩
  · exact ⟨[], by rw [spl_not l e2, e3]⟩
  · exact ⟨_, spl_has l e2⟩
theorem aft_of (l : List UInt8) (k : Nat) (h : k < l.length) (h1 : ∀ j, j < k → l[j]? ≠ some 47) (h2 : l[k]? = some 47) : aft l = l.drop (k + 1) := by
  induction l generalizing k with
  | nil => simp at h
  | cons a r ih =>
    cases k with
    | zero => simp at h2; subst h2; simp [aft]
    | succ k =>
      have ha : a ≠ 47 := fun e => h1 0 (by omega) (by simp [e])
      simp only [aft, ha, if_false, List.drop_succ_cons]
      exact ih k (by simpa using h) (fun j hj => by simpa using h1 (j + 1) (by omega)) (by simpa using h2)
theorem aft_none (l : List UInt8) (h1 : ∀ j, j < l.length → l[j]? ≠ some 47) : aft l = [] := by
  induction l with
  | nil => rfl
  | cons a r ih =>
    have ha : a ≠ 47 := fun e => h1 0 (by simp) (by simp [e])
    simp only [aft, ha, if_false]
    exact ih (fun j hj => by simpa using h1 (j + 1) (by simpa using hj))
theorem prefix_snoc (a b : List UInt8) : (a ++ [47]).isPrefixOf b = (decide (a.length < b.length) && (decide (b.take a.length = a) && decide (b[a.length]? = some 47))) := by
  rw [Bool.eq_iff_iff]
  simp only [List.isPrefixOf_iff_prefix, Bool.and_eq_true, decide_eq_true_iff]
  constructor
  · rintro ⟨t, rfl⟩
    simp
  · rintro ⟨h1, h2, h3⟩
    refine ⟨b.drop (a.length + 1), ?_⟩
    have e : b.take (a.length + 1) = a ++ [47] := by
      rw [List.take_add_one, h2, h3]; rfl
    rw [← e, List.take_append_drop]
end Go.Proofs.YthfffpdkmoclbaaGreatDoor.M
