
/-
  The walk of a path text's 'ok' and of 'PthOk' of the program: each answers whether the text is a path; nothing old is written. Texts of at most 4194304 bytes.
-/
import Derived.Test.YtgbcgchnnmgmfaaWalkNames
import Derived.Test.YtgbcgchnnmgmfaaWalkNam
import Derived.RangeFuncFrom
namespace Go.Proofs.Ytgbcgchnnmgmfaa.W
open Go.RowKit Go.Shelf Go.Proofs.Ytgbcgchnnmgmfaa.M
attribute [local go_sem] Oper.semAt_some

theorem not_all_snoc (pre : List (List UInt8)) (x : List UInt8) (h : namB x = false) (h2 : (pre ++ [x]).all namB = true) : False := by
  simp [h] at h2
theorem all_snoc (pre : List (List UInt8)) (x : List UInt8) (h0 : pre.all namB = true) (h : namB x = true) : (pre ++ [x]).all namB = true := by
  rw [List.all_append, h0]; simp [h]
theorem cellOther {W : World} {n : Nat} {v : Value} (h : W.cell? ⟨n, 0, none⟩ = some v) (u : Value) : (W.setCell ⟨n + 1, 0, none⟩ u).cell? ⟨n, 0, none⟩ = some v := by
  rw [World.cell?_setCell_other _ _ _ _ (by simp)]; exact h
theorem cellSame {W : World} {a : Addr} {v : Value} (h : W.cell? a = some v) (u : Value) : (W.setCell a u).cell? a = some u :=
  World.cell?_setCell_same' _ _ _ (by rw [h]; rfl)
theorem cellNo {W : World} {n : Nat} (h : W.cell? ⟨n, 0, none⟩ = some (.bool false)) (u : Value) : ((W.setCell ⟨n + 1, 0, none⟩ u).setCell ⟨n, 0, none⟩ (.bool false)).cell? ⟨n, 0, none⟩ = some (.bool false) :=
  cellSame (cellOther h u) _
theorem pth_stop (l : List UInt8) (pre : List (List UInt8)) (hp : pre <+: nms l) (hno : ¬ (pre.length ≤ 3 ∧ pre.all namB = true)) : pthB l = false := by
  rw [Bool.eq_false_iff]; intro h
  unfold pthB at h
  rw [Bool.and_eq_true, decide_eq_true_iff] at h
  exact hno ⟨Nat.le_trans hp.length_le h.1, List.all_eq_true.2 (fun y hy => List.all_eq_true.1 h.2 y (hp.subset hy))⟩
theorem nam_no (x : List UInt8) (h : namB x = false) (w : World) :
    Calls Try.prog 51 #[.string ⟨x.toArray⟩] w fun e w' => e = .returned (.bool false) ∧ w = w' := by
  have := nam_all ⟨x.toArray⟩ w; rwa [show namB (ByteArray.mk x.toArray).data.toList = false from h] at this
theorem nam_yes (x : List UInt8) (h : namB x = true) (w : World) :
    Calls Try.prog 51 #[.string ⟨x.toArray⟩] w fun e w' => e = .returned (.bool true) ∧ w = w' := by
  have := nam_all ⟨x.toArray⟩ w; rwa [show namB (ByteArray.mk x.toArray).data.toList = true from h] at this

set_option maxRecDepth 100000 in
set_option maxHeartbeats 2000000 in
theorem ok_any (s : ByteArray) (w : World) (hs : s.size ≤ 4194304) :
    Calls Try.prog 41 #[.string s] w fun e w' => e = .returned (.bool (pthB s.data.toList)) ∧ Below w.heap.size w w' := by
  refine (callsIn_wide (n := 6)).1 ?_
  refine callsIn_of_wp_marks Try.func41 rfl trivial ?_ rfl
  simp only [Try.ntmps41, List.size_toArray, List.length_cons, List.length_nil, Nat.reduceAdd, Nat.reduceSub, Array.replicate_succ, Array.replicate_zero, List.push_toArray, List.append_toArray, List.nil_append, List.cons_append]
  gi_wp2_with (refine ⟨trivial, ?_⟩; gi_at_call 50; refine (callsIn_wide.2 (names_any _ _)).mono ?_; rintro e w' ⟨rfl, rfl⟩)
  have c0 := cellNew w (.bool false) 4
  have c1 := cellNew (w.alloc (.cells #[.bool false] 4)) (.int .i64 0) 3
  have c2 := cellNew ((w.alloc (.cells #[.bool false] 4)).alloc (.cells #[.int .i64 0] 3)) (.string s) 63
  simp only [World.size_alloc] at c1 c2
  have hB0 : Below w.heap.size w (((w.alloc (.cells #[.bool false] 4)).alloc (.cells #[.int .i64 0] 3)).alloc (.cells #[.string s] 63)) := (((Below.refl _ w).alloc (Nat.le_refl _) _).alloc (by simp) _).alloc (by simp; omega) _
  refine wpIn_rangeFunc_ownF (α := List UInt8) (encs := fun x => #[.string ⟨x.toArray⟩]) (Kp := KeepsWalks) rfl (by omega) (gf := 55) (lb := #[.pointer (some ⟨w.heap.size + 1 + 1, 0, none⟩)]) rfl trivial (enters_of Try.func55 (by kernel_rfl) rfl)
    (names_stops _ (by omega) (w.heap.size + 1 + 1) s hs _ (by simp) c2.1) walksK_t walksK_b (Below.refl _ _) (fun _ => rfl)
    (fun pre W => (pre.length ≤ 3 ∧ pre.all namB = true ∧ W.cell? ⟨w.heap.size, 0, none⟩ = some (.bool false) ∧ W.frozen? ⟨w.heap.size, 0, none⟩ = false ∧ W.cell? ⟨w.heap.size + 1, 0, none⟩ = some (.int .i64 pre.length) ∧ W.frozen? ⟨w.heap.size + 1, 0, none⟩ = false) ∧ Below w.heap.size w W)
    (fun c pre W => (c = .ret ∧ ¬ (pre.length ≤ 3 ∧ pre.all namB = true) ∧ W.cell? ⟨w.heap.size, 0, none⟩ = some (.bool false)) ∧ Below w.heap.size w W)
    (OwnFrom.and (Own.from (fun s A B row hs hg hr => ⟨hs.1, hs.2.1, cell_kept hs.2.2.1 hg hr, (frozen_kept hs.2.2.1 hg hr).trans hs.2.2.2.1, cell_kept hs.2.2.2.2.1 hg hr, (frozen_kept hs.2.2.2.2.1 hg hr).trans hs.2.2.2.2.2⟩) _) (ownFrom_below (Nat.le_refl _) (by simp; omega)))
    (fun c => OwnFrom.and (Own.from (fun s A B row hs hg hr => ⟨hs.1, hs.2.1, cell_kept hs.2.2 hg hr⟩) _) (ownFrom_below (Nat.le_refl _) (by simp; omega)))
    ⟨⟨by simp, rfl, cellLater _ (cellLater _ c0.1), frozenLater _ (cellLater _ c0.1) (frozenLater _ c0.1 c0.2), cellLater _ c1.1, frozenLater _ c1.1 c1.2⟩, hB0⟩
    (fun x => { tmps := #[.string s, undef, .pointer (some ⟨w.heap.size, 0, none⟩), .pointer (some ⟨w.heap.size + 1, 0, none⟩), .string ⟨x.toArray⟩, .string s, .func (.func 55) #[] #[.pointer (some ⟨w.heap.size + 1 + 1, 0, none⟩)], .string ⟨x.toArray⟩, undef, undef, undef, undef, undef, undef, undef, undef, undef], defers := [] }) ?assign ?body ?done ?stop
  case assign =>
    intro l x W K hK
    gi_wp2
    exact hK
  case body =>
    rintro l pre x W ⟨⟨hl, hall, hc0, hf0, hc1, hf1⟩, hB⟩ _
    have HALL : Hid (pre.all namB = true) := hall
    clear hall
    by_cases h3 : pre.length + 1 ≤ 3
    · cases hn : namB x
      · have HN : Hid (namB x = false) := hn
        clear hn
        gi_wp2_with (refine ⟨trivial, ?_⟩; gi_at_call 51; refine (CallsIn.inRound l (callsIn_wide.2 (nam_no x HN.out _))).mono ?_; rintro e w' ⟨rfl, rfl⟩)
        exact ⟨(KeepsOthers.setCell _ _ _).trans (KeepsOthers.setCell _ _ _), ⟨rfl, fun h => not_all_snoc pre x HN.out h.2, cellNo hc0 _⟩, (hB.setCell (p := ⟨w.heap.size + 1, 0, none⟩) (by simp) _).setCell (p := ⟨w.heap.size, 0, none⟩) (Nat.le_refl _) _⟩
      · have HN : Hid (namB x = true) := hn
        clear hn
        gi_wp2_with (refine ⟨trivial, ?_⟩; gi_at_call 51; refine (CallsIn.inRound l (callsIn_wide.2 (nam_yes x HN.out _))).mono ?_; rintro e w' ⟨rfl, rfl⟩)
        exact ⟨KeepsOthers.setCell _ _ _, KeepsWalks.setCell _ _ _, ⟨by simpa using h3, all_snoc pre x HALL.out HN.out, cellOther hc0 _, by rw [World.frozen?_setCell]; exact hf0, by rw [cellSame hc1 _]; simp, by rw [World.frozen?_setCell]; exact hf1⟩, hB.setCell (p := ⟨w.heap.size + 1, 0, none⟩) (by simp) _⟩
    · gi_wp2
      refine ⟨trivial, ?_⟩
      gi_wp2
      exact ⟨(KeepsOthers.setCell _ _ _).trans (KeepsOthers.setCell _ _ _), ⟨rfl, fun h => h3 (by simpa using h.1), cellNo hc0 _⟩, (hB.setCell (p := ⟨w.heap.size + 1, 0, none⟩) (by simp) _).setCell (p := ⟨w.heap.size, 0, none⟩) (Nat.le_refl _) _⟩
  case done =>
    rintro D ys W hD rfl ⟨⟨hl, hall, hc0, hf0, hc1, hf1⟩, hB⟩ hK
    have HALL : Hid ((nms s.data.toList).all namB = true) := hall
    clear hall
    gi_wp2
    have hK' := (KeepsOthers.setCell W ⟨w.heap.size, 0, none⟩ (.bool true)).same D _ hK rfl
    refine ⟨by simp, .inl ⟨_, _, rfl, run_takeDeferred hK', ?_⟩⟩
    have hc5 := cell_kept (cellSame hc0 (.bool true)) (grownBy_putObj' _ D (.deferred none)) (fun r e => by cases e; exact ⟨_, hK', rfl⟩)
    refine ⟨.bool true, ?_, by unfold pthB; rw [HALL.out, decide_eq_true hl]; rfl, (hB.setCell (p := ⟨w.heap.size, 0, none⟩) (Nat.le_refl _) _).trans (belowK_b (w := w) (Nat.le_refl _) _ D _ _ (by simp at hD; omega) hK' rfl rfl)⟩
    simp [results, Try.f41, go_sem, hc5]
  case stop =>
    rintro D c pre W hD hpre ⟨⟨rfl, hno, hcr⟩, hB⟩ hK
    gi_wp2
    refine ⟨by simp, .inl ⟨_, _, rfl, run_takeDeferred hK, ?_⟩⟩
    have hc5 := cell_kept hcr (grownBy_putObj' _ D (.deferred none)) (fun r e => by cases e; exact ⟨_, hK, rfl⟩)
    refine ⟨.bool false, ?_, ?_, hB.trans (belowK_b (w := w) (Nat.le_refl _) W D _ _ (by simp at hD; omega) hK rfl rfl)⟩
    · simp [results, Try.f41, go_sem, hc5]
    · rw [pth_stop _ pre hpre hno]

set_option maxHeartbeats 400000 in
theorem pthOk_impl (s : ByteArray) (w : World) (hs : s.size ≤ 4194304) :
    Calls Try.prog 28 #[.string s] w fun e w' => e = .returned (.bool (pthB s.data.toList)) ∧ Below w.heap.size w w' := by
  go_enter Try.func28, Try.ntmps28
  go_wp2_with (go_at_call 41; refine (ok_any _ _ hs).mono ?_; rintro e w' ⟨rfl, hb⟩)
  go_ret
  exact ⟨rfl, hb⟩
end Go.Proofs.Ytgbcgchnnmgmfaa.W
