/-
  The walks of PthJoin, of the program and of the specification. Texts of at most 1048576 bytes.
  Plain mathematics of joining paths: what is joined lies under what is ahead; to join hangs on no brackets where the names are few enough. No other condition.
  The walks of PthParts, of the program and of the specification: a row of the names, in new memory; nothing old is written. Texts of at most 4194304 bytes.
-/
import Derived.Test.YthfffpdkmoclbaaGreatDoorMg05
import Derived.RangeFuncBox
import Derived.Maps.AppendAt
namespace Go.Proofs.YthfffpdkmoclbaaGreatDoor.W
open Go.RowKit Go.Proofs.YthfffpdkmoclbaaGreatDoor.M

/-- two texts with a stroke between -/
abbrev both (a b : ByteArray) : ByteArray := a ++ ⟨#[47]⟩ ++ b
theorem both_list (a b : ByteArray) : (both a b).data.toList = a.data.toList ++ 47 :: b.data.toList := by simp
theorem both_size (a b : ByteArray) : (both a b).size = a.size + 1 + b.size := by
  simp [both, ByteArray.size_append]; rfl
def joinB (a b : ByteArray) : ByteArray := ⟨(joinL a.data.toList b.data.toList).toArray⟩
theorem join_no1 (a b : ByteArray) (h : pthB a.data.toList = false) : joinB a b = ⟨#[]⟩ := by unfold joinB joinL; rw [if_neg (by simp [h])]
theorem join_no2 (a b : ByteArray) (h : pthB b.data.toList = false) : joinB a b = ⟨#[]⟩ := by unfold joinB joinL; rw [if_neg (by simp [h])]
theorem join_nil (a b : ByteArray) (h : pthB a.data.toList = true) (h2 : pthB b.data.toList = true) (e : a.data.toList = []) : joinB a b = b := by
  unfold joinB joinL; rw [if_pos ⟨h, h2⟩, if_pos e]
theorem join_nil2 (a b : ByteArray) (h : pthB a.data.toList = true) (h2 : pthB b.data.toList = true) (e : b.data.toList = []) : joinB a b = a := by
  unfold joinB joinL; rw [if_pos ⟨h, h2⟩]
  by_cases e1 : a.data.toList = []
  · rw [if_pos e1, ← list_eq_iff, e1]; exact e
  · rw [if_neg e1, if_pos e]
theorem join_yes (a b : ByteArray) (h : pthB a.data.toList = true) (h2 : pthB b.data.toList = true) (e : a.data.toList ≠ []) (e2 : b.data.toList ≠ []) (h3 : pthB (both a b).data.toList = true) : joinB a b = both a b := by
  rw [both_list] at h3
  unfold joinB joinL; rw [if_pos ⟨h, h2⟩, if_neg e, if_neg e2, if_pos h3, ← both_list]
theorem join_no3 (a b : ByteArray) (h : pthB a.data.toList = true) (h2 : pthB b.data.toList = true) (e : a.data.toList ≠ []) (e2 : b.data.toList ≠ []) (h3 : pthB (both a b).data.toList = false) : joinB a b = ⟨#[]⟩ := by
  rw [both_list] at h3
  unfold joinB joinL; rw [if_pos ⟨h, h2⟩, if_neg e, if_neg e2, if_neg (by simp [h3])]

set_option maxHeartbeats 800000 in
theorem pjoin_any (a b : ByteArray) (w : World) (ha : a.size ≤ 1048576) (hb : b.size ≤ 1048576) :
    Calls Tryz.prog 168 #[.string a, .string b] w fun e w' => e = .returned (.string (joinB a b)) ∧ Below w.heap.size w w' := by
  have hsa : a.size ≤ 4194304 := by omega
  have hsb : b.size ≤ 4194304 := by omega
  have hsc : (both a b).size ≤ 4194304 := by rw [both_size]; omega
  cases h1 : pthB a.data.toList
  · rw [join_no1 _ _ h1]
    have HP : Hid (pthB a.data.toList = false) := h1
    clear h1
    go_enter Tryz.func168, Tryz.ntmps168
    go_wp2_with (go_at_call 120; refine (ok_no _ _ hsa HP.out).mono ?_; rintro e w1 ⟨rfl, hb1⟩)
    go_ret
    exact ⟨rfl, hb1⟩
  · have HP : Hid (pthB a.data.toList = true) := h1
    cases h2 : pthB b.data.toList
    · rw [join_no2 _ _ h2]
      have HQ : Hid (pthB b.data.toList = false) := h2
      clear h1 h2
      go_enter Tryz.func168, Tryz.ntmps168
      go_wp2_with (first | (go_at_call 120; refine (ok_yes _ _ hsa HP.out).mono ?_; rintro e w1 ⟨rfl, hb1⟩; clear HP) | (go_at_call 120; refine (ok_no _ _ hsb HQ.out).mono ?_; rintro e w2 ⟨rfl, hb2⟩))
      go_ret
      exact ⟨rfl, hb1.trans (hb2.mono hb1.size)⟩
    · have HQ : Hid (pthB b.data.toList = true) := h2
      by_cases e1 : a.data.toList = []
      · rw [join_nil _ _ h1 h2 e1]
        have he := empty_t a e1
        clear h1 h2 e1
        go_enter Tryz.func168, Tryz.ntmps168
        go_wp2_with (first | (go_at_call 120; refine (ok_yes _ _ hsa HP.out).mono ?_; rintro e w1 ⟨rfl, hb1⟩; clear HP) | (go_at_call 120; refine (ok_yes _ _ hsb HQ.out).mono ?_; rintro e w2 ⟨rfl, hb2⟩))
        go_ret
        exact ⟨rfl, hb1.trans (hb2.mono hb1.size)⟩
      · have he := nonempty_f a e1
        by_cases e2 : b.data.toList = []
        · rw [join_nil2 _ _ h1 h2 e2]
          have he2 := empty_t b e2
          clear h1 h2 e1 e2
          go_enter Tryz.func168, Tryz.ntmps168
          go_wp2_with (first | (go_at_call 120; refine (ok_yes _ _ hsa HP.out).mono ?_; rintro e w1 ⟨rfl, hb1⟩; clear HP) | (go_at_call 120; refine (ok_yes _ _ hsb HQ.out).mono ?_; rintro e w2 ⟨rfl, hb2⟩))
          go_ret
          exact ⟨rfl, hb1.trans (hb2.mono hb1.size)⟩
        · have he2 := nonempty_f b e2
          cases h3 : pthB (both a b).data.toList
          · rw [join_no3 _ _ h1 h2 e1 e2 h3]
            have HR : Hid (pthB (both a b).data.toList = false) := h3
            clear h1 h2 e1 e2 h3
            go_enter Tryz.func168, Tryz.ntmps168
            go_wp2_with (first | (go_at_call 120; refine (ok_yes _ _ hsa HP.out).mono ?_; rintro e w1 ⟨rfl, hb1⟩; clear HP) | (go_at_call 120; refine (ok_yes _ _ hsb HQ.out).mono ?_; rintro e w2 ⟨rfl, hb2⟩; clear HQ) | (go_at_call 120; refine (ok_no (both a b) _ hsc HR.out).mono ?_; rintro e w3 ⟨rfl, hb3⟩))
            go_ret
            exact ⟨rfl, (hb1.trans (hb2.mono hb1.size)).trans (hb3.mono (Nat.le_trans hb1.size hb2.size))⟩
          · rw [join_yes _ _ h1 h2 e1 e2 h3]
            have HR : Hid (pthB (both a b).data.toList = true) := h3
            clear h1 h2 e1 e2 h3
            go_enter Tryz.func168, Tryz.ntmps168
            go_wp2_with (first | (go_at_call 120; refine (ok_yes _ _ hsa HP.out).mono ?_; rintro e w1 ⟨rfl, hb1⟩; clear HP) | (go_at_call 120; refine (ok_yes _ _ hsb HQ.out).mono ?_; rintro e w2 ⟨rfl, hb2⟩; clear HQ) | (go_at_call 120; refine (ok_yes (both a b) _ hsc HR.out).mono ?_; rintro e w3 ⟨rfl, hb3⟩))
            go_ret
            exact ⟨rfl, (hb1.trans (hb2.mono hb1.size)).trans (hb3.mono (Nat.le_trans hb1.size hb2.size))⟩

theorem join_impl (a b : ByteArray) (w : World) (ha : a.size ≤ 1048576) (hb : b.size ≤ 1048576) :
    Calls Tryz.prog 152 #[.string a, .string b] w fun e w' => e = .returned (.string (joinB a b)) ∧ Below w.heap.size w w' := by
  go_enter Tryz.func152, Tryz.ntmps152
  go_wp2_with (go_at_call 168; refine (pjoin_any _ _ _ ha hb).mono ?_; rintro e w1 ⟨rfl, hb1⟩)
  go_ret
  exact ⟨rfl, hb1⟩

end Go.Proofs.YthfffpdkmoclbaaGreatDoor.W
namespace Go.Proofs.YthfffpdkmoclbaaGreatDoor.M
open Go.RowKit Go.Proofs.YthfffpdkmoclbaaGreatDoor.W

theorem spl_both (a b : List UInt8) : spl (a ++ 47 :: b) = spl a ++ spl b := by
  induction a with
  | nil => simp [spl]
  | cons c r ih =>
    obtain ⟨h, t, e⟩ := spl_ne r
    by_cases hc : c = 47
    · simp [spl, hc, ih]
    · simp [spl, hc, ih, e]
theorem nms_both (a b : List UInt8) (ha : a ≠ []) (hb : b ≠ []) : nms (a ++ 47 :: b) = nms a ++ nms b := by
  unfold nms; rw [if_neg ha, if_neg hb, if_neg (by simp), spl_both]
theorem pth_both (a b : List UInt8) (ha : a ≠ []) (hb : b ≠ []) (pa : pthB a = true) (pb : pthB b = true) (h : (nms a).length + (nms b).length ≤ 3) : pthB (a ++ 47 :: b) = true := by
  unfold pthB at *
  rw [nms_both a b ha hb]
  simp only [Bool.and_eq_true, decide_eq_true_iff, List.all_append, List.length_append] at *
  exact ⟨h, pa.2, pb.2⟩
theorem join_fit (a b : List UInt8) (pa : pthB a = true) (pb : pthB b = true) (h : (nms a).length + (nms b).length ≤ 3) : pthB (joinL a b) = true ∧ nms (joinL a b) = nms a ++ nms b := by
  unfold joinL
  rw [if_pos ⟨pa, pb⟩]
  by_cases e1 : a = []
  · subst e1; simpa [nms] using pb
  · rw [if_neg e1]
    by_cases e2 : b = []
    · subst e2; simpa [nms] using pa
    · rw [if_neg e2, if_pos (pth_both a b e1 e2 pa pb h)]
      exact ⟨pth_both a b e1 e2 pa pb h, nms_both a b e1 e2⟩
theorem join_is (a b : List UInt8) (pa : pthB a = true) (pb : pthB b = true) (h : (nms a).length + (nms b).length ≤ 3) : joinL a b = if a = [] then b else if b = [] then a else a ++ 47 :: b := by
  unfold joinL
  rw [if_pos ⟨pa, pb⟩]
  by_cases e1 : a = []
  · rw [if_pos e1, if_pos e1]
  · rw [if_neg e1, if_neg e1]
    by_cases e2 : b = []
    · rw [if_pos e2, if_pos e2]
    · rw [if_neg e2, if_neg e2, if_pos (pth_both a b e1 e2 pa pb h)]
theorem join_assoc (a b c : List UInt8) (pa : pthB a = true) (pb : pthB b = true) (pc : pthB c = true) (h : (nms a).length + (nms b).length + (nms c).length ≤ 3) : joinL (joinL a b) c = joinL a (joinL b c) := by
  have h1 := join_fit a b pa pb (by omega)
  have h2 := join_fit b c pb pc (by omega)
  rw [join_is (joinL a b) c h1.1 pc (by rw [h1.2, List.length_append]; omega), join_is a (joinL b c) pa h2.1 (by rw [h2.2, List.length_append]; omega), join_is a b pa pb (by omega), join_is b c pb pc (by omega)]
  by_cases e1 : a = []
  · simp [e1]
  · by_cases e2 : b = []
    · simp [e1, e2]
    · by_cases e3 : c = []
      · simp [e1, e2, e3]
      · simp [e1, e2, e3]
theorem join_und (a b : List UInt8) (h : joinL a b ≠ []) : undB a (joinL a b) = true := by
  unfold joinL at *
  split at h
  · rename_i hp
    rw [und_iff, if_pos hp]
    refine ⟨hp.1, ?_⟩
    split at h
    · rename_i e; exact ⟨by rw [if_pos e]; exact hp.2, .inl e⟩
    · rename_i e
      rw [if_neg e]
      split at h
      · rename_i e2; rw [if_pos e2]; exact ⟨hp.1, .inr (.inl rfl)⟩
      · rename_i e2
        rw [if_neg e2]
        split at h
        · rename_i e3; rw [if_pos e3]; exact ⟨e3, .inr (.inr ⟨b, by simp⟩)⟩
        · exact absurd rfl h
  · exact absurd rfl h
end Go.Proofs.YthfffpdkmoclbaaGreatDoor.M
namespace Go.Proofs.YthfffpdkmoclbaaGreatDoor.W
open Go.RowKit Go.Shelf Go.Proofs.YthfffpdkmoclbaaGreatDoor.M
attribute [local go_sem] Oper.semAt_some

set_option maxRecDepth 100000 in
set_option maxHeartbeats 2000000 in
theorem appendSeq_any (s : ByteArray) (B : Nat) (w : World) (hs : s.size ≤ 4194304) (hB : B < w.heap.size) (hc : w.cell? ⟨B, 0, none⟩ = some (.string s)) :
    Calls Tryz.prog 167 #[.slice none 0 0, .func (.func 164) #[] #[.pointer (some ⟨B, 0, none⟩)]] w fun e W' => ∃ v, e = .returned v ∧ W'.ownsRow w.heap.size 9 1 v (nms s.data.toList).length (strs (nms s.data.toList)) ∧ Below w.heap.size w W' := by
  obtain ⟨i0, hi, hz0, hz1, hz2⟩ := info_parts info9
  have hnl : (nms s.data.toList).length ≤ 4194305 := by
    have := spl_len s.data.toList
    unfold nms; split
    · simp
    · simp at this; omega
  refine (callsIn_wide (n := 6)).1 ?_
  refine callsIn_of_wp_marks Tryz.func167 rfl trivial ?_ rfl
  simp only [Tryz.ntmps167, List.size_toArray, List.length_cons, List.length_nil, Nat.reduceAdd, Nat.reduceSub, Array.replicate_succ, Array.replicate_zero, List.push_toArray, List.append_toArray, List.nil_append, List.cons_append]
  gi_wp2
  have bO := Boxed.new w 51 (.slice none 0 0)
  have hB0 : Below w.heap.size w (w.alloc (.cells #[.slice none 0 0] 51)) := (Below.refl _ w).alloc (Nat.le_refl _) _
  refine wpIn_rangeFunc_ownF (α := List UInt8) (encs := fun x => #[.string ⟨x.toArray⟩]) (Kp := KeepsWalks) rfl (by omega) (gf := 164) (lb := #[.pointer (some ⟨B, 0, none⟩)]) rfl trivial (enters_of Tryz.func164 (by kernel_rfl) rfl)
    (names_stops _ (by omega) B s hs _ (by simp; omega) ((World.cell?_alloc_lt _ _ _ hB).trans hc)) walksK_t walksK_b (Below.refl _ _) (fun _ => rfl)
    (fun pre W => (∃ v, Boxed W w.heap.size 51 v ∧ W.ownsRow w.heap.size 9 1 v pre.length (strs pre) ∧ True) ∧ Below w.heap.size w W)
    (fun _ _ _ => False)
    (OwnFrom.and (Own.from (holdsRow_own w.heap.size w.heap.size 51 9 1 (fun pre => pre.length) (fun pre => strs pre) (fun _ _ => True)) _) (ownFrom_below (Nat.le_refl _) (by simp)))
    (fun _ _ _ _ _ hs _ _ => hs)
    ⟨⟨_, bO, World.ownsRow_nil _ _ _ _, trivial⟩, hB0⟩
    (fun x => { tmps := #[.slice none 0 0, .func (.func 164) #[] #[.pointer (some ⟨B, 0, none⟩)], .pointer (some ⟨w.heap.size, 0, none⟩), undef, .slice none 0 0, .string ⟨x.toArray⟩, .func (.func 164) #[] #[.pointer (some ⟨B, 0, none⟩)], .string ⟨x.toArray⟩, undef, undef, undef, undef, undef], defers := [] }) ?assign ?body ?done ?stop
  case assign =>
    intro l x W K hK
    gi_wp2
    exact hK
  case body =>
    rintro l pre x W ⟨⟨v, hv, hrow, _⟩, hB⟩ hlt
    have hc := hv.cell
    gi_wp2_with (gi_at_builtin; refine wpListIn_append_own _ rfl _ _ 51 rfl w.heap.size 9 i0 (.string ByteArray.empty) 1 16 Tryz.underlying51 hi hz0 hz1 hz2 rfl (by decide) _ _ _ rfl (hrow.alloc _) ⟨W.heap.size, 0, none⟩ 1 1 [.string ⟨x.toArray⟩] rfl rfl (cell_one_new _ _ _) (by simp [Value.oneCell']) (by unfold maxLen; omega) (by omega) (by have := hB.size; simp; omega) ?_; intro v' w1 hown' hgrow _; obtain ⟨g', cap', rfl⟩ := ownsRow_succ hown'; obtain ⟨hv1, hv2, hr2, hk2, hb2⟩ := hv.appended (by decide) hrow hB.size (Nat.le_refl _) hown' hgrow; have hc1 := hv1.cell; have hf1 := hv1.frozen)
    exact ⟨hk2, hk2.walks, ⟨_, hv2, by rw [strs_snoc, List.length_append]; exact hr2, trivial⟩, hB.trans hb2⟩
  case done =>
    rintro D ys W hD rfl ⟨⟨v, hv, hrow, _⟩, hB⟩ hK
    have hc := hv.cell
    gi_wp2
    refine ⟨by simp, .inl ⟨_, _, rfl, run_takeDeferred hK, ?_⟩⟩
    exact ⟨_, results_tmp rfl _ _ _, v, rfl, ownsRow_putObj hrow _ hK rfl, hB.trans (belowK_b (w := w) (Nat.le_refl _) W D _ _ (by simp at hD; omega) hK rfl rfl)⟩
  case stop =>
    rintro D c pre W _ _ h _
    exact h.elim

set_option maxHeartbeats 400000 in
theorem collect_any (s : ByteArray) (B : Nat) (w : World) (hs : s.size ≤ 4194304) (hB : B < w.heap.size) (hc : w.cell? ⟨B, 0, none⟩ = some (.string s)) :
    Calls Tryz.prog 151 #[.func (.func 164) #[] #[.pointer (some ⟨B, 0, none⟩)]] w fun e W' => ∃ v, e = .returned v ∧ W'.ownsRow w.heap.size 9 1 v (nms s.data.toList).length (strs (nms s.data.toList)) ∧ Below w.heap.size w W' := by
  go_enter Tryz.func151, Tryz.ntmps151
  go_wp2_with (go_at_call 167; refine (appendSeq_any s B _ hs hB hc).mono ?_; rintro e w1 ⟨v, rfl, hown, hb⟩)
  go_ret
  exact ⟨v, rfl, hown, hb⟩

/-- the names of a path; none of a text that is none -/
def partsL (l : List UInt8) : List (List UInt8) := if pthB l then nms l else []

theorem ownsUp {w : World} {B B' : Nat} {e : TypeId} {z : Nat} {v : Value} {n : Nat} {xs : List Value} (h : w.ownsRow B e z v n xs) (hB : B' ≤ B) : w.ownsRow B' e z v n xs := by
  refine ⟨h.1, ?_⟩
  rcases h.2 with h1 | ⟨g, cap, cur, h1, h2, h3⟩
  · exact .inl h1
  · exact .inr ⟨g, cap, cur, h1, Nat.le_trans hB h2, h3⟩

set_option maxHeartbeats 400000 in
theorem parts_impl (s : ByteArray) (w : World) (hs : s.size ≤ 4194304) :
    Calls Tryz.prog 130 #[.string s] w fun e W' => ∃ v, e = .returned v ∧ W'.ownsRow w.heap.size 9 1 v (partsL s.data.toList).length (strs (partsL s.data.toList)) ∧ Below w.heap.size w W' := by
  unfold partsL
  cases h : pthB s.data.toList
  · simp only [Bool.false_eq_true, if_false]
    have HP : Hid (pthB s.data.toList = false) := h
    clear h
    go_enter Tryz.func130, Tryz.ntmps130
    go_wp2_with (go_at_call 120; refine (ok_no _ _ hs HP.out).mono ?_; rintro e w1 ⟨rfl, hb1⟩)
    go_ret
    exact ⟨_, rfl, World.ownsRow_nil _ _ _ _, hb1⟩
  · simp only [if_true]
    have HP : Hid (pthB s.data.toList = true) := h
    clear h
    go_enter Tryz.func130, Tryz.ntmps130
    go_wp2_with (first | (go_at_call 120; refine (ok_yes _ _ hs HP.out).mono ?_; rintro e w1 ⟨rfl, hb1⟩) | (go_at_call 147; refine (names_any _ _).mono ?_; rintro e w2 ⟨rfl, rfl⟩) | (go_at_call 151; refine (collect_any s w1.heap.size _ hs (by simp) (by simp)).mono ?_; rintro e w3 ⟨v, rfl, hown, hb3⟩))
    go_ret
    have hb2 : Below w.heap.size w (w1.alloc (.cells #[.string s] 162)) := hb1.alloc hb1.size _
    exact ⟨v, rfl, ownsUp hown (by have := hb1.size; simp; omega), hb2.trans (hb3.mono hb2.size)⟩

end Go.Proofs.YthfffpdkmoclbaaGreatDoor.W
