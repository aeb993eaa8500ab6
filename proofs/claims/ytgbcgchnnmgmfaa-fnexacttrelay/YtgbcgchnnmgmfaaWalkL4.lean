/-
  The walks of the laws' 'chTexts' over two rows of the same texts, and of the draw of one path. Condition: rows of at most 100000000 texts.
  spec.l4Name: a text is put among others: where it is not there ahead of the first greater one, else nothing turns. (Written by gennam4.py.) No condition but that the texts lie there.
-/
import Derived.Test.YtgbcgchnnmgmfaaWalkDraw3
import Derived.Test.YtgbcgchnnmgmfaaMathNames
import Derived.Test.YtgbcgchnnmgmfaaWalkPthSpec
import Derived.BigQuiet
import Derived.Deep.QuietTactic
import Derived.Deep.RegionWith
import Derived.Test.YtgbcgchnnmgmfaaMathSort
import Derived.Test.YtgbcgchnnmgmfaaMathNew
namespace Go.Proofs.Ytgbcgchnnmgmfaa.W
open Go.RowKit Go.Proofs.Ytgbcgchnnmgmfaa.M

theorem ownsStay {w w' : World} {b B : Nat} {e : TypeId} {z : Nat} {v : Value} {n : Nat} {xs : List Value} (h : w.ownsRow b e z v n xs) (hb : Below B w w') (hB : w.heap.size ≤ B) : w'.ownsRow b e z v n xs := by
  refine ⟨h.1, ?_⟩
  rcases h.2 with h1 | ⟨g, cap, cur, h1, h2, h3, h4⟩
  · exact .inl h1
  · have hg : g < w.heap.size := (Array.getElem?_eq_some_iff.1 h3).1
    exact .inr ⟨g, cap, cur, h1, h2, (hb.block g (by omega)).trans h3, h4⟩
theorem row_none {w : World} {b : Nat} {e : TypeId} {z : Nat} {v : Value} {xs : List Value} (h : w.ownsRow b e z v 0 xs) : ∃ a c, v = .slice a 0 c := by
  rcases h.2 with ⟨rfl, _⟩ | ⟨g, cap, _, rfl, _⟩
  · exact ⟨none, 0, rfl⟩
  · exact ⟨_, cap, rfl⟩
theorem row_some {w : World} {b : Nat} {v : Value} {L : List (List UInt8)} (h : w.ownsRow b 9 1 v L.length (strs L)) (h1 : 1 ≤ L.length) : ∃ g c : Nat, v = .slice (some ⟨g, 0, none⟩) L.length c ∧ ∀ j (h : j < L.length), w.cell? ⟨g, j, none⟩ = some (.string ⟨(L[j]).toArray⟩) := by
  rcases h.2 with ⟨_, h0⟩ | ⟨g, c, _, rfl, _⟩
  · omega
  · exact ⟨g, c, rfl, fun j hj => by rw [h.cellAt j (by omega), strs_get L j hj]⟩
theorem row_lt {w : World} {b g n c : Nat} {e : TypeId} {z : Nat} {xs : List Value} (h : w.ownsRow b e z (.slice (some ⟨g, 0, none⟩) n c) n xs) : g < w.heap.size := (h.lt g rfl).2
theorem pth_all (l : List UInt8) (h : pthB l = true) : (nms l).all namB = true := by
  unfold pthB at h; simp only [Bool.and_eq_true, decide_eq_true_iff] at h; exact h.2
end Go.Proofs.Ytgbcgchnnmgmfaa.W
namespace Go.Proofs.Ytgbcgchnnmgmfaa.W
open Go.RowKit Go.Proofs.Ytgbcgchnnmgmfaa.M
set_option linter.unusedVariables false

theorem before_done (T R : List (List UInt8)) (s : List UInt8) (h : T.any (fun x => decide (s < x)) = true) : before (T ++ R) s = before T s ++ R := by
  induction T with
  | nil => simp at h
  | cons x l ih =>
    simp only [List.cons_append, before]
    by_cases hx : s < x
    · simp [hx]
    · have : l.any (fun x => decide (s < x)) = true := by simpa [hx] using h
      simp [hx, ih this]
theorem before_none (T R : List (List UInt8)) (s : List UInt8) (h : T.any (fun x => decide (s < x)) = false) : before (T ++ R) s = T ++ before R s := by
  induction T with
  | nil => rfl
  | cons x l ih =>
    have hx : ¬ s < x := by intro hx; simp [hx] at h
    have : l.any (fun x => decide (s < x)) = false := by simpa [hx] using h
    simp only [List.cons_append, before, hx, if_false, ih this]
theorem before_len (T : List (List UInt8)) (s : List UInt8) : (before T s).length = T.length + 1 := by
  induction T with
  | nil => rfl
  | cons x l ih => unfold before; split <;> simp [ih]
/-- what the loop has written -/
def outN (T : List (List UInt8)) (s : List UInt8) : List (List UInt8) := if T.any (fun x => decide (s < x)) = true then before T s else T
theorem outN_len (T : List (List UInt8)) (s : List UInt8) : (outN T s).length ≤ T.length + 1 := by
  unfold outN; split
  · rw [before_len]; exact Nat.le_refl _
  · omega
theorem outN_no (T : List (List UInt8)) (s x : List UInt8) (h : ¬ s < x) : outN (T ++ [x]) s = outN T s ++ [x] ∧ ((T ++ [x]).any fun x => decide (s < x)) = T.any fun x => decide (s < x) := by
  have e : ((T ++ [x]).any fun x => decide (s < x)) = T.any fun x => decide (s < x) := by simp [h]
  refine ⟨?_, e⟩
  unfold outN
  rw [e]
  split
  · rename_i ha; exact before_done T [x] s ha
  · rfl
theorem outN_yes (T : List (List UInt8)) (s x : List UInt8) (h : s < x) (ha : (T.any fun x => decide (s < x)) = true) : outN (T ++ [x]) s = outN T s ++ [x] ∧ ((T ++ [x]).any fun x => decide (s < x)) = true := by
  have e : ((T ++ [x]).any fun x => decide (s < x)) = true := by simp [h]
  refine ⟨?_, e⟩
  unfold outN
  rw [e, ha]
  exact before_done T [x] s ha
theorem outN_new (T : List (List UInt8)) (s x : List UInt8) (h : s < x) (ha : (T.any fun x => decide (s < x)) = false) : outN (T ++ [x]) s = outN T s ++ [s] ++ [x] ∧ ((T ++ [x]).any fun x => decide (s < x)) = true := by
  have e : ((T ++ [x]).any fun x => decide (s < x)) = true := by simp [h]
  refine ⟨?_, e⟩
  unfold outN
  rw [e, ha]
  simp only [if_true, Bool.false_eq_true, if_false]
  rw [before_none T [x] s ha]
  simp [before, h]
theorem outN_end (L : List (List UInt8)) (s : List UInt8) (hs : s ∉ L) : (if (L.any fun x => decide (s < x)) = true then outN L s else outN L s ++ [s]) = nameB L s := by
  unfold nameB outN
  rw [if_neg hs]
  cases ha : L.any fun x => decide (s < x)
  · have := before_none L [] s ha
    simp only [List.append_nil, before] at this
    simp [this]
  · simp
theorem ownsUpB {w : World} {base base' n z : Nat} {e : TypeId} {v : Value} {xs : List Value} (h : w.ownsRow base e z v n xs) (hb : base' ≤ base) : w.ownsRow base' e z v n xs := by
  refine ⟨h.1, ?_⟩
  rcases h.2 with h1 | ⟨g, cap, cur, h1, h2, h3⟩
  · exact .inl h1
  · exact .inr ⟨g, cap, cur, h1, by omega, h3⟩
/-- the address at which a row of texts is read -/
def SAt (w : World) (v : Value) (L : List (List UInt8)) : Prop := ∃ (A : Option Addr) (c : Nat), v = .slice A L.length c ∧ ∀ j (h : j < L.length), ∃ b o, A = some ⟨b, o, none⟩ ∧ b < w.heap.size ∧ w.cell? ⟨b, o + j, none⟩ = some (.string ⟨(L[j]).toArray⟩)
theorem sAt_own {w : World} {base : Nat} {v : Value} {L : List (List UInt8)} (h : w.ownsRow base 9 1 v L.length (strs L)) : SAt w v L := by
  by_cases h0 : 1 ≤ L.length
  · obtain ⟨g, c, rfl, hc⟩ := row_some h h0
    exact ⟨_, c, rfl, fun j hj => ⟨g, 0, rfl, row_lt h, by simpa using hc j hj⟩⟩
  · have e : L = [] := List.eq_nil_of_length_eq_zero (by omega)
    subst e
    obtain ⟨a, c, rfl⟩ := row_none h
    exact ⟨a, c, rfl, fun j hj => by simp at hj⟩

set_option maxRecDepth 100000 in
set_option maxHeartbeats 2000000 in
theorem l4Name_own (v : Value) (L : List (List UInt8)) (s : List UInt8) (base : Nat) (w : World) (hO : w.ownsRow base 9 1 v L.length (strs L)) (hb0 : base ≤ w.heap.size) (hn : L.length ≤ 1048576) :
    Calls Try.prog 36 #[v, .string ⟨s.toArray⟩] w fun e w' => ∃ v', e = .returned v' ∧ w'.ownsRow base 9 1 v' (nameB L s).length (strs (nameB L s)) ∧ Below w.heap.size w w' := by
  obtain ⟨i0, hi, hz0, hz1, hz2⟩ := info_parts info9
  obtain ⟨A, c, rfl, hR⟩ := sAt_own hO
  have HR : Hid (∀ j (h : j < L.length), ∃ b o, A = some ⟨b, o, none⟩ ∧ b < w.heap.size ∧ w.cell? ⟨b, o + j, none⟩ = some (.string ⟨(L[j]).toArray⟩)) := hR
  have HO : Hid (w.ownsRow base 9 1 (.slice A L.length c) L.length (strs L)) := hO
  clear hR hO
  go_enter Try.func36, Try.ntmps36
  go_wp2
  go_loopw [5, 6, 7] (fun v d iv wr => ∃ (j : Nat) (M : List (List UInt8)) (d0 : Bool), j ≤ L.length ∧ iv = .int .i64 j ∧ d = .bool d0 ∧ M.length ≤ j + 1 ∧ Hid (s ∉ L.take j ∧ M = outN (L.take j) s ∧ d0 = (L.take j).any (fun x => decide (s < x))) ∧ wr.ownsRow w.heap.size 9 1 v M.length (strs M) ∧ Below w.heap.size w wr) (fun _ _ i _ => L.length - (intOf i).toNat)
  case atStart => exact ⟨0, [], false, Nat.zero_le _, rfl, rfl, Nat.zero_le _, ⟨by simp, by simp [outN], by simp⟩, World.ownsRow_lit w #[] 0 (Nat.le_refl _) (by unfold maxLen; omega) rfl, (Below.refl _ _).alloc (Nat.le_refl _) _⟩
  case round =>
    obtain ⟨j, M, d0, hj, rfl, rfl, hM, HS, hown, hb⟩ := hrel
    have hsz := hb.size
    by_cases hlt : j < L.length
    · obtain ⟨b, o, rfl, hbl, hc⟩ := HR.out j hlt
      have c1 := (hb.cell (p := ⟨b, o + j, none⟩) hbl).trans hc
      have hsn := List.take_succ_eq_append_getElem hlt
      obtain ⟨x, hx⟩ : ∃ x, L[j] = x := ⟨_, rfl⟩
      rw [hx] at c1 hsn
      have HX : Hid (L[j] = x) := hx
      rw [hx] at hc
      have HC : Hid (w.cell? ⟨b, o + j, none⟩ = some (.string ⟨x.toArray⟩)) := hc
      have HN : Hid (L.take (j + 1) = L.take j ++ [x]) := hsn
      clear hc hx hsn
      rcases tri x s with hlts | rfl | hgts
      · have q1 : (x == s) = false := by simpa using fun e : x = s => absurd (e ▸ hlts) (List.lt_irrefl s)
        have q2 : Op.bytesLess x s = true := by rw [bl_lt]; simpa using hlts
        have HG : Hid (¬ s < x) := fun h => absurd (List.lt_trans h hlts) (List.lt_irrefl s)
        have HE : Hid (x ≠ s) := fun e => absurd (e ▸ hlts) (List.lt_irrefl s)
        clear hlts
        have HP : Hid (s ∉ L.take (j + 1) ∧ M ++ [x] = outN (L.take (j + 1)) s ∧ d0 = (L.take (j + 1)).any (fun x => decide (s < x))) := by
          obtain ⟨h1, h2, h3⟩ := HS.out
          obtain ⟨e1, e2⟩ := outN_no (L.take j) s x HG.out
          rw [HN.out]
          exact ⟨by simp only [List.mem_append, List.mem_singleton, not_or]; exact ⟨h1, fun e => HE.out e.symm⟩, by rw [e1, h2], by rw [e2]; exact h3⟩
        clear HS
        cases d0
        · go_wp2_with (at_builtin; refine wpList_append_own _ rfl _ _ 24 rfl w.heap.size 9 i0 (.string ByteArray.empty) 1 16 Try.underlying24 hi hz0 hz1 hz2 rfl (by decide) _ _ _ rfl (hown.alloc _) ⟨wr.heap.size, 0, none⟩ 1 1 [.string ⟨(x).toArray⟩] rfl rfl (cell_one_new _ _ _) (fun u hu => by simp at hu; subst hu; rfl) (by unfold maxLen; omega) (by omega) (by simp; omega) ?_; intro v1 w1 o1 g1 n1)
          go_roundw
          case rel => exact ⟨j + 1, M ++ [x], _, by omega, by go_num, rfl, by simp; omega, HP, by rw [strs_snoc, List.length_append]; exact o1, (hb.alloc (by omega) _).grown g1 (by simp; omega) (fun q hq => (hown.lt q hq).1)⟩
          case measure => simp [intOf]; omega
        · go_wp2_with (at_builtin; refine wpList_append_own _ rfl _ _ 24 rfl w.heap.size 9 i0 (.string ByteArray.empty) 1 16 Try.underlying24 hi hz0 hz1 hz2 rfl (by decide) _ _ _ rfl (hown.alloc _) ⟨wr.heap.size, 0, none⟩ 1 1 [.string ⟨(x).toArray⟩] rfl rfl (cell_one_new _ _ _) (fun u hu => by simp at hu; subst hu; rfl) (by unfold maxLen; omega) (by omega) (by simp; omega) ?_; intro v1 w1 o1 g1 n1)
          go_roundw
          case rel => exact ⟨j + 1, M ++ [x], _, by omega, by go_num, rfl, by simp; omega, HP, by rw [strs_snoc, List.length_append]; exact o1, (hb.alloc (by omega) _).grown g1 (by simp; omega) (fun q hq => (hown.lt q hq).1)⟩
          case measure => simp [intOf]; omega
      · clear HS hown HN
        go_wp2
        go_ret
        have hmem : x ∈ L := HX.out ▸ List.getElem_mem hlt
        have e : nameB L x = L := by unfold nameB; rw [if_pos hmem]
        rw [e]
        exact ⟨_, rfl, ownsUnder HO.out hb (Nat.le_refl _), hb⟩
      · have q1 : (x == s) = false := by simpa using fun e : x = s => absurd (e ▸ hgts) (List.lt_irrefl s)
        have q2 : Op.bytesLess x s = false := by rw [bl_lt]; exact decide_eq_false (fun h => absurd (List.lt_trans h hgts) (List.lt_irrefl x))
        have HG : Hid (s < x) := hgts
        have HE : Hid (x ≠ s) := fun e => absurd (e ▸ hgts) (List.lt_irrefl s)
        clear hgts
        cases d0
        · have HP : Hid (s ∉ L.take (j + 1) ∧ M ++ [s] ++ [x] = outN (L.take (j + 1)) s ∧ true = (L.take (j + 1)).any (fun x => decide (s < x))) := by
            obtain ⟨h1, h2, h3⟩ := HS.out
            obtain ⟨e1, e2⟩ := outN_new (L.take j) s x HG.out h3.symm
            rw [HN.out]
            exact ⟨by simp only [List.mem_append, List.mem_singleton, not_or]; exact ⟨h1, fun e => HE.out e.symm⟩, by rw [e1, h2], e2.symm⟩
          have HM2 : Hid (M.length = j) := by
            obtain ⟨h1, h2, h3⟩ := HS.out
            show M.length = j
            unfold outN at h2
            rw [← h3] at h2
            simp only [Bool.false_eq_true, if_false] at h2
            rw [h2, List.length_take]
            omega
          clear HS
          have tk : True := trivial
          go_wp2_with (first
            | (at_builtin; have _t := tk; refine wpList_append_own _ rfl _ _ 24 rfl w.heap.size 9 i0 (.string ByteArray.empty) 1 16 Try.underlying24 hi hz0 hz1 hz2 rfl (by decide) _ _ _ rfl (hown.alloc _) ⟨wr.heap.size, 0, none⟩ 1 1 [.string ⟨s.toArray⟩] rfl rfl (cell_one_new _ _ _) (fun u hu => by simp at hu; subst hu; rfl) (by unfold maxLen; omega) (by omega) (by simp; omega) ?_; intro v1 w1 o1 g1 n1; clear _t tk; have HB1 := (hb.alloc (by omega) (.cells #[.string ⟨s.toArray⟩] 9)).grown g1 (by simp; omega) (fun q hq => (hown.lt q hq).1); have hz1' := HB1.size; have c1' := (HB1.cell (p := ⟨b, o + j, none⟩) hbl).trans HC.out; clear c1)
            | (at_builtin; refine wpList_append_own _ rfl _ _ 24 rfl w.heap.size 9 i0 (.string ByteArray.empty) 1 16 Try.underlying24 hi hz0 hz1 hz2 rfl (by decide) _ _ _ rfl (o1.alloc _) ⟨w1.heap.size, 0, none⟩ 1 1 [.string ⟨x.toArray⟩] rfl rfl (cell_one_new _ _ _) (fun u hu => by simp at hu; subst hu; rfl) (by unfold maxLen; omega) (by omega) (by simp; omega) ?_; intro v2 w2 o2 g2 n2))
          go_roundw
          case rel => exact ⟨j + 1, M ++ [s] ++ [x], true, by omega, by go_num, rfl, by have := HM2.out; simp; omega, HP, by rw [strs_snoc, strs_snoc, List.length_append, List.length_append]; exact o2, (HB1.alloc (by omega) _).grown g2 (by simp; omega) (fun q hq => (o1.lt q hq).1)⟩
          case measure => simp [intOf]; omega
        · have HP : Hid (s ∉ L.take (j + 1) ∧ M ++ [x] = outN (L.take (j + 1)) s ∧ true = (L.take (j + 1)).any (fun x => decide (s < x))) := by
            obtain ⟨h1, h2, h3⟩ := HS.out
            obtain ⟨e1, e2⟩ := outN_yes (L.take j) s x HG.out h3.symm
            rw [HN.out]
            exact ⟨by simp only [List.mem_append, List.mem_singleton, not_or]; exact ⟨h1, fun e => HE.out e.symm⟩, by rw [e1, h2], e2.symm⟩
          clear HS
          go_wp2_with (at_builtin; refine wpList_append_own _ rfl _ _ 24 rfl w.heap.size 9 i0 (.string ByteArray.empty) 1 16 Try.underlying24 hi hz0 hz1 hz2 rfl (by decide) _ _ _ rfl (hown.alloc _) ⟨wr.heap.size, 0, none⟩ 1 1 [.string ⟨(x).toArray⟩] rfl rfl (cell_one_new _ _ _) (fun u hu => by simp at hu; subst hu; rfl) (by unfold maxLen; omega) (by omega) (by simp; omega) ?_; intro v1 w1 o1 g1 n1)
          go_roundw
          case rel => exact ⟨j + 1, M ++ [x], _, by omega, by go_num, rfl, by simp; omega, HP, by rw [strs_snoc, List.length_append]; exact o1, (hb.alloc (by omega) _).grown g1 (by simp; omega) (fun q hq => (hown.lt q hq).1)⟩
          case measure => simp [intOf]; omega
    · have ej : L.take j = L := List.take_of_length_le (by omega)
      obtain ⟨h1, h2, h3⟩ := HS.out
      rw [ej] at h1 h2 h3
      have he := outN_end L s h1
      cases d0
      · have HE : Hid (M ++ [s] = nameB L s) := (show M ++ [s] = nameB L s from by rw [← he, ← h3, h2]; simp)
        clear he h1 h2 h3 ej HS
        go_wp2_with (at_builtin; refine wpList_append_own _ rfl _ _ 24 rfl w.heap.size 9 i0 (.string ByteArray.empty) 1 16 Try.underlying24 hi hz0 hz1 hz2 rfl (by decide) _ _ _ rfl (hown.alloc _) ⟨wr.heap.size, 0, none⟩ 1 1 [.string ⟨(s).toArray⟩] rfl rfl (cell_one_new _ _ _) (fun u hu => by simp at hu; subst hu; rfl) (by unfold maxLen; omega) (by omega) (by simp; omega) ?_; intro v1 w1 o1 g1 n1)
        go_ret
        refine ⟨_, rfl, ?_, (hb.alloc (by omega) _).grown g1 (by simp; omega) (fun q hq => (hown.lt q hq).1)⟩
        rw [← HE.out, strs_snoc, List.length_append]
        exact ownsUpB o1 hb0
      · have HE : Hid (M = nameB L s) := (show M = nameB L s from by rw [← he, ← h3, h2]; simp)
        clear he h1 h2 h3 ej HS
        go_wp2
        go_ret
        rw [← HE.out]
        exact ⟨_, rfl, ownsUpB hown hb0, hb⟩
end Go.Proofs.Ytgbcgchnnmgmfaa.W
