/-
  spec.l4Name: a text is put among others: where it is not there ahead of the first greater one, else nothing turns. (Written by gennam4.py.) No condition but that the texts lie there.
  The walks of both 'IdOf': each answers idOfN, at every text of at most 4194304 bytes; the world stays.
  append to a row of one's own, where something is there behind it: as one step of a region that draws its order. No condition but those named.
-/
import Derived.Test.YthfffpdkmoclbaaGreatDoorMg01
import Derived.Test.YthfffpdkmoclbaaGreatDoorMg14
import Derived.Test.YthfffpdkmoclbaaGreatDoorMg04
import Derived.Test.YthfffpdkmoclbaaGreatDoorMg12
import Derived.WalkKit
import Derived.WalkLawsBesides
import Derived.Outline
import Derived.Test.YthfffpdkmoclbaaGreatDoorMg07
import Derived.Test.YthfffpdkmoclbaaGreatDoorMg11
import Derived.Deep.RegionHeldLaw
import Derived.Deep.AppendLies
namespace Go.Proofs.YthfffpdkmoclbaaGreatDoor.W
open Go.RowKit Go.Proofs.YthfffpdkmoclbaaGreatDoor.M
set_option linter.unusedVariables false

theorem before_done (T R : List (List UInt8)) (s : List UInt8) (h : T.any (fun x => decide (s < x)) = true) : before (T ++ R) s = before T s ++ R := by
  induction T with
  | nil => simp at h
  | cons x l ih =>
    simp only [List.cons_append, before]
    by_cases hx : s < x
    · simp [hx]
    · have : l.any (fun x => decide (s < x)) = true := by simpa [hx] using h
      simp [hx, ih this]
theorem before_none (T R : List (List UInt8)) (s : List UInt8) (h : T.any (fun x => decide (s < x)) = false) : before (T ++ R) s = T ++ before R s := by
  induction T with
  | nil => rfl
  | cons x l ih =>
    have hx : ¬ s < x := by intro hx; simp [hx] at h
    have : l.any (fun x => decide (s < x)) = false := by simpa [hx] using h
    simp only [List.cons_append, before, hx, if_false, ih this]
theorem before_len (T : List (List UInt8)) (s : List UInt8) : (before T s).length = T.length + 1 := by
  induction T with
  | nil => rfl
  | cons x l ih => unfold before; split <;> simp [ih]
/-- what the loop has written -/
def outN (T : List (List UInt8)) (s : List UInt8) : List (List UInt8) := if T.any (fun x => decide (s < x)) = true then before T s else T
theorem outN_len (T : List (List UInt8)) (s : List UInt8) : (outN T s).length ≤ T.length + 1 := by
  unfold outN; split
  · rw [before_len]; exact Nat.le_refl _
  · omega
theorem outN_no (T : List (List UInt8)) (s x : List UInt8) (h : ¬ s < x) : outN (T ++ [x]) s = outN T s ++ [x] ∧ ((T ++ [x]).any fun x => decide (s < x)) = T.any fun x => decide (s < x) := by
  have e : ((T ++ [x]).any fun x => decide (s < x)) = T.any fun x => decide (s < x) := by simp [h]
  refine ⟨?_, e⟩
  unfold outN
  rw [e]
  split
  · rename_i ha; exact before_done T [x] s ha
  · rfl
theorem outN_yes (T : List (List UInt8)) (s x : List UInt8) (h : s < x) (ha : (T.any fun x => decide (s < x)) = true) : outN (T ++ [x]) s = outN T s ++ [x] ∧ ((T ++ [x]).any fun x => decide (s < x)) = true := by
  have e : ((T ++ [x]).any fun x => decide (s < x)) = true := by simp [h]
  refine ⟨?_, e⟩
  unfold outN
  rw [e, ha]
  exact before_done T [x] s ha
theorem outN_new (T : List (List UInt8)) (s x : List UInt8) (h : s < x) (ha : (T.any fun x => decide (s < x)) = false) : outN (T ++ [x]) s = outN T s ++ [s] ++ [x] ∧ ((T ++ [x]).any fun x => decide (s < x)) = true := by
  have e : ((T ++ [x]).any fun x => decide (s < x)) = true := by simp [h]
  refine ⟨?_, e⟩
  unfold outN
  rw [e, ha]
  simp only [if_true, Bool.false_eq_true, if_false]
  rw [before_none T [x] s ha]
  simp [before, h]
theorem outN_end (L : List (List UInt8)) (s : List UInt8) (hs : s ∉ L) : (if (L.any fun x => decide (s < x)) = true then outN L s else outN L s ++ [s]) = nameB L s := by
  unfold nameB outN
  rw [if_neg hs]
  cases ha : L.any fun x => decide (s < x)
  · have := before_none L [] s ha
    simp only [List.append_nil, before] at this
    simp [this]
  · simp
theorem ownsUpB {w : World} {base base' n z : Nat} {e : TypeId} {v : Value} {xs : List Value} (h : w.ownsRow base e z v n xs) (hb : base' ≤ base) : w.ownsRow base' e z v n xs := by
  refine ⟨h.1, ?_⟩
  rcases h.2 with h1 | ⟨g, cap, cur, h1, h2, h3⟩
  · exact .inl h1
  · exact .inr ⟨g, cap, cur, h1, by omega, h3⟩
/-- the address at which a row of texts is read -/
def SAt (w : World) (v : Value) (L : List (List UInt8)) : Prop := ∃ (A : Option Addr) (c : Nat), v = .slice A L.length c ∧ ∀ j (h : j < L.length), ∃ b o, A = some ⟨b, o, none⟩ ∧ b < w.heap.size ∧ w.cell? ⟨b, o + j, none⟩ = some (.string ⟨(L[j]).toArray⟩)
theorem sAt_own {w : World} {base : Nat} {v : Value} {L : List (List UInt8)} (h : w.ownsRow base 9 1 v L.length (strs L)) : SAt w v L := by
  by_cases h0 : 1 ≤ L.length
  · obtain ⟨g, c, rfl, hc⟩ := row_some h h0
    exact ⟨_, c, rfl, fun j hj => ⟨g, 0, rfl, row_lt h, by simpa using hc j hj⟩⟩
  · have e : L = [] := List.eq_nil_of_length_eq_zero (by omega)
    subst e
    obtain ⟨a, c, rfl⟩ := row_none h
    exact ⟨a, c, rfl, fun j hj => by simp at hj⟩

set_option maxRecDepth 100000 in
set_option maxHeartbeats 2000000 in
theorem l4Name_own (v : Value) (L : List (List UInt8)) (s : List UInt8) (base : Nat) (w : World) (hO : w.ownsRow base 9 1 v L.length (strs L)) (hb0 : base ≤ w.heap.size) (hn : L.length ≤ 1048576) :
    Calls Tryz.prog 126 #[v, .string ⟨s.toArray⟩] w fun e w' => ∃ v', e = .returned v' ∧ w'.ownsRow base 9 1 v' (nameB L s).length (strs (nameB L s)) ∧ Below w.heap.size w w' := by
  obtain ⟨i0, hi, hz0, hz1, hz2⟩ := info_parts info9
  obtain ⟨A, c, rfl, hR⟩ := sAt_own hO
  have HR : Hid (∀ j (h : j < L.length), ∃ b o, A = some ⟨b, o, none⟩ ∧ b < w.heap.size ∧ w.cell? ⟨b, o + j, none⟩ = some (.string ⟨(L[j]).toArray⟩)) := hR
  have HO : Hid (w.ownsRow base 9 1 (.slice A L.length c) L.length (strs L)) := hO
  clear hR hO
  go_enter Tryz.func126, Tryz.ntmps126
  go_wp2
  go_loopw [5, 6, 7] (fun v d iv wr => ∃ (j : Nat) (M : List (List UInt8)) (d0 : Bool), j ≤ L.length ∧ iv = .int .i64 j ∧ d = .bool d0 ∧ M.length ≤ j + 1 ∧ Hid (s ∉ L.take j ∧ M = outN (L.take j) s ∧ d0 = (L.take j).any (fun x => decide (s < x))) ∧ wr.ownsRow w.heap.size 9 1 v M.length (strs M) ∧ Below w.heap.size w wr) (fun _ _ i _ => L.length - (intOf i).toNat)
  case atStart => exact ⟨0, [], false, Nat.zero_le _, rfl, rfl, Nat.zero_le _, ⟨by simp, by simp [outN], by simp⟩, World.ownsRow_lit w #[] 0 (Nat.le_refl _) (by unfold maxLen; omega) rfl, (Below.refl _ _).alloc (Nat.le_refl _) _⟩
  case round =>
    obtain ⟨j, M, d0, hj, rfl, rfl, hM, HS, hown, hb⟩ := hrel
    have hsz := hb.size
    by_cases hlt : j < L.length
    · obtain ⟨b, o, rfl, hbl, hc⟩ := HR.out j hlt
      have c1 := (hb.cell (p := ⟨b, o + j, none⟩) hbl).trans hc
      have hsn := List.take_succ_eq_append_getElem hlt
      obtain ⟨x, hx⟩ : ∃ x, L[j] = x := ⟨_, rfl⟩
      rw [hx] at c1 hsn
      have HX : Hid (L[j] = x) := hx
      rw [hx] at hc
      have HC : Hid (w.cell? ⟨b, o + j, none⟩ = some (.string ⟨x.toArray⟩)) := hc
      have HN : Hid (L.take (j + 1) = L.take j ++ [x]) := hsn
      clear hc hx hsn
      rcases tri x s with hlts | rfl | hgts
      · have q1 : (x == s) = false := by simpa using fun e : x = s => absurd (e ▸ hlts) (List.lt_irrefl s)
        have q2 : Op.bytesLess x s = true := by rw [bl_lt]; simpa using hlts
        have HG : Hid (¬ s < x) := fun h => absurd (List.lt_trans h hlts) (List.lt_irrefl s)
        have HE : Hid (x ≠ s) := fun e => absurd (e ▸ hlts) (List.lt_irrefl s)
        clear hlts
        have HP : Hid (s ∉ L.take (j + 1) ∧ M ++ [x] = outN (L.take (j + 1)) s ∧ d0 = (L.take (j + 1)).any (fun x => decide (s < x))) := by
          obtain ⟨h1, h2, h3⟩ := HS.out
          obtain ⟨e1, e2⟩ := outN_no (L.take j) s x HG.out
          rw [HN.out]
          exact ⟨by simp only [List.mem_append, List.mem_singleton, not_or]; exact ⟨h1, fun e => HE.out e.symm⟩, by rw [e1, h2], by rw [e2]; exact h3⟩
        clear HS
        cases d0
        · go_wp2_with (at_builtin; refine wpList_append_own _ rfl _ _ 51 rfl w.heap.size 9 i0 (.string ByteArray.empty) 1 16 Tryz.underlying51 hi hz0 hz1 hz2 rfl (by decide) _ _ _ rfl (hown.alloc _) ⟨wr.heap.size, 0, none⟩ 1 1 [.string ⟨(x).toArray⟩] rfl rfl (cell_one_new _ _ _) (fun u hu => by simp at hu; subst hu; rfl) (by unfold maxLen; omega) (by omega) (by simp; omega) ?_; intro v1 w1 o1 g1 n1)
          go_roundw
          case rel => exact ⟨j + 1, M ++ [x], _, by omega, by go_num, rfl, by simp; omega, HP, by rw [strs_snoc, List.length_append]; exact o1, (hb.alloc (by omega) _).grown g1 (by simp; omega) (fun q hq => (hown.lt q hq).1)⟩
          case measure => simp [intOf]; omega
        · go_wp2_with (at_builtin; refine wpList_append_own _ rfl _ _ 51 rfl w.heap.size 9 i0 (.string ByteArray.empty) 1 16 Tryz.underlying51 hi hz0 hz1 hz2 rfl (by decide) _ _ _ rfl (hown.alloc _) ⟨wr.heap.size, 0, none⟩ 1 1 [.string ⟨(x).toArray⟩] rfl rfl (cell_one_new _ _ _) (fun u hu => by simp at hu; subst hu; rfl) (by unfold maxLen; omega) (by omega) (by simp; omega) ?_; intro v1 w1 o1 g1 n1)
          go_roundw
          case rel => exact ⟨j + 1, M ++ [x], _, by omega, by go_num, rfl, by simp; omega, HP, by rw [strs_snoc, List.length_append]; exact o1, (hb.alloc (by omega) _).grown g1 (by simp; omega) (fun q hq => (hown.lt q hq).1)⟩
          case measure => simp [intOf]; omega
      · clear HS hown HN
        go_wp2
        go_ret
        have hmem : x ∈ L := HX.out ▸ List.getElem_mem hlt
        have e : nameB L x = L := by unfold nameB; rw [if_pos hmem]
        rw [e]
        exact ⟨_, rfl, ownsUnder HO.out hb (Nat.le_refl _), hb⟩
      · have q1 : (x == s) = false := by simpa using fun e : x = s => absurd (e ▸ hgts) (List.lt_irrefl s)
        have q2 : Op.bytesLess x s = false := by rw [bl_lt]; exact decide_eq_false (fun h => absurd (List.lt_trans h hgts) (List.lt_irrefl x))
        have HG : Hid (s < x) := hgts
        have HE : Hid (x ≠ s) := fun e => absurd (e ▸ hgts) (List.lt_irrefl s)
        clear hgts
        cases d0
        · have HP : Hid (s ∉ L.take (j + 1) ∧ M ++ [s] ++ [x] = outN (L.take (j + 1)) s ∧ true = (L.take (j + 1)).any (fun x => decide (s < x))) := by
            obtain ⟨h1, h2, h3⟩ := HS.out
            obtain ⟨e1, e2⟩ := outN_new (L.take j) s x HG.out h3.symm
            rw [HN.out]
            exact ⟨by simp only [List.mem_append, List.mem_singleton, not_or]; exact ⟨h1, fun e => HE.out e.symm⟩, by rw [e1, h2], e2.symm⟩
          have HM2 : Hid (M.length = j) := by
            obtain ⟨h1, h2, h3⟩ := HS.out
            show M.length = j
            unfold outN at h2
            rw [← h3] at h2
            simp only [Bool.false_eq_true, if_false] at h2
            rw [h2, List.length_take]
            omega
          clear HS
          have tk : True := trivial
          go_wp2_with (first
            | (at_builtin; have _t := tk; refine wpList_append_own _ rfl _ _ 51 rfl w.heap.size 9 i0 (.string ByteArray.empty) 1 16 Tryz.underlying51 hi hz0 hz1 hz2 rfl (by decide) _ _ _ rfl (hown.alloc _) ⟨wr.heap.size, 0, none⟩ 1 1 [.string ⟨s.toArray⟩] rfl rfl (cell_one_new _ _ _) (fun u hu => by simp at hu; subst hu; rfl) (by unfold maxLen; omega) (by omega) (by simp; omega) ?_; intro v1 w1 o1 g1 n1; clear _t tk; have HB1 := (hb.alloc (by omega) (.cells #[.string ⟨s.toArray⟩] 9)).grown g1 (by simp; omega) (fun q hq => (hown.lt q hq).1); have hz1' := HB1.size; have c1' := (HB1.cell (p := ⟨b, o + j, none⟩) hbl).trans HC.out; clear c1)
            | (at_builtin; refine wpList_append_own _ rfl _ _ 51 rfl w.heap.size 9 i0 (.string ByteArray.empty) 1 16 Tryz.underlying51 hi hz0 hz1 hz2 rfl (by decide) _ _ _ rfl (o1.alloc _) ⟨w1.heap.size, 0, none⟩ 1 1 [.string ⟨x.toArray⟩] rfl rfl (cell_one_new _ _ _) (fun u hu => by simp at hu; subst hu; rfl) (by unfold maxLen; omega) (by omega) (by simp; omega) ?_; intro v2 w2 o2 g2 n2))
          go_roundw
          case rel => exact ⟨j + 1, M ++ [s] ++ [x], true, by omega, by go_num, rfl, by have := HM2.out; simp; omega, HP, by rw [strs_snoc, strs_snoc, List.length_append, List.length_append]; exact o2, (HB1.alloc (by omega) _).grown g2 (by simp; omega) (fun q hq => (o1.lt q hq).1)⟩
          case measure => simp [intOf]; omega
        · have HP : Hid (s ∉ L.take (j + 1) ∧ M ++ [x] = outN (L.take (j + 1)) s ∧ true = (L.take (j + 1)).any (fun x => decide (s < x))) := by
            obtain ⟨h1, h2, h3⟩ := HS.out
            obtain ⟨e1, e2⟩ := outN_yes (L.take j) s x HG.out h3.symm
            rw [HN.out]
            exact ⟨by simp only [List.mem_append, List.mem_singleton, not_or]; exact ⟨h1, fun e => HE.out e.symm⟩, by rw [e1, h2], e2.symm⟩
          clear HS
          go_wp2_with (at_builtin; refine wpList_append_own _ rfl _ _ 51 rfl w.heap.size 9 i0 (.string ByteArray.empty) 1 16 Tryz.underlying51 hi hz0 hz1 hz2 rfl (by decide) _ _ _ rfl (hown.alloc _) ⟨wr.heap.size, 0, none⟩ 1 1 [.string ⟨(x).toArray⟩] rfl rfl (cell_one_new _ _ _) (fun u hu => by simp at hu; subst hu; rfl) (by unfold maxLen; omega) (by omega) (by simp; omega) ?_; intro v1 w1 o1 g1 n1)
          go_roundw
          case rel => exact ⟨j + 1, M ++ [x], _, by omega, by go_num, rfl, by simp; omega, HP, by rw [strs_snoc, List.length_append]; exact o1, (hb.alloc (by omega) _).grown g1 (by simp; omega) (fun q hq => (hown.lt q hq).1)⟩
          case measure => simp [intOf]; omega
    · have ej : L.take j = L := List.take_of_length_le (by omega)
      obtain ⟨h1, h2, h3⟩ := HS.out
      rw [ej] at h1 h2 h3
      have he := outN_end L s h1
      cases d0
      · have HE : Hid (M ++ [s] = nameB L s) := (show M ++ [s] = nameB L s from by rw [← he, ← h3, h2]; simp)
        clear he h1 h2 h3 ej HS
        go_wp2_with (at_builtin; refine wpList_append_own _ rfl _ _ 51 rfl w.heap.size 9 i0 (.string ByteArray.empty) 1 16 Tryz.underlying51 hi hz0 hz1 hz2 rfl (by decide) _ _ _ rfl (hown.alloc _) ⟨wr.heap.size, 0, none⟩ 1 1 [.string ⟨(s).toArray⟩] rfl rfl (cell_one_new _ _ _) (fun u hu => by simp at hu; subst hu; rfl) (by unfold maxLen; omega) (by omega) (by simp; omega) ?_; intro v1 w1 o1 g1 n1)
        go_ret
        refine ⟨_, rfl, ?_, (hb.alloc (by omega) _).grown g1 (by simp; omega) (fun q hq => (hown.lt q hq).1)⟩
        rw [← HE.out, strs_snoc, List.length_append]
        exact ownsUpB o1 hb0
      · have HE : Hid (M = nameB L s) := (show M = nameB L s from by rw [← he, ← h3, h2]; simp)
        clear he h1 h2 h3 ej HS
        go_wp2
        go_ret
        rw [← HE.out]
        exact ⟨_, rfl, ownsUpB hown hb0, hb⟩
end Go.Proofs.YthfffpdkmoclbaaGreatDoor.W
namespace Go.Proofs.YthfffpdkmoclbaaGreatDoor.W
open Go.RowKit Go.Proofs.YthfffpdkmoclbaaGreatDoor.M

set_option maxHeartbeats 400000 in
theorem idOf_spec (s : ByteArray) (w : World) (hs : s.size ≤ 4194304) :
    Calls Tryz.prog 55 #[.string s] w fun e w' => e = .returned (.int .i64 (idOfN s.data.toList)) ∧ w = w' := by
  go_enter Tryz.func55, Tryz.ntmps55
  go_wp2
  go_loop [3, 4] (fun x i => ∃ k y : Nat, k ≤ s.size ∧ i = .int .i64 k ∧ x = .int .i64 y ∧ y < 4294967296 ∧ y = idFold (2166136261 + s.size) (s.data.toList.take k)) (fun _ i => s.size - (intOf i).toNat)
  case atStart => exact ⟨0, 2166136261 + s.size, Nat.zero_le _, rfl, by go_num, by omega, rfl⟩
  case round =>
    obtain ⟨k, y, hk, rfl, rfl, hy, hf⟩ := hrel
    have HF : Hid (y = idFold (2166136261 + s.size) (s.data.toList.take k)) := hf
    clear hf
    by_cases hlt : k < s.size
    · go_wp2
      go_round
      case rel =>
        have e := step_i64 y s[k] hy
        refine ⟨k + 1, idStep y s[k], by omega, by go_num, ?_, idStep_lt _ _, ?_⟩
        · exact congrArg _ e
        · rw [take_snoc s k hlt, idFold_snoc, ← HF.out]
      case measure => simp [intOf]; omega
    · go_wp2
      all_goals
        have hf : y = idFold (2166136261 + s.data.toList.length) s.data.toList := by
          have := HF.out; rw [List.take_of_length_le (by simp; omega)] at this; simpa using this
        have ht := ‹(_ == (0 : Int)) = _›
        rw [fin_i64 y] at ht
        go_ret
      · exact ⟨ret_int (idOf_one _ y hf (by simpa using ht)), rfl⟩
      · exact ⟨ret_int (by rw [fin_i64 y]; exact idOf_fin _ y hf (by simpa using ht)), rfl⟩

set_option maxHeartbeats 400000 in
theorem idOf_impl (s : ByteArray) (w : World) (hs : s.size ≤ 4194304) :
    Calls Tryz.prog 17 #[.string s] w fun e w' => e = .returned (.int .i64 (idOfN s.data.toList)) ∧ w = w' := by
  go_enter Tryz.func17, Tryz.ntmps17
  go_wp2
  go_loop [3, 4, 11] (fun x _ i => ∃ k y : Nat, k ≤ s.size ∧ i = .int .i64 k ∧ x = .int .u32 y ∧ y < 4294967296 ∧ y = idFold (2166136261 + s.size) (s.data.toList.take k)) (fun _ _ i => s.size - (intOf i).toNat)
  case atStart => exact ⟨0, 2166136261 + s.size, Nat.zero_le _, rfl, by go_num, by omega, rfl⟩
  case round =>
    obtain ⟨k, y, hk, rfl, rfl, hy, hf⟩ := hrel
    have HF : Hid (y = idFold (2166136261 + s.size) (s.data.toList.take k)) := hf
    clear hf
    by_cases hlt : k < s.size
    · go_wp2
      go_round
      case rel =>
        have e := step_u32 y s[k] hy
        refine ⟨k + 1, idStep y s[k], by omega, by go_num, ?_, idStep_lt _ _, ?_⟩
        · exact congrArg _ e
        · rw [take_snoc s k hlt, idFold_snoc, ← HF.out]
      case measure => simp [intOf]; omega
    · go_wp2
      all_goals
        have hf : y = idFold (2166136261 + s.data.toList.length) s.data.toList := by
          have := HF.out; rw [List.take_of_length_le (by simp; omega)] at this; simpa using this
        have ht := ‹(_ == (0 : Int)) = _›
        rw [fin_u32 y] at ht
        go_ret
      · exact ⟨ret_int (idOf_one _ y hf (by simpa using ht)), rfl⟩
      · exact ⟨ret_int (by rw [fin_u32 y, w64_nat _ (idFin_lt y)]; exact idOf_fin _ y hf (by simpa using ht)), rfl⟩
end Go.Proofs.YthfffpdkmoclbaaGreatDoor.W
namespace Go.Proofs.YthfffpdkmoclbaaGreatDoor.W
open Go.RowKit Go.Lib

section
variable {P : Program} {w : World}
/-- append to a row of one's own, where something is there behind it -/
theorem runApp (t ty : TypeId) (base : Nat) (e : TypeId) (i : TypeInfo) (z : Value) (size bytes : Nat) (ht : P.underlying t = some (.slice e)) (hi : P.info? e = some i) (hz : i.zero = some z)
    (hsize : i.size = size) (hby : i.bytes = bytes) (hzs : z.cells.size = size) (hsz : 0 < size)
    (v : Value) (n : Nat) (xs : List Value) (hown : w.ownsRow base e size v n xs)
    (ad : Addr) (m c : Nat) (news : List Value) (hl : news.length = m * size) (hnews : ∀ j u, news[j]? = some u → w.cell? (ad.add j) = some u) (h1 : ∀ u ∈ news, u.oneCell' = true)
    (hnm : v ≠ .slice none 0 0) (h63 : n + m ≤ maxLen) (hbytes : (n + m) * bytes ≤ 140737488355328) (hbase : base ≤ w.heap.size) :
    ∃ g cap w', (Builtin.append_ #[t, t] ty #[v, .slice (some ad) m c]).run P w = .ok (.slice (some ⟨g, 0, none⟩) (n + m) cap) w' ∧
      w'.ownsRow base e size (.slice (some ⟨g, 0, none⟩) (n + m) cap) (n + m) (xs ++ news) ∧ w.grownBy w' v.ownBlock := by
  obtain ⟨v', w', hr, h2, h3, h4, _⟩ := Go.run_append_own_at (P := P) w base t ty e i z size bytes ht hi hz hsize hby hzs hsz v n xs hown ad m c news hl hnews h1 h63 hbytes hbase
  rcases h2.2 with ⟨h5, _⟩ | ⟨g, cap, cur, rfl, _⟩
  · exact absurd (h4.1 h5).1 hnm
  · exact ⟨g, cap, w', hr, h2, h3⟩
theorem wpApp {o : Oper} {a : Act} {K : Act → World → Prop} {Q : Exit → Act → World → Prop} (s x : Operand) (t : TypeId)
    (ho : o.op = .call { callee := .builtin .append, args := #[s, x], argTypes := #[t, t] })
    (base : Nat) (e : TypeId) (i : TypeInfo) (z : Value) (size bytes : Nat) (ht : P.underlying t = some (.slice e)) (hi : P.info? e = some i) (hz : i.zero = some z)
    (hsize : i.size = size) (hby : i.bytes = bytes) (hzs : z.cells.size = size) (hsz : 0 < size)
    (v : Value) (n : Nat) (xs : List Value) (hs : a.eval s = v) (hown : w.ownsRow base e size v n xs)
    (ad : Addr) (m c : Nat) (news : List Value) (hx : a.eval x = .slice (some ad) m c) (hl : news.length = m * size) (hnews : ∀ j u, news[j]? = some u → w.cell? (ad.add j) = some u) (h1 : ∀ u ∈ news, u.oneCell' = true)
    (hnm : v ≠ .slice none 0 0) (h63 : n + m ≤ maxLen) (hbytes : (n + m) * bytes ≤ 140737488355328) (hbase : base ≤ w.heap.size)
    (h : ∀ g cap w', w'.ownsRow base e size (.slice (some ⟨g, 0, none⟩) (n + m) cap) (n + m) (xs ++ news) → w.grownBy w' v.ownBlock → K (a.put o.dst (.slice (some ⟨g, 0, none⟩) (n + m) cap)) w') : o.wp P a w K Q := by
  obtain ⟨g, cap, w', hr, h2, h3⟩ := runApp (P := P) t o.type base e i z size bytes ht hi hz hsize hby hzs hsz v n xs hown ad m c news hl hnews h1 hnm h63 hbytes hbase
  unfold Oper.wp execOp
  simp only [ho, resolve, invoke, builtin, Sem.run_bind, Sem.run_pure, Result.andThen_ok, List.map_toArray, List.map_cons, List.map_nil, hs, hx, hr]
  exact h g cap w' h2 h3
theorem stepApp {ops : Array Oper} {o : Oper} {a : Act} {K : Act → World → Prop} {Q : Exit → Act → World → Prop} {E : Prop} (hgd : o.guard = none) (s x : Operand) (t : TypeId)
    (ho : o.op = .call { callee := .builtin .append, args := #[s, x], argTypes := #[t, t] })
    (base : Nat) (e : TypeId) (i : TypeInfo) (z : Value) (size bytes : Nat) (ht : P.underlying t = some (.slice e)) (hi : P.info? e = some i) (hz : i.zero = some z)
    (hsize : i.size = size) (hby : i.bytes = bytes) (hzs : z.cells.size = size) (hsz : 0 < size)
    (v : Value) (n : Nat) (xs : List Value) (hs : a.eval s = v) (hown : w.ownsRow base e size v n xs)
    (ad : Addr) (m c : Nat) (news : List Value) (hx : a.eval x = .slice (some ad) m c) (hl : news.length = m * size) (hnews : ∀ j u, news[j]? = some u → w.cell? (ad.add j) = some u) (h1 : ∀ u ∈ news, u.oneCell' = true)
    (hnm : v ≠ .slice none 0 0) (h63 : n + m ≤ maxLen) (hbytes : (n + m) * bytes ≤ 140737488355328) (hbase : base ≤ w.heap.size)
    (h : ∀ g cap w', w'.ownsRow base e size (.slice (some ⟨g, 0, none⟩) (n + m) cap) (n + m) (xs ++ news) → w.grownBy w' v.ownBlock → K (a.put o.dst (.slice (some ⟨g, 0, none⟩) (n + m) cap)) w') :
    if Region.wanted o (yielded ops a.tmps) = true then Oper.wp P o a w K Q else E := by
  have hw : Region.wanted o (yielded ops a.tmps) = true := by simp [Region.wanted, hgd]
  rw [if_pos hw]
  exact wpApp s x t ho base e i z size bytes ht hi hz hsize hby hzs hsz v n xs hs hown ad m c news hx hl hnews h1 hnm h63 hbytes hbase h
end
theorem stepApp2 {P : Program} {w : World} {ops : Array Oper} {o : Oper} {a : Act} {K : Act → World → Prop} {Q : Exit → Act → World → Prop} {E : Prop} (d : Tmp) (hd : o.dst = some d) (hgd : o.guard = none) (s x : Operand) (t : TypeId)
    (ho : o.op = .call { callee := .builtin .append, args := #[s, x], argTypes := #[t, t] })
    (base : Nat) (e : TypeId) (i : TypeInfo) (z : Value) (size bytes : Nat) (ht : P.underlying t = some (.slice e)) (hi : P.info? e = some i) (hz : i.zero = some z)
    (hsize : i.size = size) (hby : i.bytes = bytes) (hzs : z.cells.size = size) (hsz : 0 < size)
    (v : Value) (n : Nat) (xs : List Value) (hs : a.eval s = v) (hown : w.ownsRow base e size v n xs)
    (ad : Addr) (m c : Nat) (news : List Value) (hx : a.eval x = .slice (some ad) m c) (hl : news.length = m * size) (hnews : ∀ j u, news[j]? = some u → w.cell? (ad.add j) = some u) (h1 : ∀ u ∈ news, u.oneCell' = true)
    (hnm : v ≠ .slice none 0 0) (h63 : n + m ≤ maxLen) (hbytes : (n + m) * bytes ≤ 140737488355328) (hbase : base ≤ w.heap.size)
    (h : ∀ g cap w', w'.ownsRow base e size (.slice (some ⟨g, 0, none⟩) (n + m) cap) (n + m) (xs ++ news) → w.grownBy w' v.ownBlock → K (a.put (some d) (.slice (some ⟨g, 0, none⟩) (n + m) cap)) w') :
    if Region.wanted o (yielded ops a.tmps) = true then Oper.wp P o a w K Q else E :=
  stepApp hgd s x t ho base e i z size bytes ht hi hz hsize hby hzs hsz v n xs hs hown ad m c news hx hl hnews h1 hnm h63 hbytes hbase fun g cap w' h2 h3 => by rw [hd]; exact h g cap w' h2 h3
/-- append to a row of one's own, as a step of a list: where the outcome lies is told besides -/
theorem wpL_app {P : Program} {w : World} {ops : Array Oper} {rest : List Oper} {o : Oper} {a : Act} {Q : Exit → Act → World → Prop} (hgd : o.guard = none) (s x : Operand) (t : TypeId)
    (ho : o.op = .call { callee := .builtin .append, args := #[s, x], argTypes := #[t, t] })
    (base : Nat) (e : TypeId) (i : TypeInfo) (z : Value) (size bytes : Nat) (ht : P.underlying t = some (.slice e)) (hi : P.info? e = some i) (hz : i.zero = some z)
    (hsize : i.size = size) (hby : i.bytes = bytes) (hzs : z.cells.size = size) (hsz : 0 < size)
    (v : Value) (n : Nat) (xs : List Value) (hs : a.eval s = v) (hown : w.ownsRow base e size v n xs)
    (ad : Addr) (m c : Nat) (news : List Value) (hx : a.eval x = .slice (some ad) m c) (hl : news.length = m * size) (hnews : ∀ j u, news[j]? = some u → w.cell? (ad.add j) = some u) (h1 : ∀ u ∈ news, u.oneCell' = true)
    (h63 : n + m ≤ maxLen) (hbytes : (n + m) * bytes ≤ 140737488355328) (hbase : base ≤ w.heap.size)
    (h : ∀ v' w', w'.ownsRow base e size v' (n + m) (xs ++ news) → w.grownBy w' v.ownBlock → (v'.ownBlock = v.ownBlock ∨ v'.ownBlock = some w.heap.size) → wpList P ops Q rest (a.put o.dst v') w') : wpList P ops Q (o :: rest) a w := by
  obtain ⟨v', w', hr, h2, h3, _, h5⟩ := Go.run_append_own_at (P := P) w base t o.type e i z size bytes ht hi hz hsize hby hzs hsz v n xs hown ad m c news hl hnews h1 h63 hbytes hbase
  refine wpList_plain hgd fun K hK => ?_
  unfold Oper.wp execOp
  simp only [ho, resolve, invoke, builtin, Sem.run_bind, Sem.run_pure, Result.andThen_ok, List.map_toArray, List.map_cons, List.map_nil, hs, hx, hr]
  exact hK _ _ (h v' w' h2 h3 h5)
theorem stepApp3 {P : Program} {w : World} {ops : Array Oper} {o : Oper} {a : Act} {K : Act → World → Prop} {Q : Exit → Act → World → Prop} {E : Prop} (d : Tmp) (hd : o.dst = some d) (hgd : o.guard = none) (s x : Operand) (t : TypeId)
    (ho : o.op = .call { callee := .builtin .append, args := #[s, x], argTypes := #[t, t] })
    (base : Nat) (e : TypeId) (i : TypeInfo) (z : Value) (size bytes : Nat) (ht : P.underlying t = some (.slice e)) (hi : P.info? e = some i) (hz : i.zero = some z)
    (hsize : i.size = size) (hby : i.bytes = bytes) (hzs : z.cells.size = size) (hsz : 0 < size)
    (v : Value) (n : Nat) (xs : List Value) (hs : a.eval s = v) (hown : w.ownsRow base e size v n xs)
    (ad : Addr) (m c : Nat) (news : List Value) (hx : a.eval x = .slice (some ad) m c) (hl : news.length = m * size) (hnews : ∀ j u, news[j]? = some u → w.cell? (ad.add j) = some u) (h1 : ∀ u ∈ news, u.oneCell' = true)
    (h63 : n + m ≤ maxLen) (hbytes : (n + m) * bytes ≤ 140737488355328) (hbase : base ≤ w.heap.size)
    (h : ∀ v' w', w'.ownsRow base e size v' (n + m) (xs ++ news) → w.grownBy w' v.ownBlock → (v'.ownBlock = v.ownBlock ∨ v'.ownBlock = some w.heap.size) → K (a.put (some d) v') w') :
    if Region.wanted o (yielded ops a.tmps) = true then Oper.wp P o a w K Q else E := by
  have hw : Region.wanted o (yielded ops a.tmps) = true := by simp [Region.wanted, hgd]
  rw [if_pos hw]
  obtain ⟨v', w', hr, h2, h3, _, h5⟩ := Go.run_append_own_at (P := P) w base t o.type e i z size bytes ht hi hz hsize hby hzs hsz v n xs hown ad m c news hl hnews h1 h63 hbytes hbase
  unfold Oper.wp execOp
  simp only [ho, resolve, invoke, builtin, Sem.run_bind, Sem.run_pure, Result.andThen_ok, List.map_toArray, List.map_cons, List.map_nil, hs, hx, hr]
  have h9 := h v' w' h2 h3 h5
  rw [← hd] at h9
  exact h9
end Go.Proofs.YthfffpdkmoclbaaGreatDoor.W
