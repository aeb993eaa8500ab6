
/-
  HseNew of the specification and of the program: a house at its beginning, as it is kept. Rows of at most 1048576 numbers. (Written by genhsenew.py.)
-/
import Derived.Test.YtknbmgdfcejlkaaWalkHseQ
namespace Go.Proofs.Ytknbmgdfcejlkaa.W
open Go.RowKit
set_option linter.unusedVariables false

theorem HS.cell {W : World} {b p k : Nat} {vk vu vr u : Value} {K U A : List Int} {cs : Array Value} {t : TypeId} (h : HS W b vk vu vr K U A) (hp : W.heap[p]? = some (.cells cs t (0, 0))) (n1 : t ≠ 3) (n2 : t ≠ 45) : HS (W.setCell ⟨p, k, none⟩ u) b vk vu vr K U A :=
  h.by_ (grownBy_set W p k u) (fun g q e => by
    cases e
    rcases q with q | q | q
    · exact type_ne h.1 hp n1 q
    · exact type_ne h.2.1 hp n1 q
    · exact type_ne h.2.2.1 hp n2 q)
theorem HS.row {W W' : World} {b b' n z : Nat} {vk vu vr v : Value} {K U A : List Int} {xs : List Value} {t : TypeId} (h : HS W b vk vu vr K U A) (ho : W.ownsRow b' t z v n xs) (hg : W.grownBy W' v.ownBlock) (n1 : t ≠ 3) (n2 : t ≠ 45) : HS W' b vk vu vr K U A :=
  h.by_ hg (fun g q e => by
    rcases q with q | q | q
    · exact types_ne ho h.1 n1 g e q
    · exact types_ne ho h.2.1 n1 g e q
    · exact types_ne ho h.2.2.1 n2 g e q)
theorem HK.cell {W : World} {b p k : Nat} {vk vu vr u : Value} {K U A : List Int} {cs : Array Value} {t : TypeId} (h : HK W b vk vu vr K U A) (hp : W.heap[p]? = some (.cells cs t (0, 0))) (n1 : t ≠ 3) (n2 : t ≠ 51) : HK (W.setCell ⟨p, k, none⟩ u) b vk vu vr K U A :=
  h.by_ (grownBy_set W p k u) (fun g q e => by
    cases e
    rcases q with q | q | q
    · exact type_ne h.1 hp n1 q
    · exact type_ne h.2.1 hp n1 q
    · exact type_ne h.2.2.1 hp n2 q)
theorem HK.down {W : World} {b b' : Nat} {vk vu vr : Value} {K U A : List Int} (h : HK W b vk vu vr K U A) (hb : b' ≤ b) : HK W b' vk vu vr K U A := ⟨ownsDown h.1 hb, ownsDown h.2.1 hb, ownsDown h.2.2.1 hb, h.2.2.2⟩
theorem newA_small (K A : List Int) : (newA K A).length ≤ 3 := by
  unfold newA
  split
  · rename_i h
    rw [newB_parts, Bool.and_eq_true, Bool.and_eq_true, Bool.and_eq_true] at h
    have h2 := h.2.1
    unfold inB at h2
    rw [Bool.and_eq_true, decide_eq_true_eq, decide_eq_true_eq] at h2
    omega
  · exact Nat.zero_le _
abbrev N10 : Array Value := #[.slice none 0 0, .slice none 0 0, .slice none 0 0, .slice none 0 0, .slice none 0 0, .slice none 0 0, .int .i64 0, .slice none 0 0, .slice none 0 0, .slice none 0 0]
def HseAt (K' U' A' : List Int) (base : Nat) (e : Ending) (w' : World) : Prop :=
  ∃ Aa ca Ab cb Ac cc, e = .returned (.agg #[.slice Aa K'.length ca, .slice Ab U'.length cb, .slice Ac A'.length cc, .slice none 0 0, .slice none 0 0, .slice none 0 0, .int .i64 0, .slice none 0 0, .slice none 0 0, .slice none 0 0]) ∧ HK w' base (.slice Aa K'.length ca) (.slice Ab U'.length cb) (.slice Ac A'.length cc) K' U' A'
set_option maxRecDepth 100000 in
set_option maxHeartbeats 8000000 in
theorem hseNew_spec {b b' : Nat} (v v' : Value) (K A : List Int) (w : World) (h : w.ownsRow b 3 1 v K.length (cellsI K)) (h' : w.ownsRow b' 3 1 v' A.length (cellsI A)) (hk : K.length ≤ 1048576) (ha : A.length ≤ 1048576) :
    Calls Try.prog 13 #[v, v'] w fun e w' => HseAt (newK K A) (newU K A) (newA K A) w.heap.size e w' ∧ Below w.heap.size w w' := by
  have HC : Hid (∀ w0 : World, w0 = w.alloc (.cells N10 37) → Calls Try.prog 5 #[v, v'] w0 fun e w' => NewAt (newK K A) (newU K A) (newA K A) w0.heap.size e w' ∧ Below w0.heap.size w0 w') := fun w0 e => by subst e; exact newS_of v v' K A _ (h.alloc _) (h'.alloc _) hk ha
  have hA3 := newA_small K A
  generalize newK K A = K' at *
  generalize newU K A = U' at *
  generalize newA K A = A' at *
  have R0 := hpNew w (.cells N10 37)
  have HR0 : Hid ((w.alloc (.cells N10 37)).heap[w.heap.size]? = some (.cells N10 37 (0, 0))) := R0
  clear h h' R0
  go_enter Try.func13, Try.ntmps13
  go_wp2_with (go_at_call 5; refine (HC.out _ rfl).mono ?_; rintro e w1 ⟨an, hb1⟩; obtain ⟨Aa, ca, Ab, cb, Ac, cc, rfl, HS1⟩ := an; have z1 := hb1.size; simp only [World.size_alloc] at z1 HS1; have R1 := hpBelow HR0.out hb1 (by simp); have B1 : Below w.heap.size w w1 := ((Below.refl _ w).alloc (Nat.le_refl _) _).trans (hb1.mono (by simp)))
  have al : Below w1.heap.size w1 ((w1.alloc (.cells #[.slice Aa K'.length ca, .slice Ab U'.length cb, .slice Ac A'.length cc] 25)).alloc (.cells #[.slice Aa K'.length ca, .slice Ab U'.length cb, .slice none 0 0, .slice none 0 0, .slice none 0 0, .slice none 0 0, .int .i64 0, .slice none 0 0, .slice none 0 0, .slice none 0 0] 37)) := ((Below.refl _ _).alloc (Nat.le_refl _) _).alloc (by simp) _
  have R2 := hpBelow R1 al (by omega)
  have M2 : ((w1.alloc (.cells #[.slice Aa K'.length ca, .slice Ab U'.length cb, .slice Ac A'.length cc] 25)).alloc (.cells #[.slice Aa K'.length ca, .slice Ab U'.length cb, .slice none 0 0, .slice none 0 0, .slice none 0 0, .slice none 0 0, .int .i64 0, .slice none 0 0, .slice none 0 0, .slice none 0 0] 37)).heap[w1.heap.size]? = some (.cells #[.slice Aa K'.length ca, .slice Ab U'.length cb, .slice Ac A'.length cc] 25 (0, 0)) := hpBelow (hpNew w1 _) ((Below.refl _ _).alloc (Nat.le_refl _) _) (by simp)
  have H2 : ((w1.alloc (.cells #[.slice Aa K'.length ca, .slice Ab U'.length cb, .slice Ac A'.length cc] 25)).alloc (.cells #[.slice Aa K'.length ca, .slice Ab U'.length cb, .slice none 0 0, .slice none 0 0, .slice none 0 0, .slice none 0 0, .int .i64 0, .slice none 0 0, .slice none 0 0, .slice none 0 0] 37)).heap[w1.heap.size + 1]? = some (.cells #[.slice Aa K'.length ca, .slice Ab U'.length cb, .slice none 0 0, .slice none 0 0, .slice none 0 0, .slice none 0 0, .int .i64 0, .slice none 0 0, .slice none 0 0, .slice none 0 0] 37 (0, 0)) := by
    have := hpNew (w1.alloc (.cells #[.slice Aa K'.length ca, .slice Ab U'.length cb, .slice Ac A'.length cc] 25)) (.cells #[.slice Aa K'.length ca, .slice Ab U'.length cb, .slice none 0 0, .slice none 0 0, .slice none 0 0, .slice none 0 0, .int .i64 0, .slice none 0 0, .slice none 0 0, .slice none 0 0] 37)
    rw [World.size_alloc] at this
    exact this
  have S2 : Hid (HS ((w1.alloc (.cells #[.slice Aa K'.length ca, .slice Ab U'.length cb, .slice Ac A'.length cc] 25)).alloc (.cells #[.slice Aa K'.length ca, .slice Ab U'.length cb, .slice none 0 0, .slice none 0 0, .slice none 0 0, .slice none 0 0, .int .i64 0, .slice none 0 0, .slice none 0 0, .slice none 0 0] 37)) (w.heap.size + 1) (.slice Aa K'.length ca) (.slice Ab U'.length cb) (.slice Ac A'.length cc) K' U' A') := HS1.under al
  have B2 := B1.trans (al.mono B1.size)
  clear HC HR0 HS1 R1 B1 al hb1
  go_wp2
  go_loopw [7] (fun iv wr => ∃ (j : Nat) (vr : Value), j ≤ A'.length ∧ iv = .int .i64 j ∧ wr.heap[w.heap.size]? = some (.cells N10 37 (0, 0)) ∧ wr.heap[w1.heap.size]? = some (.cells #[.slice Aa K'.length ca, .slice Ab U'.length cb, .slice Ac A'.length cc] 25 (0, 0)) ∧ wr.heap[w1.heap.size + 1]? = some (.cells #[.slice Aa K'.length ca, .slice Ab U'.length cb, vr, .slice none 0 0, .slice none 0 0, .slice none 0 0, .int .i64 0, .slice none 0 0, .slice none 0 0, .slice none 0 0] 37 (0, 0)) ∧
      Hid (HS wr (w.heap.size + 1) (.slice Aa K'.length ca) (.slice Ab U'.length cb) (.slice Ac A'.length cc) K' U' A') ∧ Hid (wr.ownsRow (w.heap.size + 1) 51 3 vr j (cellsK (A'.take j))) ∧ Below w.heap.size w wr) (fun i _ => A'.length - (intOf i).toNat)
  case atStart => exact ⟨0, .slice none 0 0, Nat.zero_le _, rfl, R2, M2, H2, S2, World.ownsRow_nil _ _ _ _, B2⟩
  case round =>
    clear R2 M2 H2 S2 B2
    obtain ⟨j, vr, hj, rfl, hR, hM, hH, HSS, HO, hb⟩ := hrel
    have hsz := hb.size
    have hlR : w.heap.size < wr.heap.size := (Array.getElem?_eq_some_iff.1 hR).1
    have hlM : w1.heap.size < wr.heap.size := (Array.getElem?_eq_some_iff.1 hM).1
    have hlH : w1.heap.size + 1 < wr.heap.size := (Array.getElem?_eq_some_iff.1 hH).1
    by_cases hlt : j < A'.length
    · obtain ⟨Ax, cx, ex, rdx⟩ := rdM_of_own HSS.out.2.2.1
      cases ex
      obtain ⟨b, o, rfl, hbl, c1, c2, c3⟩ := rdx j hlt
      have htk : A'.take (j + 1) = A'.take j ++ [A'[j]] := List.take_succ_eq_append_getElem hlt
      generalize A'[j] = x at *
      have HT : Hid (A'.take (j + 1) = A'.take j ++ [x]) := htk
      clear htk rdx
      have m2 := hpCell (k := 2) hM rfl
      go_wp2
      rename_i KK hKK
      refine frontHN (h := w1.heap.size + 1) (m := w1.heap.size) (b := b) (o := o) (j := j) (c := cc) (len := A'.length) (base := w.heap.size + 1) (n := j) (x := x) (v0 := vr) (xs := cellsK (A'.take j)) (by kernel_rfl) rfl rfl rfl rfl rfl hlt (by omega) c1 hM hH (by omega) (by omega) HO.out (type_ne HO.out hH (by decide)) ?_
      intro y w2 w3 v' hb2 hO' hg3
      have hz2 := hb2.size
      have hz3 := hg3.size
      have nR := type_ne HO.out hR (by decide)
      have nM := type_ne HO.out hM (by decide)
      have nH := type_ne HO.out hH (by decide)
      have R3 := hpBy (hpBelow hR hb2 hlR) hg3 nR
      have M3 := hpBy (hpBelow hM hb2 hlM) hg3 nM
      have H3 := hpBy (hpBelow hH hb2 hlH) hg3 nH
      have S3 := (HSS.out.under hb2).row (ownsUnder HO.out hb2 (Nat.le_refl _)) hg3 (by decide) (by decide)
      have B3 : Below w.heap.size w w3 := (hb.trans (hb2.mono hsz)).grown hg3 (by omega) (fun g q => by have := (HO.out.lt g q).1; omega)
      have R4 := hpBy R3 (grownBy_set w3 (w1.heap.size + 1) 2 v') (fun e => by have := Option.some.inj e; omega)
      have M4 := hpBy M3 (grownBy_set w3 (w1.heap.size + 1) 2 v') (fun e => by have := Option.some.inj e; omega)
      have H4 := hpSet (k := 2) (v := v') H3
      have S4 := S3.cell (k := 2) (u := v') H3 (by decide) (by decide)
      have O4 := kept_cell (k := 2) (u := v') hO' H3 (by decide)
      have B4 := B3.setCell (p := ⟨w1.heap.size + 1, 2, none⟩) (by show w.heap.size ≤ w1.heap.size + 1; omega) v'
      refine hKK _ _ ?_
      clear hKK
      simp only [List.getElem?_toArray, List.getElem?_cons_succ, List.getElem?_cons_zero, Option.getD_some]
      rw [← cellsK_snoc, ← HT.out] at O4
      generalize w3.setCell ⟨w1.heap.size + 1, 2, none⟩ v' = w4 at *
      clear R3 M3 H3 S3 B3 hO' hg3 hb2 hz2 hz3 nR nM nH m2
      go_wp2
      go_roundw
      case rel => exact ⟨j + 1, v', by omega, by go_num, R4, M4, H4, S4, O4, B4⟩
      case measure => simp [intOf]; omega
    · obtain rfl : j = A'.length := by omega
      have tl2 : A'.take A'.length = A' := List.take_length
      rw [tl2] at HO
      have mm2 := hpCell (k := 2) hM rfl
      obtain ⟨Ar, cr, rfl⟩ := own_slice HO.out
      have m0 := hpCell (k := 0) hH rfl
      have m1 := hpCell (k := 1) hH rfl
      have m2 := hpCell (k := 2) hH rfl
      have m3 := hpCell (k := 3) hH rfl
      have m4 := hpCell (k := 4) hH rfl
      have m5 := hpCell (k := 5) hH rfl
      have m6 := hpCell (k := 6) hH rfl
      have m7 := hpCell (k := 7) hH rfl
      have m8 := hpCell (k := 8) hH rfl
      have m9 := hpCell (k := 9) hH rfl
      have r0 := hpCell (k := 0) hR rfl; have f0 := hpFrozen (k := 0) hR
      have r1 := hpCell (k := 1) hR rfl; have f1 := hpFrozen (k := 1) hR
      have r2 := hpCell (k := 2) hR rfl; have f2 := hpFrozen (k := 2) hR
      have r3 := hpCell (k := 3) hR rfl; have f3 := hpFrozen (k := 3) hR
      have r4 := hpCell (k := 4) hR rfl; have f4 := hpFrozen (k := 4) hR
      have r5 := hpCell (k := 5) hR rfl; have f5 := hpFrozen (k := 5) hR
      have r6 := hpCell (k := 6) hR rfl; have f6 := hpFrozen (k := 6) hR
      have r7 := hpCell (k := 7) hR rfl; have f7 := hpFrozen (k := 7) hR
      have r8 := hpCell (k := 8) hR rfl; have f8 := hpFrozen (k := 8) hR
      have r9 := hpCell (k := 9) hR rfl; have f9 := hpFrozen (k := 9) hR
      have S0 : (wr.setCell ⟨w.heap.size, 0, none⟩ (.slice Aa K'.length ca)).heap[w.heap.size]? = some (.cells #[.slice Aa K'.length ca, .slice none 0 0, .slice none 0 0, .slice none 0 0, .slice none 0 0, .slice none 0 0, .int .i64 0, .slice none 0 0, .slice none 0 0, .slice none 0 0] 37 (0, 0)) := hpSet (k := 0) (v := .slice Aa K'.length ca) hR
      have S1 : ((wr.setCell ⟨w.heap.size, 0, none⟩ (.slice Aa K'.length ca)).setCell ⟨w.heap.size, 1, none⟩ (.slice Ab U'.length cb)).heap[w.heap.size]? = some (.cells #[.slice Aa K'.length ca, .slice Ab U'.length cb, .slice none 0 0, .slice none 0 0, .slice none 0 0, .slice none 0 0, .int .i64 0, .slice none 0 0, .slice none 0 0, .slice none 0 0] 37 (0, 0)) := hpSet (k := 1) (v := .slice Ab U'.length cb) S0
      have S2 : (((wr.setCell ⟨w.heap.size, 0, none⟩ (.slice Aa K'.length ca)).setCell ⟨w.heap.size, 1, none⟩ (.slice Ab U'.length cb)).setCell ⟨w.heap.size, 2, none⟩ (.slice Ar A'.length cr)).heap[w.heap.size]? = some (.cells #[.slice Aa K'.length ca, .slice Ab U'.length cb, .slice Ar A'.length cr, .slice none 0 0, .slice none 0 0, .slice none 0 0, .int .i64 0, .slice none 0 0, .slice none 0 0, .slice none 0 0] 37 (0, 0)) := hpSet (k := 2) (v := .slice Ar A'.length cr) S1
      have S3 : ((((wr.setCell ⟨w.heap.size, 0, none⟩ (.slice Aa K'.length ca)).setCell ⟨w.heap.size, 1, none⟩ (.slice Ab U'.length cb)).setCell ⟨w.heap.size, 2, none⟩ (.slice Ar A'.length cr)).setCell ⟨w.heap.size, 3, none⟩ (.slice none 0 0)).heap[w.heap.size]? = some (.cells #[.slice Aa K'.length ca, .slice Ab U'.length cb, .slice Ar A'.length cr, .slice none 0 0, .slice none 0 0, .slice none 0 0, .int .i64 0, .slice none 0 0, .slice none 0 0, .slice none 0 0] 37 (0, 0)) := hpSet (k := 3) (v := .slice none 0 0) S2
      have S4 : (((((wr.setCell ⟨w.heap.size, 0, none⟩ (.slice Aa K'.length ca)).setCell ⟨w.heap.size, 1, none⟩ (.slice Ab U'.length cb)).setCell ⟨w.heap.size, 2, none⟩ (.slice Ar A'.length cr)).setCell ⟨w.heap.size, 3, none⟩ (.slice none 0 0)).setCell ⟨w.heap.size, 4, none⟩ (.slice none 0 0)).heap[w.heap.size]? = some (.cells #[.slice Aa K'.length ca, .slice Ab U'.length cb, .slice Ar A'.length cr, .slice none 0 0, .slice none 0 0, .slice none 0 0, .int .i64 0, .slice none 0 0, .slice none 0 0, .slice none 0 0] 37 (0, 0)) := hpSet (k := 4) (v := .slice none 0 0) S3
      have S5 : ((((((wr.setCell ⟨w.heap.size, 0, none⟩ (.slice Aa K'.length ca)).setCell ⟨w.heap.size, 1, none⟩ (.slice Ab U'.length cb)).setCell ⟨w.heap.size, 2, none⟩ (.slice Ar A'.length cr)).setCell ⟨w.heap.size, 3, none⟩ (.slice none 0 0)).setCell ⟨w.heap.size, 4, none⟩ (.slice none 0 0)).setCell ⟨w.heap.size, 5, none⟩ (.slice none 0 0)).heap[w.heap.size]? = some (.cells #[.slice Aa K'.length ca, .slice Ab U'.length cb, .slice Ar A'.length cr, .slice none 0 0, .slice none 0 0, .slice none 0 0, .int .i64 0, .slice none 0 0, .slice none 0 0, .slice none 0 0] 37 (0, 0)) := hpSet (k := 5) (v := .slice none 0 0) S4
      have S6 : (((((((wr.setCell ⟨w.heap.size, 0, none⟩ (.slice Aa K'.length ca)).setCell ⟨w.heap.size, 1, none⟩ (.slice Ab U'.length cb)).setCell ⟨w.heap.size, 2, none⟩ (.slice Ar A'.length cr)).setCell ⟨w.heap.size, 3, none⟩ (.slice none 0 0)).setCell ⟨w.heap.size, 4, none⟩ (.slice none 0 0)).setCell ⟨w.heap.size, 5, none⟩ (.slice none 0 0)).setCell ⟨w.heap.size, 6, none⟩ (.int .i64 0)).heap[w.heap.size]? = some (.cells #[.slice Aa K'.length ca, .slice Ab U'.length cb, .slice Ar A'.length cr, .slice none 0 0, .slice none 0 0, .slice none 0 0, .int .i64 0, .slice none 0 0, .slice none 0 0, .slice none 0 0] 37 (0, 0)) := hpSet (k := 6) (v := .int .i64 0) S5
      have S7 : ((((((((wr.setCell ⟨w.heap.size, 0, none⟩ (.slice Aa K'.length ca)).setCell ⟨w.heap.size, 1, none⟩ (.slice Ab U'.length cb)).setCell ⟨w.heap.size, 2, none⟩ (.slice Ar A'.length cr)).setCell ⟨w.heap.size, 3, none⟩ (.slice none 0 0)).setCell ⟨w.heap.size, 4, none⟩ (.slice none 0 0)).setCell ⟨w.heap.size, 5, none⟩ (.slice none 0 0)).setCell ⟨w.heap.size, 6, none⟩ (.int .i64 0)).setCell ⟨w.heap.size, 7, none⟩ (.slice none 0 0)).heap[w.heap.size]? = some (.cells #[.slice Aa K'.length ca, .slice Ab U'.length cb, .slice Ar A'.length cr, .slice none 0 0, .slice none 0 0, .slice none 0 0, .int .i64 0, .slice none 0 0, .slice none 0 0, .slice none 0 0] 37 (0, 0)) := hpSet (k := 7) (v := .slice none 0 0) S6
      have S8 : (((((((((wr.setCell ⟨w.heap.size, 0, none⟩ (.slice Aa K'.length ca)).setCell ⟨w.heap.size, 1, none⟩ (.slice Ab U'.length cb)).setCell ⟨w.heap.size, 2, none⟩ (.slice Ar A'.length cr)).setCell ⟨w.heap.size, 3, none⟩ (.slice none 0 0)).setCell ⟨w.heap.size, 4, none⟩ (.slice none 0 0)).setCell ⟨w.heap.size, 5, none⟩ (.slice none 0 0)).setCell ⟨w.heap.size, 6, none⟩ (.int .i64 0)).setCell ⟨w.heap.size, 7, none⟩ (.slice none 0 0)).setCell ⟨w.heap.size, 8, none⟩ (.slice none 0 0)).heap[w.heap.size]? = some (.cells #[.slice Aa K'.length ca, .slice Ab U'.length cb, .slice Ar A'.length cr, .slice none 0 0, .slice none 0 0, .slice none 0 0, .int .i64 0, .slice none 0 0, .slice none 0 0, .slice none 0 0] 37 (0, 0)) := hpSet (k := 8) (v := .slice none 0 0) S7
      have S9 : ((((((((((wr.setCell ⟨w.heap.size, 0, none⟩ (.slice Aa K'.length ca)).setCell ⟨w.heap.size, 1, none⟩ (.slice Ab U'.length cb)).setCell ⟨w.heap.size, 2, none⟩ (.slice Ar A'.length cr)).setCell ⟨w.heap.size, 3, none⟩ (.slice none 0 0)).setCell ⟨w.heap.size, 4, none⟩ (.slice none 0 0)).setCell ⟨w.heap.size, 5, none⟩ (.slice none 0 0)).setCell ⟨w.heap.size, 6, none⟩ (.int .i64 0)).setCell ⟨w.heap.size, 7, none⟩ (.slice none 0 0)).setCell ⟨w.heap.size, 8, none⟩ (.slice none 0 0)).setCell ⟨w.heap.size, 9, none⟩ (.slice none 0 0)).heap[w.heap.size]? = some (.cells #[.slice Aa K'.length ca, .slice Ab U'.length cb, .slice Ar A'.length cr, .slice none 0 0, .slice none 0 0, .slice none 0 0, .int .i64 0, .slice none 0 0, .slice none 0 0, .slice none 0 0] 37 (0, 0)) := hpSet (k := 9) (v := .slice none 0 0) S8
      have k0 := hpCell (k := 0) S9 rfl
      have k1 := hpCell (k := 1) S9 rfl
      have k2 := hpCell (k := 2) S9 rfl
      have k3 := hpCell (k := 3) S9 rfl
      have k4 := hpCell (k := 4) S9 rfl
      have k5 := hpCell (k := 5) S9 rfl
      have k6 := hpCell (k := 6) S9 rfl
      have k7 := hpCell (k := 7) S9 rfl
      have k8 := hpCell (k := 8) S9 rfl
      have k9 := hpCell (k := 9) S9 rfl
      have G : HK wr (w.heap.size + 1) (.slice Aa K'.length ca) (.slice Ab U'.length cb) (.slice Ar A'.length cr) K' U' A' := ⟨ownsDown HSS.out.1 (by omega), ownsDown HSS.out.2.1 (by omega), HO.out, HSS.out.2.2.2⟩
      have GG := ((((((((((G.cell (k := 0) (u := .slice Aa K'.length ca) hR (by decide) (by decide)).cell (k := 1) (u := .slice Ab U'.length cb) S0 (by decide) (by decide)).cell (k := 2) (u := .slice Ar A'.length cr) S1 (by decide) (by decide)).cell (k := 3) (u := .slice none 0 0) S2 (by decide) (by decide)).cell (k := 4) (u := .slice none 0 0) S3 (by decide) (by decide)).cell (k := 5) (u := .slice none 0 0) S4 (by decide) (by decide)).cell (k := 6) (u := .int .i64 0) S5 (by decide) (by decide)).cell (k := 7) (u := .slice none 0 0) S6 (by decide) (by decide)).cell (k := 8) (u := .slice none 0 0) S7 (by decide) (by decide)).cell (k := 9) (u := .slice none 0 0) S8 (by decide) (by decide)).down (b' := w.heap.size) (by omega)
      have HG : Hid (HK _ w.heap.size _ _ _ K' U' A') := GG
      have HBB : Hid (Below w.heap.size w wr) := hb
      clear GG G hR hM hH HO HSS hb S0 S1 S2 S3 S4 S5 S6 S7 S8 S9
      go_wp2
      refine bodyPost_ret (v := .agg #[.slice Aa K'.length ca, .slice Ab U'.length cb, .slice Ar A'.length cr, .slice none 0 0, .slice none 0 0, .slice none 0 0, .int .i64 0, .slice none 0 0, .slice none 0 0, .slice none 0 0]) (by simp [results, Try.results13, go_sem, k0, k1, k2, k3, k4, k5, k6, k7, k8, k9]) rfl ?_
      refine ⟨⟨_, _, _, _, _, _, rfl, HG.out⟩, ?_⟩
      repeat (refine Below.setCell ?_ (by first | (simp; done) | omega) _)
      exact HBB.out
set_option maxRecDepth 100000 in
set_option maxHeartbeats 8000000 in
theorem hseNew_impl {b b' : Nat} (v v' : Value) (K A : List Int) (w : World) (h : w.ownsRow b 3 1 v K.length (cellsI K)) (h' : w.ownsRow b' 3 1 v' A.length (cellsI A)) (hk : K.length ≤ 1048576) (ha : A.length ≤ 1048576) :
    Calls Try.prog 14 #[v, v'] w fun e w' => HseAt (newK K A) (newU K A) (newA K A) w.heap.size e w' ∧ Below w.heap.size w w' := by
  have HC : Hid (∀ w0 : World, w0 = w.alloc (.cells N10 37) → Calls Try.prog 7 #[v, v'] w0 fun e w' => NewAt (newK K A) (newU K A) (newA K A) w0.heap.size e w' ∧ Below w0.heap.size w0 w') := fun w0 e => by subst e; exact newI_of v v' K A _ (h.alloc _) (h'.alloc _) hk ha
  have hA3 := newA_small K A
  generalize newK K A = K' at *
  generalize newU K A = U' at *
  generalize newA K A = A' at *
  have R0 := hpNew w (.cells N10 37)
  have HR0 : Hid ((w.alloc (.cells N10 37)).heap[w.heap.size]? = some (.cells N10 37 (0, 0))) := R0
  clear h h' R0
  go_enter Try.func14, Try.ntmps14
  go_wp2_with (go_at_call 7; refine (HC.out _ rfl).mono ?_; rintro e w1 ⟨an, hb1⟩; obtain ⟨Aa, ca, Ab, cb, Ac, cc, rfl, HS1⟩ := an; have z1 := hb1.size; simp only [World.size_alloc] at z1 HS1; have R1 := hpBelow HR0.out hb1 (by simp); have B1 : Below w.heap.size w w1 := ((Below.refl _ w).alloc (Nat.le_refl _) _).trans (hb1.mono (by simp)))
  have al : Below w1.heap.size w1 ((w1.alloc (.cells #[.slice Aa K'.length ca, .slice Ab U'.length cb, .slice Ac A'.length cc] 25)).alloc (.cells #[.slice Aa K'.length ca, .slice Ab U'.length cb, .slice none 0 0, .slice none 0 0, .slice none 0 0, .slice none 0 0, .int .i64 0, .slice none 0 0, .slice none 0 0, .slice none 0 0] 37)) := ((Below.refl _ _).alloc (Nat.le_refl _) _).alloc (by simp) _
  have R2 := hpBelow R1 al (by omega)
  have M2 : ((w1.alloc (.cells #[.slice Aa K'.length ca, .slice Ab U'.length cb, .slice Ac A'.length cc] 25)).alloc (.cells #[.slice Aa K'.length ca, .slice Ab U'.length cb, .slice none 0 0, .slice none 0 0, .slice none 0 0, .slice none 0 0, .int .i64 0, .slice none 0 0, .slice none 0 0, .slice none 0 0] 37)).heap[w1.heap.size]? = some (.cells #[.slice Aa K'.length ca, .slice Ab U'.length cb, .slice Ac A'.length cc] 25 (0, 0)) := hpBelow (hpNew w1 _) ((Below.refl _ _).alloc (Nat.le_refl _) _) (by simp)
  have H2 : ((w1.alloc (.cells #[.slice Aa K'.length ca, .slice Ab U'.length cb, .slice Ac A'.length cc] 25)).alloc (.cells #[.slice Aa K'.length ca, .slice Ab U'.length cb, .slice none 0 0, .slice none 0 0, .slice none 0 0, .slice none 0 0, .int .i64 0, .slice none 0 0, .slice none 0 0, .slice none 0 0] 37)).heap[w1.heap.size + 1]? = some (.cells #[.slice Aa K'.length ca, .slice Ab U'.length cb, .slice none 0 0, .slice none 0 0, .slice none 0 0, .slice none 0 0, .int .i64 0, .slice none 0 0, .slice none 0 0, .slice none 0 0] 37 (0, 0)) := by
    have := hpNew (w1.alloc (.cells #[.slice Aa K'.length ca, .slice Ab U'.length cb, .slice Ac A'.length cc] 25)) (.cells #[.slice Aa K'.length ca, .slice Ab U'.length cb, .slice none 0 0, .slice none 0 0, .slice none 0 0, .slice none 0 0, .int .i64 0, .slice none 0 0, .slice none 0 0, .slice none 0 0] 37)
    rw [World.size_alloc] at this
    exact this
  have S2 : Hid (HS ((w1.alloc (.cells #[.slice Aa K'.length ca, .slice Ab U'.length cb, .slice Ac A'.length cc] 25)).alloc (.cells #[.slice Aa K'.length ca, .slice Ab U'.length cb, .slice none 0 0, .slice none 0 0, .slice none 0 0, .slice none 0 0, .int .i64 0, .slice none 0 0, .slice none 0 0, .slice none 0 0] 37)) (w.heap.size + 1) (.slice Aa K'.length ca) (.slice Ab U'.length cb) (.slice Ac A'.length cc) K' U' A') := HS1.under al
  have B2 := B1.trans (al.mono B1.size)
  clear HC HR0 HS1 R1 B1 al hb1
  obtain ⟨i0, hii, hz0, hz1, hzb⟩ := info_parts infoK
  go_wp2
  go_loopw [20] (fun iv wr => ∃ (j : Nat) (vr : Value), j ≤ A'.length ∧ iv = .int .i64 j ∧ wr.heap[w.heap.size]? = some (.cells N10 37 (0, 0)) ∧ wr.heap[w1.heap.size]? = some (.cells #[.slice Aa K'.length ca, .slice Ab U'.length cb, .slice Ac A'.length cc] 25 (0, 0)) ∧ wr.heap[w1.heap.size + 1]? = some (.cells #[.slice Aa K'.length ca, .slice Ab U'.length cb, vr, .slice none 0 0, .slice none 0 0, .slice none 0 0, .int .i64 0, .slice none 0 0, .slice none 0 0, .slice none 0 0] 37 (0, 0)) ∧
      Hid (HS wr (w.heap.size + 1) (.slice Aa K'.length ca) (.slice Ab U'.length cb) (.slice Ac A'.length cc) K' U' A') ∧ Hid (wr.ownsRow (w.heap.size + 1) 51 3 vr j (cellsK (A'.take j))) ∧ Below w.heap.size w wr) (fun i _ => A'.length - (intOf i).toNat)
  case atStart => exact ⟨0, .slice none 0 0, Nat.zero_le _, rfl, R2, M2, H2, S2, World.ownsRow_nil _ _ _ _, B2⟩
  case round =>
    clear R2 M2 H2 S2 B2
    obtain ⟨j, vr, hj, rfl, hR, hM, hH, HSS, HO, hb⟩ := hrel
    have hsz := hb.size
    have hlR : w.heap.size < wr.heap.size := (Array.getElem?_eq_some_iff.1 hR).1
    have hlM : w1.heap.size < wr.heap.size := (Array.getElem?_eq_some_iff.1 hM).1
    have hlH : w1.heap.size + 1 < wr.heap.size := (Array.getElem?_eq_some_iff.1 hH).1
    by_cases hlt : j < A'.length
    · obtain ⟨Ax, cx, ex, rdx⟩ := rdM_of_own HSS.out.2.2.1
      cases ex
      obtain ⟨b, o, rfl, hbl, c1, c2, c3⟩ := rdx j hlt
      have htk : A'.take (j + 1) = A'.take j ++ [A'[j]] := List.take_succ_eq_append_getElem hlt
      generalize A'[j] = x at *
      have HT : Hid (A'.take (j + 1) = A'.take j ++ [x]) := htk
      clear htk rdx
      have HRR : Hid (wr.heap[w.heap.size]? = some (.cells N10 37 (0, 0))) := hR
      have HMM : Hid (_) := hM
      have HHH : Hid (_) := hH
      have HB : Hid (Below w.heap.size w wr) := hb
      have m2 := hpCell (k := 2) hH rfl
      have hal : Below wr.heap.size wr ((wr.alloc (.cells #[.int .i64 x, .slice none 0 0, .slice none 0 0] 45)).alloc (.cells #[.int .i64 x, .slice none 0 0, .slice none 0 0] 51)) := ((Below.refl _ _).alloc (Nat.le_refl _) _).alloc (by simp) _
      clear hR hM hH hb
      go_wp2_with (at_builtin; refine wpList_append_own _ rfl _ _ 32 rfl (w.heap.size + 1) 51 i0 (.agg #[.int .i64 0, .slice none 0 0, .slice none 0 0]) 3 56 Try.underlying32 hii hz0 hz1 hzb rfl (by decide) vr j (cellsK (A'.take j)) rfl ((HO.out.alloc _).alloc _) ⟨wr.heap.size + 1, 0, none⟩ 1 1 [.int .i64 x, .slice none 0 0, .slice none 0 0] rfl rfl (cells_new' _ #[.int .i64 x, .slice none 0 0, .slice none 0 0] _ _ (by simp)) (fun u hu => by simp at hu; rcases hu with rfl | rfl <;> rfl) (by unfold maxLen; omega) (by omega) (by simp; omega) ?_; intro v5 w5 hO5 hg5 _; obtain ⟨A5, c5, rfl⟩ := own_slice hO5; have hz5 := hg5.size; simp only [World.size_alloc] at hz5; have H5 := hpBy (hpBelow HHH.out hal hlH) hg5 (type_ne HO.out HHH.out (by decide)); have m5 := hpCell (k := 2) H5 rfl; have mf := hpFrozen (k := 2) H5)
      go_roundw
      case rel =>
        have R5 := hpBy (hpBelow HRR.out hal hlR) hg5 (type_ne HO.out HRR.out (by decide))
        have M5 := hpBy (hpBelow HMM.out hal hlM) hg5 (type_ne HO.out HMM.out (by decide))
        have S5 := (HSS.out.under hal).row (ownsUnder HO.out hal (Nat.le_refl _)) hg5 (by decide) (by decide)
        have B5 : Below w.heap.size w w5 := (HB.out.trans (hal.mono hsz)).grown hg5 (by simp; omega) (fun g q => by have := (HO.out.lt g q).1; omega)
        rw [← cellsK_snoc, ← HT.out] at hO5
        exact ⟨j + 1, .slice A5 (j + 1) c5, by omega, by go_num, hpBy R5 (grownBy_set w5 (w1.heap.size + 1) 2 _) (fun e => by have := Option.some.inj e; omega), hpBy M5 (grownBy_set w5 (w1.heap.size + 1) 2 _) (fun e => by have := Option.some.inj e; omega), hpSet (k := 2) H5, S5.cell H5 (by decide) (by decide), kept_cell hO5 H5 (by decide), B5.setCell (p := ⟨w1.heap.size + 1, 2, none⟩) (by show w.heap.size ≤ w1.heap.size + 1; omega) _⟩
      case measure => simp [intOf]; omega
    · obtain rfl : j = A'.length := by omega
      have tl2 : A'.take A'.length = A' := List.take_length
      rw [tl2] at HO
      obtain ⟨Ar, cr, rfl⟩ := own_slice HO.out
      have m0 := hpCell (k := 0) hH rfl
      have m1 := hpCell (k := 1) hH rfl
      have m2 := hpCell (k := 2) hH rfl
      have m3 := hpCell (k := 3) hH rfl
      have m4 := hpCell (k := 4) hH rfl
      have m5 := hpCell (k := 5) hH rfl
      have m6 := hpCell (k := 6) hH rfl
      have m7 := hpCell (k := 7) hH rfl
      have m8 := hpCell (k := 8) hH rfl
      have m9 := hpCell (k := 9) hH rfl
      have r0 := hpCell (k := 0) hR rfl; have f0 := hpFrozen (k := 0) hR
      have r1 := hpCell (k := 1) hR rfl; have f1 := hpFrozen (k := 1) hR
      have r2 := hpCell (k := 2) hR rfl; have f2 := hpFrozen (k := 2) hR
      have r3 := hpCell (k := 3) hR rfl; have f3 := hpFrozen (k := 3) hR
      have r4 := hpCell (k := 4) hR rfl; have f4 := hpFrozen (k := 4) hR
      have r5 := hpCell (k := 5) hR rfl; have f5 := hpFrozen (k := 5) hR
      have r6 := hpCell (k := 6) hR rfl; have f6 := hpFrozen (k := 6) hR
      have r7 := hpCell (k := 7) hR rfl; have f7 := hpFrozen (k := 7) hR
      have r8 := hpCell (k := 8) hR rfl; have f8 := hpFrozen (k := 8) hR
      have r9 := hpCell (k := 9) hR rfl; have f9 := hpFrozen (k := 9) hR
      have S0 : (wr.setCell ⟨w.heap.size, 0, none⟩ (.slice Aa K'.length ca)).heap[w.heap.size]? = some (.cells #[.slice Aa K'.length ca, .slice none 0 0, .slice none 0 0, .slice none 0 0, .slice none 0 0, .slice none 0 0, .int .i64 0, .slice none 0 0, .slice none 0 0, .slice none 0 0] 37 (0, 0)) := hpSet (k := 0) (v := .slice Aa K'.length ca) hR
      have S1 : ((wr.setCell ⟨w.heap.size, 0, none⟩ (.slice Aa K'.length ca)).setCell ⟨w.heap.size, 1, none⟩ (.slice Ab U'.length cb)).heap[w.heap.size]? = some (.cells #[.slice Aa K'.length ca, .slice Ab U'.length cb, .slice none 0 0, .slice none 0 0, .slice none 0 0, .slice none 0 0, .int .i64 0, .slice none 0 0, .slice none 0 0, .slice none 0 0] 37 (0, 0)) := hpSet (k := 1) (v := .slice Ab U'.length cb) S0
      have S2 : (((wr.setCell ⟨w.heap.size, 0, none⟩ (.slice Aa K'.length ca)).setCell ⟨w.heap.size, 1, none⟩ (.slice Ab U'.length cb)).setCell ⟨w.heap.size, 2, none⟩ (.slice Ar A'.length cr)).heap[w.heap.size]? = some (.cells #[.slice Aa K'.length ca, .slice Ab U'.length cb, .slice Ar A'.length cr, .slice none 0 0, .slice none 0 0, .slice none 0 0, .int .i64 0, .slice none 0 0, .slice none 0 0, .slice none 0 0] 37 (0, 0)) := hpSet (k := 2) (v := .slice Ar A'.length cr) S1
      have S3 : ((((wr.setCell ⟨w.heap.size, 0, none⟩ (.slice Aa K'.length ca)).setCell ⟨w.heap.size, 1, none⟩ (.slice Ab U'.length cb)).setCell ⟨w.heap.size, 2, none⟩ (.slice Ar A'.length cr)).setCell ⟨w.heap.size, 3, none⟩ (.slice none 0 0)).heap[w.heap.size]? = some (.cells #[.slice Aa K'.length ca, .slice Ab U'.length cb, .slice Ar A'.length cr, .slice none 0 0, .slice none 0 0, .slice none 0 0, .int .i64 0, .slice none 0 0, .slice none 0 0, .slice none 0 0] 37 (0, 0)) := hpSet (k := 3) (v := .slice none 0 0) S2
      have S4 : (((((wr.setCell ⟨w.heap.size, 0, none⟩ (.slice Aa K'.length ca)).setCell ⟨w.heap.size, 1, none⟩ (.slice Ab U'.length cb)).setCell ⟨w.heap.size, 2, none⟩ (.slice Ar A'.length cr)).setCell ⟨w.heap.size, 3, none⟩ (.slice none 0 0)).setCell ⟨w.heap.size, 4, none⟩ (.slice none 0 0)).heap[w.heap.size]? = some (.cells #[.slice Aa K'.length ca, .slice Ab U'.length cb, .slice Ar A'.length cr, .slice none 0 0, .slice none 0 0, .slice none 0 0, .int .i64 0, .slice none 0 0, .slice none 0 0, .slice none 0 0] 37 (0, 0)) := hpSet (k := 4) (v := .slice none 0 0) S3
      have S5 : ((((((wr.setCell ⟨w.heap.size, 0, none⟩ (.slice Aa K'.length ca)).setCell ⟨w.heap.size, 1, none⟩ (.slice Ab U'.length cb)).setCell ⟨w.heap.size, 2, none⟩ (.slice Ar A'.length cr)).setCell ⟨w.heap.size, 3, none⟩ (.slice none 0 0)).setCell ⟨w.heap.size, 4, none⟩ (.slice none 0 0)).setCell ⟨w.heap.size, 5, none⟩ (.slice none 0 0)).heap[w.heap.size]? = some (.cells #[.slice Aa K'.length ca, .slice Ab U'.length cb, .slice Ar A'.length cr, .slice none 0 0, .slice none 0 0, .slice none 0 0, .int .i64 0, .slice none 0 0, .slice none 0 0, .slice none 0 0] 37 (0, 0)) := hpSet (k := 5) (v := .slice none 0 0) S4
      have S6 : (((((((wr.setCell ⟨w.heap.size, 0, none⟩ (.slice Aa K'.length ca)).setCell ⟨w.heap.size, 1, none⟩ (.slice Ab U'.length cb)).setCell ⟨w.heap.size, 2, none⟩ (.slice Ar A'.length cr)).setCell ⟨w.heap.size, 3, none⟩ (.slice none 0 0)).setCell ⟨w.heap.size, 4, none⟩ (.slice none 0 0)).setCell ⟨w.heap.size, 5, none⟩ (.slice none 0 0)).setCell ⟨w.heap.size, 6, none⟩ (.int .i64 0)).heap[w.heap.size]? = some (.cells #[.slice Aa K'.length ca, .slice Ab U'.length cb, .slice Ar A'.length cr, .slice none 0 0, .slice none 0 0, .slice none 0 0, .int .i64 0, .slice none 0 0, .slice none 0 0, .slice none 0 0] 37 (0, 0)) := hpSet (k := 6) (v := .int .i64 0) S5
      have S7 : ((((((((wr.setCell ⟨w.heap.size, 0, none⟩ (.slice Aa K'.length ca)).setCell ⟨w.heap.size, 1, none⟩ (.slice Ab U'.length cb)).setCell ⟨w.heap.size, 2, none⟩ (.slice Ar A'.length cr)).setCell ⟨w.heap.size, 3, none⟩ (.slice none 0 0)).setCell ⟨w.heap.size, 4, none⟩ (.slice none 0 0)).setCell ⟨w.heap.size, 5, none⟩ (.slice none 0 0)).setCell ⟨w.heap.size, 6, none⟩ (.int .i64 0)).setCell ⟨w.heap.size, 7, none⟩ (.slice none 0 0)).heap[w.heap.size]? = some (.cells #[.slice Aa K'.length ca, .slice Ab U'.length cb, .slice Ar A'.length cr, .slice none 0 0, .slice none 0 0, .slice none 0 0, .int .i64 0, .slice none 0 0, .slice none 0 0, .slice none 0 0] 37 (0, 0)) := hpSet (k := 7) (v := .slice none 0 0) S6
      have S8 : (((((((((wr.setCell ⟨w.heap.size, 0, none⟩ (.slice Aa K'.length ca)).setCell ⟨w.heap.size, 1, none⟩ (.slice Ab U'.length cb)).setCell ⟨w.heap.size, 2, none⟩ (.slice Ar A'.length cr)).setCell ⟨w.heap.size, 3, none⟩ (.slice none 0 0)).setCell ⟨w.heap.size, 4, none⟩ (.slice none 0 0)).setCell ⟨w.heap.size, 5, none⟩ (.slice none 0 0)).setCell ⟨w.heap.size, 6, none⟩ (.int .i64 0)).setCell ⟨w.heap.size, 7, none⟩ (.slice none 0 0)).setCell ⟨w.heap.size, 8, none⟩ (.slice none 0 0)).heap[w.heap.size]? = some (.cells #[.slice Aa K'.length ca, .slice Ab U'.length cb, .slice Ar A'.length cr, .slice none 0 0, .slice none 0 0, .slice none 0 0, .int .i64 0, .slice none 0 0, .slice none 0 0, .slice none 0 0] 37 (0, 0)) := hpSet (k := 8) (v := .slice none 0 0) S7
      have S9 : ((((((((((wr.setCell ⟨w.heap.size, 0, none⟩ (.slice Aa K'.length ca)).setCell ⟨w.heap.size, 1, none⟩ (.slice Ab U'.length cb)).setCell ⟨w.heap.size, 2, none⟩ (.slice Ar A'.length cr)).setCell ⟨w.heap.size, 3, none⟩ (.slice none 0 0)).setCell ⟨w.heap.size, 4, none⟩ (.slice none 0 0)).setCell ⟨w.heap.size, 5, none⟩ (.slice none 0 0)).setCell ⟨w.heap.size, 6, none⟩ (.int .i64 0)).setCell ⟨w.heap.size, 7, none⟩ (.slice none 0 0)).setCell ⟨w.heap.size, 8, none⟩ (.slice none 0 0)).setCell ⟨w.heap.size, 9, none⟩ (.slice none 0 0)).heap[w.heap.size]? = some (.cells #[.slice Aa K'.length ca, .slice Ab U'.length cb, .slice Ar A'.length cr, .slice none 0 0, .slice none 0 0, .slice none 0 0, .int .i64 0, .slice none 0 0, .slice none 0 0, .slice none 0 0] 37 (0, 0)) := hpSet (k := 9) (v := .slice none 0 0) S8
      have k0 := hpCell (k := 0) S9 rfl
      have k1 := hpCell (k := 1) S9 rfl
      have k2 := hpCell (k := 2) S9 rfl
      have k3 := hpCell (k := 3) S9 rfl
      have k4 := hpCell (k := 4) S9 rfl
      have k5 := hpCell (k := 5) S9 rfl
      have k6 := hpCell (k := 6) S9 rfl
      have k7 := hpCell (k := 7) S9 rfl
      have k8 := hpCell (k := 8) S9 rfl
      have k9 := hpCell (k := 9) S9 rfl
      have G : HK wr (w.heap.size + 1) (.slice Aa K'.length ca) (.slice Ab U'.length cb) (.slice Ar A'.length cr) K' U' A' := ⟨ownsDown HSS.out.1 (by omega), ownsDown HSS.out.2.1 (by omega), HO.out, HSS.out.2.2.2⟩
      have GG := ((((((((((G.cell (k := 0) (u := .slice Aa K'.length ca) hR (by decide) (by decide)).cell (k := 1) (u := .slice Ab U'.length cb) S0 (by decide) (by decide)).cell (k := 2) (u := .slice Ar A'.length cr) S1 (by decide) (by decide)).cell (k := 3) (u := .slice none 0 0) S2 (by decide) (by decide)).cell (k := 4) (u := .slice none 0 0) S3 (by decide) (by decide)).cell (k := 5) (u := .slice none 0 0) S4 (by decide) (by decide)).cell (k := 6) (u := .int .i64 0) S5 (by decide) (by decide)).cell (k := 7) (u := .slice none 0 0) S6 (by decide) (by decide)).cell (k := 8) (u := .slice none 0 0) S7 (by decide) (by decide)).cell (k := 9) (u := .slice none 0 0) S8 (by decide) (by decide)).down (b' := w.heap.size) (by omega)
      have HG : Hid (HK _ w.heap.size _ _ _ K' U' A') := GG
      have HBB : Hid (Below w.heap.size w wr) := hb
      clear GG G hR hM hH HO HSS hb S0 S1 S2 S3 S4 S5 S6 S7 S8 S9
      go_wp2
      refine bodyPost_ret (v := .agg #[.slice Aa K'.length ca, .slice Ab U'.length cb, .slice Ar A'.length cr, .slice none 0 0, .slice none 0 0, .slice none 0 0, .int .i64 0, .slice none 0 0, .slice none 0 0, .slice none 0 0]) (by simp [results, Try.results14, go_sem, k0, k1, k2, k3, k4, k5, k6, k7, k8, k9]) rfl ?_
      refine ⟨⟨_, _, _, _, _, _, rfl, HG.out⟩, ?_⟩
      repeat (refine Below.setCell ?_ (by first | (simp; done) | omega) _)
      exact HBB.out
end Go.Proofs.Ytknbmgdfcejlkaa.W
