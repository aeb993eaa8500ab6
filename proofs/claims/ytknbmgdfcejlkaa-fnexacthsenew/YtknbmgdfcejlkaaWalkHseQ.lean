
/-
  Houses as they are kept, without rules, refs and all else, as rows that a call has made: the walks of the exact laws' own 'eqHseHouse', 'markHseHouse' and 'heldHseHouse'. Rows of at most 1048576.
-/
import Derived.Test.YtknbmgdfcejlkaaWalkMdlR
import Derived.Test.YtknbmgdfcejlkaaSlotHN
namespace Go.Proofs.Ytknbmgdfcejlkaa.W
open Go.RowKit
set_option linter.unusedVariables false

/-- three rows of a house, each in memory of its own -/
def HK (w : World) (b : Nat) (vk vu vr : Value) (K U A : List Int) : Prop :=
  w.ownsRow b 3 1 vk K.length (cellsI K) ∧ w.ownsRow b 3 1 vu U.length (cellsI U) ∧ w.ownsRow b 51 3 vr A.length (cellsK A) ∧ ∀ g, vk.ownBlock = some g → vu.ownBlock ≠ some g
theorem AtC.lt' {w : World} {b : Nat} {cs : Array Value} {u : Value} (h : AtC w b cs) (h0 : cs[0]? = some u) : b < w.heap.size := World.block_lt_of_cell? _ _ (h.1 0 u h0)
theorem HK.ge {w : World} {b : Nat} {vk vu vr : Value} {K U A : List Int} (h : HK w b vk vu vr K U A) {g : Nat} (q : blkH vk vu vr g) : b ≤ g := by
  rcases q with q | q | q
  · exact (h.1.lt g q).1
  · exact (h.2.1.lt g q).1
  · exact (h.2.2.1.lt g q).1
theorem HK.lt {w : World} {b : Nat} {vk vu vr : Value} {K U A : List Int} (h : HK w b vk vu vr K U A) {g : Nat} (q : blkH vk vu vr g) : g < w.heap.size := by
  rcases q with q | q | q
  · exact (h.1.lt g q).2
  · exact (h.2.1.lt g q).2
  · exact (h.2.2.1.lt g q).2
theorem HK.by_ {w w' : World} {b : Nat} {vk vu vr : Value} {K U A : List Int} {r : Option Nat} (h : HK w b vk vu vr K U A) (hg : w.grownBy w' r) (hne : ∀ g, blkH vk vu vr g → r ≠ some g) : HK w' b vk vu vr K U A :=
  ⟨kept_other h.1 hg (fun g q => hne g (.inl q)), kept_other h.2.1 hg (fun g q => hne g (.inr (.inl q))), kept_other h.2.2.1 hg (fun g q => hne g (.inr (.inr q))), h.2.2.2⟩
theorem HK.under {w w' : World} {b : Nat} {vk vu vr : Value} {K U A : List Int} (h : HK w b vk vu vr K U A) (hb : Below w.heap.size w w') : HK w' b vk vu vr K U A :=
  ⟨ownsUnder h.1 hb (Nat.le_refl _), ownsUnder h.2.1 hb (Nat.le_refl _), ownsUnder h.2.2.1 hb (Nat.le_refl _), h.2.2.2⟩
theorem HK.lo {w w' : World} {b B : Nat} {vk vu vr : Value} {K U A : List Int} (h : HK w b vk vu vr K U A) (hb : Below B w w') (hl : ∀ g, blkH vk vu vr g → g < B) : HK w' b vk vu vr K U A :=
  ⟨row_lo h.1 hb (fun g q => hl g (.inl q)), row_lo h.2.1 hb (fun g q => hl g (.inr (.inl q))), row_lo h.2.2.1 hb (fun g q => hl g (.inr (.inr q))), h.2.2.2⟩
set_option maxHeartbeats 1000000 in
theorem eqHK_same {b b' : Nat} (vk vu vr vk' vu' vr' : Value) (K U A : List Int) (w : World) (h : HK w b vk vu vr K U A) (h' : HK w b' vk' vu' vr' K U A) (l1 : K.length ≤ 1048576) (l2 : U.length ≤ 1048576) (l3 : A.length ≤ 1048576) :
    Calls Try.prog 15 #[.agg #[vk, vu, vr, .slice none 0 0, .slice none 0 0, .slice none 0 0, .int .i64 0, .slice none 0 0, .slice none 0 0, .slice none 0 0], .agg #[vk', vu', vr', .slice none 0 0, .slice none 0 0, .slice none 0 0, .int .i64 0, .slice none 0 0, .slice none 0 0, .slice none 0 0]] w fun e w' => e = .returned (.bool true) ∧ Below w.heap.size w w' := by
  obtain ⟨Ak, ck, rfl⟩ := own_slice h.1
  obtain ⟨Au, cu, rfl⟩ := own_slice h.2.1
  obtain ⟨Ar, cr, rfl⟩ := own_slice h.2.2.1
  obtain ⟨Ak', ck', rfl⟩ := own_slice h'.1
  obtain ⟨Au', cu', rfl⟩ := own_slice h'.2.1
  obtain ⟨Ar', cr', rfl⟩ := own_slice h'.2.2.1
  have H1 : Hid (HK w b (.slice Ak K.length ck) (.slice Au U.length cu) (.slice Ar A.length cr) K U A) := h
  have H2 : Hid (HK w b' (.slice Ak' K.length ck') (.slice Au' U.length cu') (.slice Ar' A.length cr') K U A) := h'
  have B0 : Below w.heap.size w ((w.alloc (.cells #[.slice Ak K.length ck, .slice Au U.length cu, .slice Ar A.length cr, .slice none 0 0, .slice none 0 0, .slice none 0 0, .int .i64 0, .slice none 0 0, .slice none 0 0, .slice none 0 0] 37)).alloc (.cells #[.slice Ak' K.length ck', .slice Au' U.length cu', .slice Ar' A.length cr', .slice none 0 0, .slice none 0 0, .slice none 0 0, .int .i64 0, .slice none 0 0, .slice none 0 0, .slice none 0 0] 37)) := ((Below.refl _ _).alloc (Nat.le_refl _) _).alloc (by simp) _
  have E1 : Hid (∀ w1, Below w.heap.size w w1 → Calls Try.prog 9 #[.slice Ak K.length ck, .slice Ak' K.length ck'] w1 fun e w' => e = .returned (.bool true) ∧ Below w1.heap.size w1 w') := fun w1 hb => eqI_own _ _ K w1 (ownsUnder h.1 hb (Nat.le_refl _)) (ownsUnder h'.1 hb (Nat.le_refl _)) l1
  have E2 : Hid (∀ w1, Below w.heap.size w w1 → Calls Try.prog 9 #[.slice Au U.length cu, .slice Au' U.length cu'] w1 fun e w' => e = .returned (.bool true) ∧ Below w1.heap.size w1 w') := fun w1 hb => eqI_own _ _ U w1 (ownsUnder h.2.1 hb (Nat.le_refl _)) (ownsUnder h'.2.1 hb (Nat.le_refl _)) l2
  have E3 : Hid (∀ w1, Below w.heap.size w w1 → Calls Try.prog 25 #[.slice Ar A.length cr, .slice Ar' A.length cr'] w1 fun e w' => e = .returned (.bool true) ∧ Below w1.heap.size w1 w') := fun w1 hb => eqK_own _ _ A w1 (ownsUnder h.2.2.1 hb (Nat.le_refl _)) (ownsUnder h'.2.2.1 hb (Nat.le_refl _)) l3
  have C0 : AtC ((w.alloc (.cells #[.slice Ak K.length ck, .slice Au U.length cu, .slice Ar A.length cr, .slice none 0 0, .slice none 0 0, .slice none 0 0, .int .i64 0, .slice none 0 0, .slice none 0 0, .slice none 0 0] 37)).alloc (.cells #[.slice Ak' K.length ck', .slice Au' U.length cu', .slice Ar' A.length cr', .slice none 0 0, .slice none 0 0, .slice none 0 0, .int .i64 0, .slice none 0 0, .slice none 0 0, .slice none 0 0] 37)) w.heap.size #[.slice Ak K.length ck, .slice Au U.length cu, .slice Ar A.length cr, .slice none 0 0, .slice none 0 0, .slice none 0 0, .int .i64 0, .slice none 0 0, .slice none 0 0, .slice none 0 0] := (atC_new w _ _).alloc (by simp) _
  have C1 : AtC ((w.alloc (.cells #[.slice Ak K.length ck, .slice Au U.length cu, .slice Ar A.length cr, .slice none 0 0, .slice none 0 0, .slice none 0 0, .int .i64 0, .slice none 0 0, .slice none 0 0, .slice none 0 0] 37)).alloc (.cells #[.slice Ak' K.length ck', .slice Au' U.length cu', .slice Ar' A.length cr', .slice none 0 0, .slice none 0 0, .slice none 0 0, .int .i64 0, .slice none 0 0, .slice none 0 0, .slice none 0 0] 37)) (w.heap.size + 1) #[.slice Ak' K.length ck', .slice Au' U.length cu', .slice Ar' A.length cr', .slice none 0 0, .slice none 0 0, .slice none 0 0, .int .i64 0, .slice none 0 0, .slice none 0 0, .slice none 0 0] := by
    have := atC_new (w.alloc (.cells #[.slice Ak K.length ck, .slice Au U.length cu, .slice Ar A.length cr, .slice none 0 0, .slice none 0 0, .slice none 0 0, .int .i64 0, .slice none 0 0, .slice none 0 0, .slice none 0 0] 37)) #[.slice Ak' K.length ck', .slice Au' U.length cu', .slice Ar' A.length cr', .slice none 0 0, .slice none 0 0, .slice none 0 0, .int .i64 0, .slice none 0 0, .slice none 0 0, .slice none 0 0] 37
    rwa [World.size_alloc] at this
  clear h h' H1 H2
  have tk : True := trivial
  have tk2 : True := trivial
  go_enter Try.func15, Try.ntmps15
  go_wp2_with (first
    | (go_at_call 9; have _t := tk; clear tk; refine (E1.out _ B0).mono ?_; rintro e w1 ⟨rfl, hb⟩; have l0 : w.heap.size + 1 < w1.heap.size := (by have := hb.size; simp at this; omega); replace C0 := C0.up hb (by simp; omega); replace C1 := C1.up hb (by simp); replace B0 := B0.trans (hb.mono B0.size); clear hb _t; have c1 := C0.1 1 _ rfl; have c2 := C0.1 2 _ rfl; have d1 := C1.1 1 _ rfl; have d2 := C1.1 2 _ rfl)
    | (go_at_call 9; have _t := tk2; clear tk2 _t; refine (E2.out _ B0).mono ?_; rintro e w2 ⟨rfl, hb⟩; clear c1 c2 d1 d2; replace C0 := C0.up hb (by omega); replace C1 := C1.up hb (by omega); replace B0 := B0.trans (hb.mono B0.size); clear hb; have c2 := C0.1 2 _ rfl; have d2 := C1.1 2 _ rfl; have l1' : w.heap.size + 1 < w2.heap.size := (AtC.lt' C1 rfl))
    | (go_at_call 25; refine (E3.out _ B0).mono ?_; rintro e w3 ⟨rfl, hb⟩; clear c2 d2; replace C0 := C0.up hb (by omega); replace C1 := C1.up hb (by omega); replace B0 := B0.trans (hb.mono B0.size); clear hb; have c3 := C0.1 3 _ rfl; have d3 := C1.1 3 _ rfl; have c4 := C0.1 4 _ rfl; have d4 := C1.1 4 _ rfl; have c5 := C0.1 5 _ rfl; have d5 := C1.1 5 _ rfl; have c6 := C0.1 6 _ rfl; have d6 := C1.1 6 _ rfl; have c7 := C0.1 7 _ rfl; have d7 := C1.1 7 _ rfl; have c8 := C0.1 8 _ rfl; have d8 := C1.1 8 _ rfl; have c9 := C0.1 9 _ rfl; have d9 := C1.1 9 _ rfl)
    | (go_at_call 26; refine (eqNil_PolItemS _).mono ?_; rintro e w4 ⟨rfl, rfl⟩)
    | (go_at_call 27; refine (eqNil_HseTicketS _).mono ?_; rintro e w4 ⟨rfl, rfl⟩)
    | (go_at_call 28; refine (eqNil_HseLineS _).mono ?_; rintro e w4 ⟨rfl, rfl⟩)
    | (go_at_call 9; refine (eqNil_IntS _).mono ?_; rintro e w4 ⟨rfl, rfl⟩))
  go_ret
  exact ⟨rfl, B0⟩
set_option maxHeartbeats 1000000 in
theorem markHK_own' {b : Nat} (vk vu vr : Value) (K U A : List Int) (w : World) (h : HK w b vk vu vr K U A) (l1 : K.length ≤ 1048576) (l2 : U.length ≤ 1048576) (l3 : A.length ≤ 1048576) :
    Calls Try.prog 16 #[.agg #[vk, vu, vr, .slice none 0 0, .slice none 0 0, .slice none 0 0, .int .i64 0, .slice none 0 0, .slice none 0 0, .slice none 0 0], .int .i64 1] w fun e w' => e = .returned (.int .i64 ((1 + K.length + U.length + A.length : Nat) : Int)) ∧ HK w' b vk vu vr (mkI 1 K.length) (mkI (1 + K.length) U.length) (mkI (1 + K.length + U.length) A.length) ∧ (∀ B, B ≤ w.heap.size → B ≤ b → Below B w w') ∧ (∀ k, k < w.heap.size → ¬ blkH vk vu vr k → w'.heap[k]? = w.heap[k]?) := by
  obtain ⟨Ak, ck, rfl⟩ := own_slice h.1
  obtain ⟨Au, cu, rfl⟩ := own_slice h.2.1
  obtain ⟨Ar, cr, rfl⟩ := own_slice h.2.2.1
  have M0 := hpNew w (.cells #[.slice Ak K.length ck, .slice Au U.length cu, .slice Ar A.length cr, .slice none 0 0, .slice none 0 0, .slice none 0 0, .int .i64 0, .slice none 0 0, .slice none 0 0, .slice none 0 0] 37)
  have B0 : ∀ B, B ≤ w.heap.size → B ≤ b → Below B w (w.alloc (.cells #[.slice Ak K.length ck, .slice Au U.length cu, .slice Ar A.length cr, .slice none 0 0, .slice none 0 0, .slice none 0 0, .int .i64 0, .slice none 0 0, .slice none 0 0, .slice none 0 0] 37)) := fun B h1 h2 => (Below.refl _ _).alloc h1 _
  have nk : ∀ g, (Value.slice Ak K.length ck).ownBlock = some g → g < w.heap.size ∧ b ≤ g := fun g q => ⟨h.lt (.inl q), h.ge (.inl q)⟩
  have nu : ∀ g, (Value.slice Au U.length cu).ownBlock = some g → g < w.heap.size ∧ b ≤ g := fun g q => ⟨h.lt (.inr (.inl q)), h.ge (.inr (.inl q))⟩
  have nr : ∀ g, (Value.slice Ar A.length cr).ownBlock = some g → g < w.heap.size ∧ b ≤ g := fun g q => ⟨h.lt (.inr (.inr q)), h.ge (.inr (.inr q))⟩
  have ku := h.2.2.2
  have kr := types_ne h.2.2.1 h.1 (by decide)
  have ur := types_ne h.2.2.1 h.2.1 (by decide)
  have HW : Hid (∀ k, k < w.heap.size → (w.alloc (.cells #[.slice Ak K.length ck, .slice Au U.length cu, .slice Ar A.length cr, .slice none 0 0, .slice none 0 0, .slice none 0 0, .int .i64 0, .slice none 0 0, .slice none 0 0, .slice none 0 0] 37)).heap[k]? = w.heap[k]?) := fun k hk => Below.heap_alloc _ _ _ hk
  have HM : Hid ((w.alloc (.cells #[.slice Ak K.length ck, .slice Au U.length cu, .slice Ar A.length cr, .slice none 0 0, .slice none 0 0, .slice none 0 0, .int .i64 0, .slice none 0 0, .slice none 0 0, .slice none 0 0] 37)).heap[w.heap.size]? = some (.cells #[.slice Ak K.length ck, .slice Au U.length cu, .slice Ar A.length cr, .slice none 0 0, .slice none 0 0, .slice none 0 0, .int .i64 0, .slice none 0 0, .slice none 0 0, .slice none 0 0] 37 (0, 0))) := M0
  have HB : Hid (∀ B, B ≤ w.heap.size → B ≤ b → Below B w (w.alloc (.cells #[.slice Ak K.length ck, .slice Au U.length cu, .slice Ar A.length cr, .slice none 0 0, .slice none 0 0, .slice none 0 0, .int .i64 0, .slice none 0 0, .slice none 0 0, .slice none 0 0] 37))) := B0
  have P0 : Hid ((w.alloc (.cells #[.slice Ak K.length ck, .slice Au U.length cu, .slice Ar A.length cr, .slice none 0 0, .slice none 0 0, .slice none 0 0, .int .i64 0, .slice none 0 0, .slice none 0 0, .slice none 0 0] 37)).ownsRow b 3 1 (.slice Ak K.length ck) K.length (cellsI K)) := h.1.alloc _
  have U0 : Hid ((w.alloc (.cells #[.slice Ak K.length ck, .slice Au U.length cu, .slice Ar A.length cr, .slice none 0 0, .slice none 0 0, .slice none 0 0, .int .i64 0, .slice none 0 0, .slice none 0 0, .slice none 0 0] 37)).ownsRow b 3 1 (.slice Au U.length cu) U.length (cellsI U)) := h.2.1.alloc _
  have V0 : Hid ((w.alloc (.cells #[.slice Ak K.length ck, .slice Au U.length cu, .slice Ar A.length cr, .slice none 0 0, .slice none 0 0, .slice none 0 0, .int .i64 0, .slice none 0 0, .slice none 0 0, .slice none 0 0] 37)).ownsRow b 51 3 (.slice Ar A.length cr) A.length (cellsK A)) := h.2.2.1.alloc _
  have NK : Hid (∀ g, (Value.slice Ak K.length ck).ownBlock = some g → g < w.heap.size ∧ b ≤ g) := nk
  have NU : Hid (∀ g, (Value.slice Au U.length cu).ownBlock = some g → g < w.heap.size ∧ b ≤ g) := nu
  have NR : Hid (∀ g, (Value.slice Ar A.length cr).ownBlock = some g → g < w.heap.size ∧ b ≤ g) := nr
  have KU : Hid (∀ g, (Value.slice Ak K.length ck).ownBlock = some g → (Value.slice Au U.length cu).ownBlock ≠ some g) := ku
  have KR : Hid (∀ g, (Value.slice Ar A.length cr).ownBlock = some g → (Value.slice Ak K.length ck).ownBlock ≠ some g) := kr
  have UR : Hid (∀ g, (Value.slice Ar A.length cr).ownBlock = some g → (Value.slice Au U.length cu).ownBlock ≠ some g) := ur
  clear M0 B0 nk nu nr ku kr ur h
  have tk : True := trivial
  have tk2 : True := trivial
  go_enter Try.func16, Try.ntmps16
  go_wp2_with (first
    | (go_at_call 10; have _t := tk; clear tk; refine (markIk_own _ 1 K _ P0.out (by omega)).mono ?_; rintro e w1 ⟨rfl, P1, hg⟩; have z1 := hg.size; simp only [World.size_alloc] at z1; have M1 := hpBy HM.out hg (fun q => by have := (NK.out _ q).1; omega); have U1 := kept_other U0.out hg (fun g q e => KU.out g e q); have V1 := kept_other V0.out hg (fun g q e => KR.out g q e); have B1 : ∀ B, B ≤ w.heap.size → B ≤ b → Below B w w1 := (fun B h1 h2 => (HB.out B h1 h2).grown hg (by simp; omega) (fun g q => by have := (NK.out g q).2; omega)); have W1 : Hid (∀ k, k < w.heap.size → ¬ blkH (.slice Ak K.length ck) (.slice Au U.length cu) (.slice Ar A.length cr) k → w1.heap[k]? = w.heap[k]?) := (fun k hk nb => (hg.block k (by simp; omega) (fun e => nb (.inl e.symm))).trans (HW.out k hk)); clear hg _t HM U0 V0 HB P0 HW; have c1 := hpCell (k := 1) M1 rfl; have c2 := hpCell (k := 2) M1 rfl)
    | (go_at_call 10; have _t := tk2; clear tk2 _t; refine (markIk_own _ (1 + K.length) U _ U1 (by omega)).mono ?_; rintro e w2 ⟨rfl, U2, hg⟩; have z2 := hg.size; have M2 := hpBy M1 hg (fun q => by have := (NU.out _ q).1; omega); have P2 := kept_other P1 hg (fun g q e => KU.out g q e); have V2 := kept_other V1 hg (fun g q e => UR.out g q e); have B2 : ∀ B, B ≤ w.heap.size → B ≤ b → Below B w w2 := (fun B h1 h2 => (B1 B h1 h2).grown hg (by omega) (fun g q => by have := (NU.out g q).2; omega)); have W2 : Hid (∀ k, k < w.heap.size → ¬ blkH (.slice Ak K.length ck) (.slice Au U.length cu) (.slice Ar A.length cr) k → w2.heap[k]? = w.heap[k]?) := (fun k hk nb => (hg.block k (by omega) (fun e => nb (.inr (.inl e.symm)))).trans (W1.out k hk nb)); clear hg M1 P1 V1 B1 U1 c1 c2 W1; have c2 := hpCell (k := 2) M2 rfl)
    | (go_at_call 29; refine (markK_own _ (1 + K.length + U.length) A _ V2 (by omega)).mono ?_; rintro e w3 ⟨rfl, V3, hg⟩; have z3 := hg.size; have P3 := kept_other P2 hg (fun g q e => KR.out g e q); have U3 := kept_other U2 hg (fun g q e => UR.out g e q); have B3 : ∀ B, B ≤ w.heap.size → B ≤ b → Below B w w3 := (fun B h1 h2 => (B2 B h1 h2).grown hg (by omega) (fun g q => by have := (NR.out g q).2; omega)); have W3 : Hid (∀ k, k < w.heap.size → ¬ blkH (.slice Ak K.length ck) (.slice Au U.length cu) (.slice Ar A.length cr) k → w3.heap[k]? = w.heap[k]?) := (fun k hk nb => (hg.block k (by omega) (fun e => nb (.inr (.inr e.symm)))).trans (W2.out k hk nb)); have M3 := hpBy M2 hg (fun q => by have := (NR.out _ q).1; omega); clear hg c2; have c3 := hpCell (k := 3) M3 rfl; have c4 := hpCell (k := 4) M3 rfl; have c5 := hpCell (k := 5) M3 rfl; have c6 := hpCell (k := 6) M3 rfl; have c7 := hpCell (k := 7) M3 rfl; have c8 := hpCell (k := 8) M3 rfl; have c9 := hpCell (k := 9) M3 rfl)
    | (go_at_call 30; refine (markNil_PolItemS _ _).mono ?_; rintro e w4 ⟨rfl, rfl⟩)
    | (go_at_call 31; refine (markNil_HseTicketS _ _).mono ?_; rintro e w4 ⟨rfl, rfl⟩)
    | (go_at_call 32; refine (markNil_HseLineS _ _).mono ?_; rintro e w4 ⟨rfl, rfl⟩)
    | (go_at_call 10; refine (markNil_IntS _ _).mono ?_; rintro e w4 ⟨rfl, rfl⟩))
  go_ret
  refine ⟨rfl, ⟨?_, ?_, ?_, KU.out⟩, B3, W3.out⟩
  · rw [mkI_length]; exact P3
  · rw [mkI_length]; exact U3
  · rw [mkI_length]; exact V3
set_option maxHeartbeats 1000000 in
theorem heldHK_own' {b : Nat} (vk vu vr : Value) (k u a : Nat) (w : World) (h : HK w b vk vu vr (mkI 1 k) (mkI (1 + k) u) (mkI (1 + k + u) a)) (l1 : k ≤ 1048576) (l2 : u ≤ 1048576) (l3 : a ≤ 1048576) :
    Calls Try.prog 17 #[.agg #[vk, vu, vr, .slice none 0 0, .slice none 0 0, .slice none 0 0, .int .i64 0, .slice none 0 0, .slice none 0 0, .slice none 0 0], .int .i64 1] w fun e w' => e = .returned (.int .i64 ((1 + k + u + a : Nat) : Int)) ∧ Below w.heap.size w w' := by
  unfold HK at h
  rw [mkI_length, mkI_length, mkI_length] at h
  obtain ⟨Ak, ck, rfl⟩ := own_slice h.1
  obtain ⟨Au, cu, rfl⟩ := own_slice h.2.1
  obtain ⟨Ar, cr, rfl⟩ := own_slice h.2.2.1
  have E1 : Hid (∀ w1, Below w.heap.size w w1 → Calls Try.prog 23 #[.slice Ak k ck, .int .i64 ((1 : Nat) : Int)] w1 fun e w' => e = .returned (.int .i64 ((1 + k : Nat) : Int)) ∧ Below w1.heap.size w1 w') := fun w1 hb => heldIk_own _ 1 k w1 (ownsUnder h.1 hb (Nat.le_refl _)) (by omega)
  have E2 : Hid (∀ w1, Below w.heap.size w w1 → Calls Try.prog 23 #[.slice Au u cu, .int .i64 ((1 + k : Nat) : Int)] w1 fun e w' => e = .returned (.int .i64 ((1 + k + u : Nat) : Int)) ∧ Below w1.heap.size w1 w') := fun w1 hb => heldIk_own _ (1 + k) u w1 (ownsUnder h.2.1 hb (Nat.le_refl _)) (by omega)
  have E3 : Hid (∀ w1, Below w.heap.size w w1 → Calls Try.prog 33 #[.slice Ar a cr, .int .i64 ((1 + k + u : Nat) : Int)] w1 fun e w' => e = .returned (.int .i64 ((1 + k + u + a : Nat) : Int)) ∧ Below w1.heap.size w1 w') := fun w1 hb => heldK_own _ (1 + k + u) a w1 (ownsUnder h.2.2.1 hb (Nat.le_refl _)) (by omega)
  have C0 := atC_new w #[.slice Ak k ck, .slice Au u cu, .slice Ar a cr, .slice none 0 0, .slice none 0 0, .slice none 0 0, .int .i64 0, .slice none 0 0, .slice none 0 0, .slice none 0 0] 37
  have B0 : Below w.heap.size w (w.alloc (.cells #[.slice Ak k ck, .slice Au u cu, .slice Ar a cr, .slice none 0 0, .slice none 0 0, .slice none 0 0, .int .i64 0, .slice none 0 0, .slice none 0 0, .slice none 0 0] 37)) := (Below.refl _ _).alloc (Nat.le_refl _) _
  clear h
  have tk : True := trivial
  have tk2 : True := trivial
  go_enter Try.func17, Try.ntmps17
  go_wp2_with (first
    | (go_at_call 23; have _t := tk; clear tk; refine (E1.out _ B0).mono ?_; rintro e w1 ⟨rfl, hb⟩; have l0 : w.heap.size < w1.heap.size := (by have := hb.size; simp at this; omega); replace C0 := C0.up hb (by simp); replace B0 := B0.trans (hb.mono B0.size); clear hb _t; have c1 := C0.1 1 _ rfl; have c2 := C0.1 2 _ rfl)
    | (go_at_call 23; have _t := tk2; clear tk2 _t; refine (E2.out _ B0).mono ?_; rintro e w2 ⟨rfl, hb⟩; clear c1 c2; replace C0 := C0.up hb (by omega); replace B0 := B0.trans (hb.mono B0.size); clear hb; have c2 := C0.1 2 _ rfl; have l1' : w.heap.size < w2.heap.size := (AtC.lt' C0 rfl))
    | (go_at_call 33; refine (E3.out _ B0).mono ?_; rintro e w3 ⟨rfl, hb⟩; clear c2; replace C0 := C0.up hb (by omega); replace B0 := B0.trans (hb.mono B0.size); clear hb; have c3 := C0.1 3 _ rfl; have c4 := C0.1 4 _ rfl; have c5 := C0.1 5 _ rfl; have c6 := C0.1 6 _ rfl; have c7 := C0.1 7 _ rfl; have c8 := C0.1 8 _ rfl; have c9 := C0.1 9 _ rfl)
    | (go_at_call 34; refine (heldNil_PolItemS _ _).mono ?_; rintro e w4 ⟨rfl, rfl⟩)
    | (go_at_call 35; refine (heldNil_HseTicketS _ _).mono ?_; rintro e w4 ⟨rfl, rfl⟩)
    | (go_at_call 36; refine (heldNil_HseLineS _ _).mono ?_; rintro e w4 ⟨rfl, rfl⟩)
    | (go_at_call 23; refine (heldNil_IntS _ _).mono ?_; rintro e w4 ⟨rfl, rfl⟩))
  go_ret
  exact ⟨rfl, B0⟩
end Go.Proofs.Ytknbmgdfcejlkaa.W
