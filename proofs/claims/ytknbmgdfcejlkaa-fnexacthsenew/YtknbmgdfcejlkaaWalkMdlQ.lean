
/-
  Houses without rules and refs, as rows that a call has made: the walks of the exact laws' own 'eqMdlHouse', 'markMdlHouse' and 'heldMdlHouse'. Rows of at most 1048576.
-/
import Derived.Test.YtknbmgdfcejlkaaWalkToI
import Derived.Test.YtknbmgdfcejlkaaWalkMdlI
namespace Go.Proofs.Ytknbmgdfcejlkaa.W
open Go.RowKit
set_option linter.unusedVariables false

/-- three rows of a house, each in memory of its own -/
def HS (w : World) (b : Nat) (vk vu vr : Value) (K U A : List Int) : Prop :=
  w.ownsRow b 3 1 vk K.length (cellsI K) ∧ w.ownsRow b 3 1 vu U.length (cellsI U) ∧ w.ownsRow b 45 3 vr A.length (cellsM A) ∧ ∀ g, vk.ownBlock = some g → vu.ownBlock ≠ some g
def blkH (vk vu vr : Value) (g : Nat) : Prop := vk.ownBlock = some g ∨ vu.ownBlock = some g ∨ vr.ownBlock = some g
theorem HS.ge {w : World} {b : Nat} {vk vu vr : Value} {K U A : List Int} (h : HS w b vk vu vr K U A) {g : Nat} (q : blkH vk vu vr g) : b ≤ g := by
  rcases q with q | q | q
  · exact (h.1.lt g q).1
  · exact (h.2.1.lt g q).1
  · exact (h.2.2.1.lt g q).1
theorem HS.lt {w : World} {b : Nat} {vk vu vr : Value} {K U A : List Int} (h : HS w b vk vu vr K U A) {g : Nat} (q : blkH vk vu vr g) : g < w.heap.size := by
  rcases q with q | q | q
  · exact (h.1.lt g q).2
  · exact (h.2.1.lt g q).2
  · exact (h.2.2.1.lt g q).2
theorem HS.by_ {w w' : World} {b : Nat} {vk vu vr : Value} {K U A : List Int} {r : Option Nat} (h : HS w b vk vu vr K U A) (hg : w.grownBy w' r) (hne : ∀ g, blkH vk vu vr g → r ≠ some g) : HS w' b vk vu vr K U A :=
  ⟨kept_other h.1 hg (fun g q => hne g (.inl q)), kept_other h.2.1 hg (fun g q => hne g (.inr (.inl q))), kept_other h.2.2.1 hg (fun g q => hne g (.inr (.inr q))), h.2.2.2⟩
theorem HS.under {w w' : World} {b : Nat} {vk vu vr : Value} {K U A : List Int} (h : HS w b vk vu vr K U A) (hb : Below w.heap.size w w') : HS w' b vk vu vr K U A :=
  ⟨ownsUnder h.1 hb (Nat.le_refl _), ownsUnder h.2.1 hb (Nat.le_refl _), ownsUnder h.2.2.1 hb (Nat.le_refl _), h.2.2.2⟩
theorem row_lo {w w' : World} {b n z B : Nat} {e : TypeId} {v : Value} {xs : List Value} (h : w.ownsRow b e z v n xs) (hb : Below B w w') (hl : ∀ g, v.ownBlock = some g → g < B) : w'.ownsRow b e z v n xs := by
  obtain ⟨h1, h2⟩ := h
  refine ⟨h1, h2.imp id ?_⟩
  rintro ⟨g, cap, cur, rfl, q2, q3, q4⟩
  exact ⟨g, cap, cur, rfl, q2, (hb.block g (hl g rfl)).trans q3, q4⟩
theorem HS.lo {w w' : World} {b B : Nat} {vk vu vr : Value} {K U A : List Int} (h : HS w b vk vu vr K U A) (hb : Below B w w') (hl : ∀ g, blkH vk vu vr g → g < B) : HS w' b vk vu vr K U A :=
  ⟨row_lo h.1 hb (fun g q => hl g (.inl q)), row_lo h.2.1 hb (fun g q => hl g (.inr (.inl q))), row_lo h.2.2.1 hb (fun g q => hl g (.inr (.inr q))), h.2.2.2⟩
/-- what MdlNew answers, as such rows -/
theorem newAns_hs {b : Bool} {K A : List Int} {base : Nat} {e : Ending} {w' : World} (h : NewAns b K A base e w') :
    ∃ vk vu vr, e = .returned (.agg #[vk, vu, vr]) ∧ HS w' base vk vu vr (if b = true then K else []) (if b = true then zrs K.length else []) (if b = true then A else []) := by
  rcases h with ⟨rfl, rfl⟩ | ⟨rfl, vk, vu, vr, rfl, h1, h2, h3, h4⟩
  · exact ⟨_, _, _, rfl, World.ownsRow_nil _ _ _ _, World.ownsRow_nil _ _ _ _, World.ownsRow_nil _ _ _ _, fun g q => by cases q⟩
  · refine ⟨vk, vu, vr, rfl, h1, ?_, h3, h4⟩
    show w'.ownsRow base 3 1 vu (zrs K.length).length (cellsI (zrs K.length))
    rw [show (zrs K.length).length = K.length by simp [zrs]]
    exact h2
set_option maxHeartbeats 1000000 in
theorem eqHS_same {b b' : Nat} (vk vu vr vk' vu' vr' : Value) (K U A : List Int) (w : World) (h : HS w b vk vu vr K U A) (h' : HS w b' vk' vu' vr' K U A) (l1 : K.length ≤ 1048576) (l2 : U.length ≤ 1048576) (l3 : A.length ≤ 1048576) :
    Calls Try.prog 8 #[.agg #[vk, vu, vr], .agg #[vk', vu', vr']] w fun e w' => e = .returned (.bool true) ∧ Below w.heap.size w w' := by
  obtain ⟨Ak, ck, rfl⟩ := own_slice h.1
  obtain ⟨Au, cu, rfl⟩ := own_slice h.2.1
  obtain ⟨Ar, cr, rfl⟩ := own_slice h.2.2.1
  obtain ⟨Ak', ck', rfl⟩ := own_slice h'.1
  obtain ⟨Au', cu', rfl⟩ := own_slice h'.2.1
  obtain ⟨Ar', cr', rfl⟩ := own_slice h'.2.2.1
  have H1 : Hid (HS w b (.slice Ak K.length ck) (.slice Au U.length cu) (.slice Ar A.length cr) K U A) := h
  have H2 : Hid (HS w b' (.slice Ak' K.length ck') (.slice Au' U.length cu') (.slice Ar' A.length cr') K U A) := h'
  have B0 : Below w.heap.size w ((w.alloc (.cells #[.slice Ak K.length ck, .slice Au U.length cu, .slice Ar A.length cr] 25)).alloc (.cells #[.slice Ak' K.length ck', .slice Au' U.length cu', .slice Ar' A.length cr'] 25)) := ((Below.refl _ _).alloc (Nat.le_refl _) _).alloc (by simp) _
  have E1 : Hid (∀ w1, Below w.heap.size w w1 → Calls Try.prog 9 #[.slice Ak K.length ck, .slice Ak' K.length ck'] w1 fun e w' => e = .returned (.bool true) ∧ Below w1.heap.size w1 w') := fun w1 hb => eqI_own _ _ K w1 (ownsUnder h.1 hb (Nat.le_refl _)) (ownsUnder h'.1 hb (Nat.le_refl _)) l1
  have E2 : Hid (∀ w1, Below w.heap.size w w1 → Calls Try.prog 9 #[.slice Au U.length cu, .slice Au' U.length cu'] w1 fun e w' => e = .returned (.bool true) ∧ Below w1.heap.size w1 w') := fun w1 hb => eqI_own _ _ U w1 (ownsUnder h.2.1 hb (Nat.le_refl _)) (ownsUnder h'.2.1 hb (Nat.le_refl _)) l2
  have E3 : Hid (∀ w1, Below w.heap.size w w1 → Calls Try.prog 21 #[.slice Ar A.length cr, .slice Ar' A.length cr'] w1 fun e w' => e = .returned (.bool true) ∧ Below w1.heap.size w1 w') := fun w1 hb => eqM_own _ _ A w1 (ownsUnder h.2.2.1 hb (Nat.le_refl _)) (ownsUnder h'.2.2.1 hb (Nat.le_refl _)) l3
  have C0 : AtC ((w.alloc (.cells #[.slice Ak K.length ck, .slice Au U.length cu, .slice Ar A.length cr] 25)).alloc (.cells #[.slice Ak' K.length ck', .slice Au' U.length cu', .slice Ar' A.length cr'] 25)) w.heap.size #[.slice Ak K.length ck, .slice Au U.length cu, .slice Ar A.length cr] := (atC_new w _ _).alloc (by simp) _
  have C1 : AtC ((w.alloc (.cells #[.slice Ak K.length ck, .slice Au U.length cu, .slice Ar A.length cr] 25)).alloc (.cells #[.slice Ak' K.length ck', .slice Au' U.length cu', .slice Ar' A.length cr'] 25)) (w.heap.size + 1) #[.slice Ak' K.length ck', .slice Au' U.length cu', .slice Ar' A.length cr'] := by
    have := atC_new (w.alloc (.cells #[.slice Ak K.length ck, .slice Au U.length cu, .slice Ar A.length cr] 25)) #[.slice Ak' K.length ck', .slice Au' U.length cu', .slice Ar' A.length cr'] 25
    rwa [World.size_alloc] at this
  clear h h' H1 H2
  have tk : True := trivial
  go_enter Try.func8, Try.ntmps8
  go_wp2_with (first
    | (go_at_call 9; have _t := tk; clear tk; refine (E1.out _ B0).mono ?_; rintro e w1 ⟨rfl, hb⟩; have l0 : w.heap.size + 1 < w1.heap.size := (by have := hb.size; simp at this; omega); replace C0 := C0.up hb (by simp; omega); replace C1 := C1.up hb (by simp); replace B0 := B0.trans (hb.mono B0.size); clear hb _t; have c1 := C0.1 1 _ rfl; have c2 := C0.1 2 _ rfl; have d1 := C1.1 1 _ rfl; have d2 := C1.1 2 _ rfl)
    | (go_at_call 9; refine (E2.out _ B0).mono ?_; rintro e w2 ⟨rfl, hb⟩; clear c1 c2 d1 d2; replace C0 := C0.up hb (by omega); replace C1 := C1.up hb (by omega); replace B0 := B0.trans (hb.mono B0.size); clear hb; have c2 := C0.1 2 _ rfl; have d2 := C1.1 2 _ rfl)
    | (go_at_call 21; refine (E3.out _ B0).mono ?_; rintro e w3 ⟨rfl, hb⟩; replace B0 := B0.trans (hb.mono B0.size); clear hb))
  go_ret
  exact ⟨rfl, B0⟩
theorem types_ne {w : World} {b b' n n' z z' : Nat} {e e' : TypeId} {v v' : Value} {xs xs' : List Value} (h : w.ownsRow b e z v n xs) (h' : w.ownsRow b' e' z' v' n' xs') (hne : e ≠ e') : ∀ g, v.ownBlock = some g → v'.ownBlock ≠ some g := by
  intro g q
  rcases h.2 with ⟨rfl, _⟩ | ⟨g', cap, cur, rfl, _, h2, _⟩
  · cases q
  · cases q
    exact type_ne h' h2 hne
set_option maxHeartbeats 1000000 in
theorem markHS_own' {b : Nat} (vk vu vr : Value) (K U A : List Int) (w : World) (h : HS w b vk vu vr K U A) (l1 : K.length ≤ 1048576) (l2 : U.length ≤ 1048576) (l3 : A.length ≤ 1048576) :
    Calls Try.prog 11 #[.agg #[vk, vu, vr], .int .i64 1] w fun e w' => e = .returned (.int .i64 ((1 + K.length + U.length + A.length : Nat) : Int)) ∧ HS w' b vk vu vr (mkI 1 K.length) (mkI (1 + K.length) U.length) (mkI (1 + K.length + U.length) A.length) ∧ (∀ B, B ≤ w.heap.size → B ≤ b → Below B w w') ∧ (∀ k, k < w.heap.size → ¬ blkH vk vu vr k → w'.heap[k]? = w.heap[k]?) := by
  obtain ⟨Ak, ck, rfl⟩ := own_slice h.1
  obtain ⟨Au, cu, rfl⟩ := own_slice h.2.1
  obtain ⟨Ar, cr, rfl⟩ := own_slice h.2.2.1
  have M0 := hpNew w (.cells #[.slice Ak K.length ck, .slice Au U.length cu, .slice Ar A.length cr] 25)
  have B0 : ∀ B, B ≤ w.heap.size → B ≤ b → Below B w (w.alloc (.cells #[.slice Ak K.length ck, .slice Au U.length cu, .slice Ar A.length cr] 25)) := fun B h1 h2 => (Below.refl _ _).alloc h1 _
  have nk : ∀ g, (Value.slice Ak K.length ck).ownBlock = some g → g < w.heap.size ∧ b ≤ g := fun g q => ⟨h.lt (.inl q), h.ge (.inl q)⟩
  have nu : ∀ g, (Value.slice Au U.length cu).ownBlock = some g → g < w.heap.size ∧ b ≤ g := fun g q => ⟨h.lt (.inr (.inl q)), h.ge (.inr (.inl q))⟩
  have nr : ∀ g, (Value.slice Ar A.length cr).ownBlock = some g → g < w.heap.size ∧ b ≤ g := fun g q => ⟨h.lt (.inr (.inr q)), h.ge (.inr (.inr q))⟩
  have ku := h.2.2.2
  have kr := types_ne h.2.2.1 h.1 (by decide)
  have ur := types_ne h.2.2.1 h.2.1 (by decide)
  have HW : Hid (∀ k, k < w.heap.size → (w.alloc (.cells #[.slice Ak K.length ck, .slice Au U.length cu, .slice Ar A.length cr] 25)).heap[k]? = w.heap[k]?) := fun k hk => Below.heap_alloc _ _ _ hk
  have HM : Hid ((w.alloc (.cells #[.slice Ak K.length ck, .slice Au U.length cu, .slice Ar A.length cr] 25)).heap[w.heap.size]? = some (.cells #[.slice Ak K.length ck, .slice Au U.length cu, .slice Ar A.length cr] 25 (0, 0))) := M0
  have HB : Hid (∀ B, B ≤ w.heap.size → B ≤ b → Below B w (w.alloc (.cells #[.slice Ak K.length ck, .slice Au U.length cu, .slice Ar A.length cr] 25))) := B0
  have P0 : Hid ((w.alloc (.cells #[.slice Ak K.length ck, .slice Au U.length cu, .slice Ar A.length cr] 25)).ownsRow b 3 1 (.slice Ak K.length ck) K.length (cellsI K)) := h.1.alloc _
  have U0 : Hid ((w.alloc (.cells #[.slice Ak K.length ck, .slice Au U.length cu, .slice Ar A.length cr] 25)).ownsRow b 3 1 (.slice Au U.length cu) U.length (cellsI U)) := h.2.1.alloc _
  have V0 : Hid ((w.alloc (.cells #[.slice Ak K.length ck, .slice Au U.length cu, .slice Ar A.length cr] 25)).ownsRow b 45 3 (.slice Ar A.length cr) A.length (cellsM A)) := h.2.2.1.alloc _
  have NK : Hid (∀ g, (Value.slice Ak K.length ck).ownBlock = some g → g < w.heap.size ∧ b ≤ g) := nk
  have NU : Hid (∀ g, (Value.slice Au U.length cu).ownBlock = some g → g < w.heap.size ∧ b ≤ g) := nu
  have NR : Hid (∀ g, (Value.slice Ar A.length cr).ownBlock = some g → g < w.heap.size ∧ b ≤ g) := nr
  have KU : Hid (∀ g, (Value.slice Ak K.length ck).ownBlock = some g → (Value.slice Au U.length cu).ownBlock ≠ some g) := ku
  have KR : Hid (∀ g, (Value.slice Ar A.length cr).ownBlock = some g → (Value.slice Ak K.length ck).ownBlock ≠ some g) := kr
  have UR : Hid (∀ g, (Value.slice Ar A.length cr).ownBlock = some g → (Value.slice Au U.length cu).ownBlock ≠ some g) := ur
  clear M0 B0 nk nu nr ku kr ur h
  have tk : True := trivial
  go_enter Try.func11, Try.ntmps11
  go_wp2_with (first
    | (go_at_call 10; have _t := tk; clear tk; refine (markIk_own _ 1 K _ P0.out (by omega)).mono ?_; rintro e w1 ⟨rfl, P1, hg⟩; have z1 := hg.size; simp only [World.size_alloc] at z1; have M1 := hpBy HM.out hg (fun q => by have := (NK.out _ q).1; omega); have U1 := kept_other U0.out hg (fun g q e => KU.out g e q); have V1 := kept_other V0.out hg (fun g q e => KR.out g q e); have B1 : ∀ B, B ≤ w.heap.size → B ≤ b → Below B w w1 := (fun B h1 h2 => (HB.out B h1 h2).grown hg (by simp; omega) (fun g q => by have := (NK.out g q).2; omega)); have W1 : Hid (∀ k, k < w.heap.size → ¬ blkH (.slice Ak K.length ck) (.slice Au U.length cu) (.slice Ar A.length cr) k → w1.heap[k]? = w.heap[k]?) := (fun k hk nb => (hg.block k (by simp; omega) (fun e => nb (.inl e.symm))).trans (HW.out k hk)); clear hg _t HM U0 V0 HB P0 HW; have c1 := hpCell (k := 1) M1 rfl; have c2 := hpCell (k := 2) M1 rfl)
    | (go_at_call 10; refine (markIk_own _ (1 + K.length) U _ U1 (by omega)).mono ?_; rintro e w2 ⟨rfl, U2, hg⟩; have z2 := hg.size; have M2 := hpBy M1 hg (fun q => by have := (NU.out _ q).1; omega); have P2 := kept_other P1 hg (fun g q e => KU.out g q e); have V2 := kept_other V1 hg (fun g q e => UR.out g q e); have B2 : ∀ B, B ≤ w.heap.size → B ≤ b → Below B w w2 := (fun B h1 h2 => (B1 B h1 h2).grown hg (by omega) (fun g q => by have := (NU.out g q).2; omega)); have W2 : Hid (∀ k, k < w.heap.size → ¬ blkH (.slice Ak K.length ck) (.slice Au U.length cu) (.slice Ar A.length cr) k → w2.heap[k]? = w.heap[k]?) := (fun k hk nb => (hg.block k (by omega) (fun e => nb (.inr (.inl e.symm)))).trans (W1.out k hk nb)); clear hg M1 P1 V1 B1 U1 c1 c2 W1; have c2 := hpCell (k := 2) M2 rfl)
    | (go_at_call 22; refine (markM_own _ (1 + K.length + U.length) A _ V2 (by omega)).mono ?_; rintro e w3 ⟨rfl, V3, hg⟩; have z3 := hg.size; have P3 := kept_other P2 hg (fun g q e => KR.out g e q); have U3 := kept_other U2 hg (fun g q e => UR.out g e q); have B3 : ∀ B, B ≤ w.heap.size → B ≤ b → Below B w w3 := (fun B h1 h2 => (B2 B h1 h2).grown hg (by omega) (fun g q => by have := (NR.out g q).2; omega)); have W3 : Hid (∀ k, k < w.heap.size → ¬ blkH (.slice Ak K.length ck) (.slice Au U.length cu) (.slice Ar A.length cr) k → w3.heap[k]? = w.heap[k]?) := (fun k hk nb => (hg.block k (by omega) (fun e => nb (.inr (.inr e.symm)))).trans (W2.out k hk nb))))
  go_ret
  refine ⟨rfl, ⟨?_, ?_, ?_, KU.out⟩, B3, W3.out⟩
  · rw [mkI_length]; exact P3
  · rw [mkI_length]; exact U3
  · rw [mkI_length]; exact V3
set_option maxHeartbeats 1000000 in
theorem heldHS_own' {b : Nat} (vk vu vr : Value) (k u a : Nat) (w : World) (h : HS w b vk vu vr (mkI 1 k) (mkI (1 + k) u) (mkI (1 + k + u) a)) (l1 : k ≤ 1048576) (l2 : u ≤ 1048576) (l3 : a ≤ 1048576) :
    Calls Try.prog 12 #[.agg #[vk, vu, vr], .int .i64 1] w fun e w' => e = .returned (.int .i64 ((1 + k + u + a : Nat) : Int)) ∧ Below w.heap.size w w' := by
  unfold HS at h
  rw [mkI_length, mkI_length, mkI_length] at h
  obtain ⟨Ak, ck, rfl⟩ := own_slice h.1
  obtain ⟨Au, cu, rfl⟩ := own_slice h.2.1
  obtain ⟨Ar, cr, rfl⟩ := own_slice h.2.2.1
  have E1 : Hid (∀ w1, Below w.heap.size w w1 → Calls Try.prog 23 #[.slice Ak k ck, .int .i64 ((1 : Nat) : Int)] w1 fun e w' => e = .returned (.int .i64 ((1 + k : Nat) : Int)) ∧ Below w1.heap.size w1 w') := fun w1 hb => heldIk_own _ 1 k w1 (ownsUnder h.1 hb (Nat.le_refl _)) (by omega)
  have E2 : Hid (∀ w1, Below w.heap.size w w1 → Calls Try.prog 23 #[.slice Au u cu, .int .i64 ((1 + k : Nat) : Int)] w1 fun e w' => e = .returned (.int .i64 ((1 + k + u : Nat) : Int)) ∧ Below w1.heap.size w1 w') := fun w1 hb => heldIk_own _ (1 + k) u w1 (ownsUnder h.2.1 hb (Nat.le_refl _)) (by omega)
  have E3 : Hid (∀ w1, Below w.heap.size w w1 → Calls Try.prog 24 #[.slice Ar a cr, .int .i64 ((1 + k + u : Nat) : Int)] w1 fun e w' => e = .returned (.int .i64 ((1 + k + u + a : Nat) : Int)) ∧ Below w1.heap.size w1 w') := fun w1 hb => heldM_own _ (1 + k + u) a w1 (ownsUnder h.2.2.1 hb (Nat.le_refl _)) (by omega)
  have C0 := atC_new w #[.slice Ak k ck, .slice Au u cu, .slice Ar a cr] 25
  have B0 : Below w.heap.size w (w.alloc (.cells #[.slice Ak k ck, .slice Au u cu, .slice Ar a cr] 25)) := (Below.refl _ _).alloc (Nat.le_refl _) _
  clear h
  have tk : True := trivial
  go_enter Try.func12, Try.ntmps12
  go_wp2_with (first
    | (go_at_call 23; have _t := tk; clear tk; refine (E1.out _ B0).mono ?_; rintro e w1 ⟨rfl, hb⟩; have l0 : w.heap.size < w1.heap.size := (by have := hb.size; simp at this; omega); replace C0 := C0.up hb (by simp); replace B0 := B0.trans (hb.mono B0.size); clear hb _t; have c1 := C0.1 1 _ rfl; have c2 := C0.1 2 _ rfl)
    | (go_at_call 23; refine (E2.out _ B0).mono ?_; rintro e w2 ⟨rfl, hb⟩; clear c1 c2; replace C0 := C0.up hb (by omega); replace B0 := B0.trans (hb.mono B0.size); clear hb; have c2 := C0.1 2 _ rfl)
    | (go_at_call 24; refine (E3.out _ B0).mono ?_; rintro e w3 ⟨rfl, hb⟩; replace B0 := B0.trans (hb.mono B0.size); clear hb))
  go_ret
  exact ⟨rfl, B0⟩
end Go.Proofs.Ytknbmgdfcejlkaa.W
