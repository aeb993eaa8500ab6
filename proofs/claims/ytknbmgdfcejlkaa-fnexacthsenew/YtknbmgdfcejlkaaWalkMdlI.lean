
/-
  MdlNew of the program: a house at its beginning. Rows of at most 1048576 numbers.
-/
import Derived.Test.YtknbmgdfcejlkaaSlotMI
namespace Go.Proofs.Ytknbmgdfcejlkaa.W
open Go.RowKit
set_option linter.unusedVariables false

theorem content_ne {w : World} {b b' : Nat} {K : List Int} {vk vu : Value} (h1 : w.ownsRow b 3 1 vk K.length (cellsI K)) (h2 : w.ownsRow b' 3 1 vu K.length (cellsI (zrs K.length))) (hn : 0 < K.length) (h0 : K[0] ≠ 0) : ∀ g, vk.ownBlock = some g → vu.ownBlock ≠ some g := by
  intro g q1 q2
  rcases h1.2 with ⟨rfl, _⟩ | ⟨g1, c1, cur1, rfl, _⟩
  · cases q1
  · rcases h2.2 with ⟨rfl, _⟩ | ⟨g2, c2, cur2, rfl, _⟩
    · cases q2
    · cases q1
      cases q2
      have e1 := h1.cellAt 0 (by omega)
      have e2 := h2.cellAt 0 (by omega)
      rw [e1, cellsI_get K 0 hn, cellsI_get (zrs K.length) 0 (by simpa [zrs] using hn)] at e2
      have e3 : (zrs K.length)[0]'(by simpa [zrs] using hn) = 0 := by simp [zrs]
      rw [e3] at e2
      injection e2 with e2
      injection e2 with _ e2
      exact h0 e2
theorem newB_first (K A : List Int) (h : newB K A = true) : ∃ hn : 0 < K.length, K[0] ≠ 0 := by
  rw [newB_parts, Bool.and_eq_true, Bool.and_eq_true] at h
  obtain ⟨⟨h1, h2⟩, _⟩ := h
  have hn : 0 < K.length := by
    rcases Nat.eq_zero_or_pos K.length with e | e
    · rw [e] at h1; exact absurd h1 (by decide)
    · exact e
  refine ⟨hn, fun e => ?_⟩
  have := List.all_eq_true.1 h2 K[0] (List.getElem_mem hn)
  rw [e] at this
  exact absurd this (by decide)

set_option maxRecDepth 100000 in
set_option maxHeartbeats 8000000 in
theorem mdlNew_impl {b0 : Nat} (A0 A1 : Option Addr) (c0 d1 : Nat) (K A : List Int) (w : World) (hK : w.ownsRow b0 3 1 (.slice A0 K.length c0) K.length (cellsI K)) (hA : RdI w.heap.size w A1 A) (hk : K.length ≤ 1048576) (ha : A.length ≤ 1048576) :
    Calls Try.prog 7 #[.slice A0 K.length c0, .slice A1 A.length d1] w fun e w' => NewAns (newB K A) K A w.heap.size e w' ∧ Below w.heap.size w w' := by
  have HA : Hid (RdI w.heap.size w A1 A) := hA
  have HK : Hid ((w.alloc (.cells N3 25)).ownsRow b0 3 1 (.slice A0 K.length c0) K.length (cellsI K)) := hK.alloc _
  have hR0 := hpNew w (.cells N3 25)
  have HR0 : Hid ((w.alloc (.cells N3 25)).heap[w.heap.size]? = some (.cells N3 25 (0, 0))) := hR0
  clear hK hA hR0
  go_enter Try.func7, Try.ntmps7
  go_wp2
  rename_i KK hKK
  refine frontMI (c0 := c0) (A0 := A0) (K := K) (b0 := b0) (by kernel_rfl) rfl rfl rfl HK.out hk ?_
  intro y w2 k vk vu hb2 hk1 hk2 hM O1 O2
  simp only [World.size_alloc] at hk1
  have hz2 := hb2.size
  simp only [World.size_alloc] at hz2
  have R2 := hpBelow HR0.out hb2 (by simp)
  have B2 : Below w.heap.size w w2 := ((Below.refl _ w).alloc (Nat.le_refl _) _).trans (hb2.mono (by simp))
  have HO1 : Hid (w2.ownsRow (w.heap.size + 1) 3 1 vk K.length (cellsI K)) := ownsDown O1 (by simp)
  have HO2 : Hid (w2.ownsRow (w.heap.size + 1) 3 1 vu K.length (cellsI (zrs K.length))) := ownsDown O2 (by simp)
  clear O1 O2 HK HR0 hb2
  refine hKK _ _ ?_
  clear hKK
  simp only [List.getElem?_toArray, List.getElem?_cons_succ, List.getElem?_cons_zero, Option.getD_some]
  obtain ⟨i0, hii, hz0, hz1, hzb⟩ := info_parts infoM
  go_wp2
  go_loopw [16] (fun iv wr => ∃ (j : Nat) (vr : Value), j ≤ A.length ∧ iv = .int .i64 j ∧ wr.heap[w.heap.size]? = some (.cells N3 25 (0, 0)) ∧ wr.heap[k]? = some (.cells #[vk, vu, vr] 25 (0, 0)) ∧
      Hid (wr.ownsRow (w.heap.size + 1) 3 1 vk K.length (cellsI K)) ∧ Hid (wr.ownsRow (w.heap.size + 1) 3 1 vu K.length (cellsI (zrs K.length))) ∧ Hid (wr.ownsRow (w.heap.size + 1) 45 3 vr j (cellsM (A.take j))) ∧ Below w.heap.size w wr) (fun i _ => A.length - (intOf i).toNat)
  case atStart => exact ⟨0, .slice none 0 0, Nat.zero_le _, rfl, R2, hM, HO1, HO2, World.ownsRow_nil _ _ _ _, B2⟩
  case round =>
    clear R2 hM HO1 HO2 B2 hz2 hk2
    obtain ⟨j, vr, hj, rfl, hR, hM, HO1, HO2, HO3, hb⟩ := hrel
    have hsz := hb.size
    have hlR : w.heap.size < wr.heap.size := (Array.getElem?_eq_some_iff.1 hR).1
    have hlM : k < wr.heap.size := (Array.getElem?_eq_some_iff.1 hM).1
    by_cases hlt : j < A.length
    · obtain ⟨b, o, rfl, hbl, c1⟩ := (HA.out.below hb (Nat.le_refl _)) j hlt
      have htk : A.take (j + 1) = A.take j ++ [A[j]] := List.take_succ_eq_append_getElem hlt
      generalize A[j] = x at *
      have HT : Hid (A.take (j + 1) = A.take j ++ [x]) := htk
      have HRR : Hid (wr.heap[w.heap.size]? = some (.cells N3 25 (0, 0))) := hR
      have HMM : Hid (wr.heap[k]? = some (.cells #[vk, vu, vr] 25 (0, 0))) := hM
      have HB : Hid (Below w.heap.size w wr) := hb
      have m2 := hpCell (k := 2) hM rfl
      have hkl : w.heap.size < k := hk1
      clear htk hR hM hb
      go_wp2_with (at_builtin; refine wpList_append_own _ rfl _ _ 23 rfl (w.heap.size + 1) 45 i0 (.agg #[.int .i64 0, .slice none 0 0, .slice none 0 0]) 3 56 Try.underlying23 hii hz0 hz1 hzb rfl (by decide) vr j (cellsM (A.take j)) rfl (HO3.out.alloc _) ⟨wr.heap.size, 0, none⟩ 1 1 [.int .i64 x, .slice none 0 0, .slice none 0 0] rfl rfl (cells_new _ #[.int .i64 x, .slice none 0 0, .slice none 0 0] _) (fun u hu => by simp at hu; rcases hu with rfl | rfl <;> rfl) (by unfold maxLen; omega) (by omega) (by simp; omega) ?_; intro v5 w5 hO5 hg5 _; obtain ⟨A5, c5, rfl⟩ := own_slice hO5; have hz5 := hg5.size; simp only [World.size_alloc] at hz5; have R5 := hpBy (hpBelow HRR.out ((Below.refl _ _).alloc (Nat.le_refl _) (.cells #[.int .i64 x, .slice none 0 0, .slice none 0 0] 45)) (by omega)) hg5 (own_hi HO3.out (by omega)); have M5 := hpBy (hpBelow HMM.out ((Below.refl _ _).alloc (Nat.le_refl _) (.cells #[.int .i64 x, .slice none 0 0, .slice none 0 0] 45)) (by omega)) hg5 (type_ne HO3.out HMM.out (by decide)); have m5 := hpCell (k := 2) M5 rfl; have mf := hpFrozen (k := 2) M5)
      go_roundw
      case rel =>
        have hal := (Below.refl wr.heap.size wr).alloc (Nat.le_refl _) (.cells #[.int .i64 x, .slice none 0 0, .slice none 0 0] 45)
        have N1 : ∀ g, (Value.ownBlock vr) = some g → ∃ cs, wr.heap[g]? = some (.cells cs 45 (0, 0)) := fun g q => by
          rcases HO3.out.2 with ⟨rfl, _⟩ | ⟨g', cap, cur, rfl, _, h2, _⟩
          · cases q
          · cases q; exact ⟨_, h2⟩
        have P5 := kept_other (HO1.out.alloc (.cells #[.int .i64 x, .slice none 0 0, .slice none 0 0] 45)) hg5 (fun g q e => by obtain ⟨cs, hcs⟩ := N1 g e; exact type_ne HO1.out hcs (by decide) q)
        have U5 := kept_other (HO2.out.alloc (.cells #[.int .i64 x, .slice none 0 0, .slice none 0 0] 45)) hg5 (fun g q e => by obtain ⟨cs, hcs⟩ := N1 g e; exact type_ne HO2.out hcs (by decide) q)
        have B5 : Below w.heap.size w w5 := (HB.out.alloc hsz (.cells #[.int .i64 x, .slice none 0 0, .slice none 0 0] 45)).grown hg5 (by simp; omega) (fun g q => by have := (HO3.out.lt g q).1; omega)
        rw [← cellsM_snoc, ← HT.out] at hO5
        exact ⟨j + 1, .slice A5 (j + 1) c5, by omega, by go_num, hpBy R5 (grownBy_set w5 k 2 _) (fun e => by have := Option.some.inj e; omega), hpSet (k := 2) M5, kept_cell P5 M5 (by decide), kept_cell U5 M5 (by decide), kept_cell hO5 M5 (by decide), B5.setCell (p := ⟨k, 2, none⟩) (by show w.heap.size ≤ k; omega) _⟩
      case measure => simp [intOf]; omega
    · obtain rfl : j = A.length := by omega
      have tl2 : A.take A.length = A := List.take_length
      rw [tl2] at HO3
      obtain ⟨Ak, ck, ek, rk⟩ := rdI_of_own HO1.out
      have rU : wr.ownsRow (w.heap.size + 1) 3 1 vu (zrs K.length).length (cellsI (zrs K.length)) := by rw [show (zrs K.length).length = K.length by simp [zrs]]; exact HO2.out
      obtain ⟨Au, cu, eu, ru⟩ := rdI_of_own rU
      rw [show (zrs K.length).length = K.length by simp [zrs]] at eu
      obtain ⟨Ar, cr, er, rr⟩ := rdM_of_own HO3.out
      subst ek eu er
      have HC : Hid (∀ w', w' = wr → Calls Try.prog 20 #[.agg #[.slice Ak K.length ck, .slice Au K.length cu, .slice Ar A.length cr]] w' fun e w'' => e = .returned (.bool (newB K A)) ∧ Below w'.heap.size w' w'') := fun w' e => by subst e; exact mdlOk_new Ak Au Ar ck cu cr K A _ rk ru rr hk ha
      have m0 := hpCell (k := 0) hM rfl; have m1 := hpCell (k := 1) hM rfl; have m2 := hpCell (k := 2) hM rfl
      have HMM : Hid (wr.heap[k]? = some (.cells #[.slice Ak K.length ck, .slice Au K.length cu, .slice Ar A.length cr] 25 (0, 0))) := hM
      have HRR : Hid (wr.heap[w.heap.size]? = some (.cells N3 25 (0, 0))) := hR
      have HB : Hid (Below w.heap.size w wr) := hb
      clear rk ru rr rU hM hR hb
      cases hB : newB K A
      · rw [hB] at HC
        go_wp2_with (go_at_call 20; refine (HC.out _ rfl).mono ?_; rintro e w6 ⟨rfl, hb6⟩; have hz6 := hb6.size; have R6 := hpBelow HRR.out hb6 hlR; have r0 := hpCell (k := 0) R6 rfl; have r1 := hpCell (k := 1) R6 rfl; have r2 := hpCell (k := 2) R6 rfl; have f0 := hpFrozen (k := 0) R6; have f1 := hpFrozen (k := 1) R6; have f2 := hpFrozen (k := 2) R6)
        have k0 := hpCell (k := 0) (hpSet (k := 2) (v := .slice none 0 0) (hpSet (k := 1) (v := .slice none 0 0) (hpSet (k := 0) (v := .slice none 0 0) R6))) rfl
        have k1 := hpCell (k := 1) (hpSet (k := 2) (v := .slice none 0 0) (hpSet (k := 1) (v := .slice none 0 0) (hpSet (k := 0) (v := .slice none 0 0) R6))) rfl
        have k2 := hpCell (k := 2) (hpSet (k := 2) (v := .slice none 0 0) (hpSet (k := 1) (v := .slice none 0 0) (hpSet (k := 0) (v := .slice none 0 0) R6))) rfl
        refine bodyPost_ret (v := .agg #[.slice none 0 0, .slice none 0 0, .slice none 0 0]) (by simp [results, Try.results7, go_sem, k0, k1, k2]) rfl ?_
        refine ⟨.inl ⟨by assumption, rfl⟩, ?_⟩
        repeat (refine Below.setCell ?_ (by first | (simp; done) | omega) _)
        exact HB.out.trans (hb6.mono hsz)
      · rw [hB] at HC
        obtain ⟨hn, h0⟩ := newB_first K A hB
        have HN : Hid (∀ g, (Value.slice Ak K.length ck).ownBlock = some g → (Value.slice Au K.length cu).ownBlock ≠ some g) := content_ne HO1.out HO2.out hn h0
        clear h0 hn
        go_wp2_with (go_at_call 20; refine (HC.out _ rfl).mono ?_; rintro e w6 ⟨rfl, hb6⟩; have hz6 := hb6.size; have R6 := hpBelow HRR.out hb6 hlR; have M6 := hpBelow HMM.out hb6 hlM; clear m0 m1 m2; have m0 := hpCell (k := 0) M6 rfl; have m1 := hpCell (k := 1) M6 rfl; have m2 := hpCell (k := 2) M6 rfl; have r0 := hpCell (k := 0) R6 rfl; have r1 := hpCell (k := 1) R6 rfl; have r2 := hpCell (k := 2) R6 rfl; have f0 := hpFrozen (k := 0) R6; have f1 := hpFrozen (k := 1) R6; have f2 := hpFrozen (k := 2) R6)
        have S1 := hpSet (k := 0) (v := .slice Ak K.length ck) R6
        have S2 := hpSet (k := 1) (v := .slice Au K.length cu) S1
        have S3 := hpSet (k := 2) (v := .slice Ar A.length cr) S2
        have k0 := hpCell (k := 0) S3 rfl
        have k1 := hpCell (k := 1) S3 rfl
        have k2 := hpCell (k := 2) S3 rfl
        have P6 := kept_cell (k := 2) (u := .slice Ar A.length cr) (kept_cell (k := 1) (u := .slice Au K.length cu) (kept_cell (k := 0) (u := .slice Ak K.length ck) (ownsUnder HO1.out hb6 (Nat.le_refl _)) R6 (by decide)) S1 (by decide)) S2 (by decide)
        have U6 := kept_cell (k := 2) (u := .slice Ar A.length cr) (kept_cell (k := 1) (u := .slice Au K.length cu) (kept_cell (k := 0) (u := .slice Ak K.length ck) (ownsUnder HO2.out hb6 (Nat.le_refl _)) R6 (by decide)) S1 (by decide)) S2 (by decide)
        have V6 := kept_cell (k := 2) (u := .slice Ar A.length cr) (kept_cell (k := 1) (u := .slice Au K.length cu) (kept_cell (k := 0) (u := .slice Ak K.length ck) (ownsUnder HO3.out hb6 (Nat.le_refl _)) R6 (by decide)) S1 (by decide)) S2 (by decide)
        refine bodyPost_ret (v := .agg #[.slice Ak K.length ck, .slice Au K.length cu, .slice Ar A.length cr]) (by simp [results, Try.results7, go_sem, k0, k1, k2]) rfl ?_
        refine ⟨.inr ⟨by assumption, _, _, _, rfl, ownsDown P6 (by omega), ownsDown U6 (by omega), ownsDown V6 (by omega), HN.out⟩, ?_⟩
        repeat (refine Below.setCell ?_ (by first | (simp; done) | omega) _)
        exact HB.out.trans (hb6.mono hsz)
end Go.Proofs.Ytknbmgdfcejlkaa.W
