/-
  DrawTreUnder of the specification: few files, a short text.
  laws.chFiles of any two rows of files: whether they are the same. At most 1048576 files.
-/
import Derived.Test.YthfffpdkmoclbaaGreatDoorMg20
import Derived.Test.YthfffpdkmoclbaaGreatDoorMg49
import Derived.Test.YthfffpdkmoclbaaGreatDoorMg16
import Derived.Laws.StructEq
namespace Go.Proofs.YthfffpdkmoclbaaGreatDoor.W
open Go.RowKit Go.Proofs.YthfffpdkmoclbaaGreatDoor.M
set_option linter.unusedVariables false

set_option maxHeartbeats 4000000 in
set_option maxRecDepth 100000 in
theorem drawTreDiffers_any (w : World) (a : Option Addr) (len cap : Nat) (zs : Nat → Int) (h : Src w a len cap zs) :
    Calls Tryz.prog 38 #[.slice a len cap] w fun e w' => (∃ (v u : Value) (L K : List TF), e = .returned (.tuple #[v, u]) ∧ L.length ≤ 61 ∧ shortF L ∧ K.length ≤ 61 ∧ shortF K ∧ w'.ownsRow w.heap.size 98 2 v L.length (cellsF L) ∧ w'.ownsRow w.heap.size 98 2 u K.length (cellsF K)) ∧ Below w.heap.size w w' := by
  have t1 : True := trivial
  go_enter Tryz.func38, Tryz.ntmps38
  go_wp2_with (first
    | (go_at_call 47; refine (open_any _ a len cap zs h).mono ?_; rintro e w1 ⟨a', len', cap', rfl, hR1, hl1, hg1⟩)
    | (go_at_call 65; have _t := t1; refine (anyFiles_any w1 w.heap.size 0 16 a' len' cap' zs hR1 (by omega) hl1 (by omega) (by omega)).mono ?_; rintro e w2 ⟨⟨v, L, rfl, hL, hS, O2⟩, g2, p2, hp2, R2⟩; have z2 := g2.size; have HS : Hid (shortF L) := hS; clear hS _t t1)
    | (go_at_call 73; refine (edits_any w2 w.heap.size p2 a' len' cap' zs R2 (by omega) (by omega)).mono ?_; rintro e w3 ⟨⟨u, E, rfl, hE1, hE4, hSE, Q3⟩, g3, p3, hp3, R3⟩; have z3 := g3.size; have HSE : Hid (short E) := hSE; have O3 := O2.kept g3 (ownNot O2 (by omega)); have G3 := gtrans g2 g3; obtain ⟨A2, c2, rfl, E3⟩ := rdE_of_own Q3; clear hSE O2 g2 g3 R2)
    | (go_at_call 72; refine (treTurn_spec v L A2 c2 E w3 O3 E3 (by omega) (by omega) (sizesF HS.out) (sizesE HSE.out)).mono ?_; rintro e w4 ⟨v4, rfl, o4, hb4⟩; have z4 := hb4.size; have R4 := rdBelF R3 hb4 (by omega); have O4 := ownsUnder O3 hb4 (Nat.le_refl _); have G4 : w1.grownBy w4 (some w.heap.size) := gtrans G3 (gBelow hb4); obtain ⟨r, hr⟩ : ∃ r, (turnT L E).isSome = r := ⟨_, rfl⟩; have HRR : Hid ((turnT L E).isSome = r) := hr; rw [hr]; clear hr O3 R3 G3 hb4; cases r))
  · go_wp2_with (first
      | (go_at_call 65; refine (anyFiles_any w4 w.heap.size p3 16 a' len' cap' zs R4 (by omega) (by omega) (by omega) (by omega)).mono ?_; rintro e w5 ⟨⟨u, K, rfl, hK, hSK, O5⟩, g5, p5, hp5, R5⟩; have z5 := g5.size; have HSK : Hid (shortF K) := hSK; have O6 := O4.kept g5 (ownNot O4 (by omega)); have G5 := gtrans G4 g5; clear hSK O4 G4 g5))
    go_ret2
    have HBB : Below w.heap.size w w5 := ((Below.refl _ _).grown hg1 (Nat.le_refl _) (fun k e => by cases e)).grown G5 (by omega) (fun k e => by cases e; exact Nat.le_refl _)
    exact ⟨⟨_, _, L, K, rfl, hL, HS.out, hK, HSK.out, ownsUpF O6 (by omega), ownsUpF O5 (by omega)⟩, HBB⟩
  · go_ret2
    obtain ⟨K, hK⟩ := Option.isSome_iff_exists.1 HRR.out
    have e1 : turnL L E = K := by unfold turnL; rw [hK]; rfl
    rw [e1] at o4
    have HBB : Below w.heap.size w w4 := ((Below.refl _ _).grown hg1 (Nat.le_refl _) (fun k e => by cases e)).grown G4 (by omega) (fun k e => by cases e; exact Nat.le_refl _)
    have hm := turnT_mem L K E hK
    exact ⟨⟨_, _, L, K, rfl, hL, HS.out, Nat.le_trans (okT_rise K hm.1).2 (by omega), fun y hy => by
      rcases hm.2.2.2 y hy with hy | ⟨e, he, rfl⟩
      · exact HS.out y hy
      · exact HSE.out e he, ownsUpF O4 (by omega), ownsUpF o4 (by omega)⟩, HBB⟩
end Go.Proofs.YthfffpdkmoclbaaGreatDoor.W
namespace Go.Proofs.YthfffpdkmoclbaaGreatDoor.W
open Go.RowKit Go.Proofs.YthfffpdkmoclbaaGreatDoor.M
set_option linter.unusedVariables false
def eqTF (x y : TF) : Bool := (x.pa.toList == y.pa.toList) && (x.by_.toList == y.by_.toList)
theorem eqTF_iff (x y : TF) : eqTF x y = true ↔ x = y := by
  obtain ⟨a, b⟩ := x
  obtain ⟨c, d⟩ := y
  unfold eqTF
  simp only [Bool.and_eq_true, beq_iff_eq, Lib.toList_data, TF.mk.injEq]
  exact ⟨fun h => ⟨pa_eqB h.1, pa_eqB h.2⟩, fun h => by rw [h.1, h.2]; exact ⟨rfl, rfl⟩⟩
theorem run_eqTF (w : World) (x y : TF) : (binOp .eql 98 (.agg #[.string x.pa, .string x.by_]) (.agg #[.string y.pa, .string y.by_])).run Tryz.prog w = .ok (.bool (eqTF x y)) w := by
  have u2 := Tryz.underlying9
  have a2 := Tryz.isAgg9
  have z2 := Tryz.sizeOf9
  have hS : Tryz.prog.underlying 98 = some (.struct (Tryz.prog.fieldsOf 98)) := by kernel_rfl
  have hp : Tryz.prog.stoodInHeld 98 = false := by kernel_rfl
  rw [run_eql_struct, show (10000 : Nat) = 9999 + 1 from rfl, run_equalIn_agg w 9999 98 _ _ hS hp]
  simp only [Program.fieldsOf, Tryz.underlying98]
  go_simp
  unfold eqTF
  cases h2 : (x.pa.toList == y.pa.toList) <;> cases h3 : (x.by_.toList == y.by_.toList) <;> simp_all
theorem run_neTF (w : World) (x y : TF) : (binOp .neq 98 (.agg #[.string x.pa, .string x.by_]) (.agg #[.string y.pa, .string y.by_])).run Tryz.prog w = .ok (.bool (!eqTF x y)) w := by
  have h := run_eqTF w x y
  rw [run_eql_struct] at h
  rw [run_neq_struct]
  revert h
  generalize (Op.equalIn 10000 98 (.agg #[.string x.pa, .string x.by_]) (.agg #[.string y.pa, .string y.by_])).run Tryz.prog w = r
  intro h
  cases r with
  | ok b w' => simp at h ⊢; exact ⟨by rw [h.1], h.2⟩
  | halt x w' => simp [Result.andThen] at h
theorem guardTF : Tryz.prog.eqGuardType Tryz.prog.depth 98 = false := by kernel_rfl
set_option maxHeartbeats 4000000 in
set_option maxRecDepth 100000 in
theorem chFiles_two (A B : Option Addr) (c d : Nat) (L K : List TF) (w : World) (hA : RdF w.heap.size w A L) (hB : RdF w.heap.size w B K) (hn : L.length ≤ 1048576) (hk : K.length ≤ 1048576) :
    Calls Tryz.prog 37 #[.slice A L.length c, .slice B K.length d] w fun e w' => (∃ r : Bool, e = .returned (.bool r) ∧ (r = true ↔ L = K)) ∧ Below w.heap.size w w' := by
  by_cases hl : L.length = K.length
  case neg =>
    have hl' : ¬ ((L.length : Nat) : Int) = ((K.length : Nat) : Int) := by omega
    clear hA hB
    go_enter Tryz.func37, Tryz.ntmps37
    go_wp2
    go_ret
    exact ⟨⟨false, rfl, ⟨(fun h => by cases h), fun h => absurd (congrArg List.length h) hl⟩⟩, Below.refl _ _⟩
  have HL : Hid (L.length = K.length) := hl
  have HA : Hid (RdF w.heap.size w A L) := hA
  have HB : Hid (RdF w.heap.size w B K) := hB
  rw [← hl]
  clear hA hB hl
  go_enter Tryz.func37, Tryz.ntmps37
  go_wp2
  go_loopw [5] (fun iv wr => ∃ j : Nat, j ≤ L.length ∧ iv = .int .i64 j ∧ Hid (L.take j = K.take j) ∧ Below w.heap.size w wr) (fun i _ => L.length - (intOf i).toNat)
  case atStart => exact ⟨0, Nat.zero_le _, rfl, (show _ = _ from by simp), Below.refl _ _⟩
  case round =>
    obtain ⟨j, hj, rfl, HT, hb⟩ := hrel
    have hsz := hb.size
    by_cases hlt : j < L.length
    · have hlk : j < K.length := by rw [← HL.out]; exact hlt
      obtain ⟨b, o, rfl, hbl, c1, c2⟩ := (HA.out.below hb (Nat.le_refl _)) j hlt
      obtain ⟨b', o', rfl, hbl', d1, d2⟩ := (HB.out.below hb (Nat.le_refl _)) j hlk
      have HS : Hid (L[j] = K[j] → L.take (j + 1) = K.take (j + 1)) := (show _ → _ from fun e => by rw [List.take_succ_eq_append_getElem hlt, List.take_succ_eq_append_getElem hlk, HT.out, e])
      have HN : Hid (L = K → L[j] = K[j]) := (show _ → _ from fun e => by subst e; rfl)
      obtain ⟨⟨q, t⟩, hx⟩ : ∃ x, L[j] = x := ⟨_, rfl⟩
      obtain ⟨⟨q', t'⟩, hy⟩ : ∃ y, K[j] = y := ⟨_, rfl⟩
      rw [hx] at c1 c2 HS HN
      rw [hy] at d1 d2 HS HN
      simp only at c1 c2 d1 d2
      have x1 : ∀ x : Ext wr, x.world.cell? ⟨b, o + j * 2, none⟩ = some (.string q) := fun x => x.cell c1
      have x2 : ∀ x : Ext wr, x.world.cell? ⟨b, o + j * 2 + 1, none⟩ = some (.string t) := fun x => x.cell c2
      have x3 : ∀ x : Ext wr, x.world.cell? ⟨b', o' + j * 2, none⟩ = some (.string q') := fun x => x.cell d1
      have x4 : ∀ x : Ext wr, x.world.cell? ⟨b', o' + j * 2 + 1, none⟩ = some (.string t') := fun x => x.cell d2
      have hne : Nonempty (Ext wr) := ⟨⟨wr, Below.refl _ _⟩⟩
      have hrun := fun w : World => run_neTF w ⟨q, t⟩ ⟨q', t'⟩
      simp only at hrun
      have gTF := guardTF
      have hiff := eqTF_iff ⟨q, t⟩ ⟨q', t'⟩
      obtain ⟨z, hz⟩ : ∃ z, eqTF ⟨q, t⟩ ⟨q', t'⟩ = z := ⟨_, rfl⟩
      rw [hz] at hrun hiff
      have HF : Hid (z = true ↔ (⟨q, t⟩ : TF) = ⟨q', t'⟩) := hiff
      clear hx hy hiff hz
      go_wp2
      refine region_ext (by kernel_rfl) (by kernel_rfl) ?_
      repeat (go_big_quiet_step (fail))
      refine wpQuiet_nil ?_
      rintro _ ⟨x, rfl⟩
      have hbx := x.below
      cases z
      · go_wp2
        go_ret
        refine ⟨⟨false, rfl, ⟨(fun h => by cases h), fun h => ?_⟩⟩, hb.trans (hbx.mono (by omega))⟩
        exact HF.out.2 (HN.out h)
      · have h1 := HS.out (HF.out.1 rfl)
        have HT2 : Hid (L.take (j + 1) = K.take (j + 1)) := h1
        clear h1
        go_wp2
        go_roundw
        case rel => exact ⟨j + 1, by omega, by go_num, HT2, hb.trans (hbx.mono (by omega))⟩
        case measure => simp [intOf]; omega
    · go_wp2
      go_ret
      obtain rfl : j = L.length := by omega
      have h1 := HT.out
      rw [List.take_length, HL.out, List.take_length] at h1
      exact ⟨⟨true, rfl, ⟨fun _ => h1, fun _ => rfl⟩⟩, hb⟩
end Go.Proofs.YthfffpdkmoclbaaGreatDoor.W
