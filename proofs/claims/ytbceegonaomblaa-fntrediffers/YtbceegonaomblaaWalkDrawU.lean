
/-
  DrawTreUnder of the specification: few files, a short text.
-/
import Derived.Test.YtbceegonaomblaaWalkDrawF
namespace Go.Proofs.Ytbceegonaomblaa.W
open Go.RowKit Go.Proofs.Ytbceegonaomblaa.M
set_option linter.unusedVariables false

set_option maxHeartbeats 4000000 in
set_option maxRecDepth 100000 in
theorem drawTreUnder_any (w : World) (a : Option Addr) (len cap : Nat) (zs : Nat → Int) (h : Src w a len cap zs) :
    Calls Try.prog 5 #[.slice a len cap] w fun e w' => (∃ (v : Value) (L : List TF) (p : ByteArray), e = .returned (.tuple #[v, .string p]) ∧ L.length ≤ 61 ∧ shortF L ∧ p.size ≤ 64 ∧ w'.ownsRow w.heap.size 51 2 v L.length (cellsF L)) ∧ Below w.heap.size w w' := by
  go_enter Try.func5, Try.ntmps5
  go_wp2_with (first
    | (go_at_call 22; refine (open_any _ a len cap zs h).mono ?_; rintro e w1 ⟨a', len', cap', rfl, hR1, hl1, hg1⟩)
    | (go_at_call 23; refine (anyFiles_any w1 w.heap.size 0 12 a' len' cap' zs hR1 (by omega) hl1 (by omega) (by omega)).mono ?_; rintro e w2 ⟨⟨v, L, rfl, hL, hS, O2⟩, g2, p2, hp2, R2⟩; have z2 := g2.size; have HS : Hid (shortF L) := hS; clear hS)
    | (go_at_call 24; refine (anyPath_any w2 w.heap.size p2 9 a' len' cap' zs R2 (by omega) (by omega) (by omega) (by omega)).mono ?_; rintro e w3 ⟨s, p3, rfl, hs, hp3, R3, g3⟩; have z3 := g3.size; have O3 := O2.kept g3 (ownNot O2 (by omega)); have G3 := gtrans g2 g3; clear O2 g2 g3 R2))
  go_ret2
  have HBB : Below w.heap.size w w3 := ((Below.refl _ _).grown hg1 (Nat.le_refl _) (fun k e => by cases e)).grown G3 (by omega) (fun k e => by cases e; exact Nat.le_refl _)
  exact ⟨⟨_, L, s, rfl, hL, HS.out, hs, ownsUpF O3 (by omega)⟩, HBB⟩
set_option maxHeartbeats 4000000 in
set_option maxRecDepth 100000 in
theorem drawTreDiffers_any (w : World) (a : Option Addr) (len cap : Nat) (zs : Nat → Int) (h : Src w a len cap zs) :
    Calls Try.prog 18 #[.slice a len cap] w fun e w' => (∃ (v u : Value) (L K : List TF), e = .returned (.tuple #[v, u]) ∧ L.length ≤ 61 ∧ shortF L ∧ K.length ≤ 61 ∧ shortF K ∧ w'.ownsRow w.heap.size 51 2 v L.length (cellsF L) ∧ w'.ownsRow w.heap.size 51 2 u K.length (cellsF K)) ∧ Below w.heap.size w w' := by
  have t1 : True := trivial
  go_enter Try.func18, Try.ntmps18
  go_wp2_with (first
    | (go_at_call 22; refine (open_any _ a len cap zs h).mono ?_; rintro e w1 ⟨a', len', cap', rfl, hR1, hl1, hg1⟩)
    | (go_at_call 23; have _t := t1; refine (anyFiles_any w1 w.heap.size 0 16 a' len' cap' zs hR1 (by omega) hl1 (by omega) (by omega)).mono ?_; rintro e w2 ⟨⟨v, L, rfl, hL, hS, O2⟩, g2, p2, hp2, R2⟩; have z2 := g2.size; have HS : Hid (shortF L) := hS; clear hS _t t1)
    | (go_at_call 37; refine (edits_any w2 w.heap.size p2 a' len' cap' zs R2 (by omega) (by omega)).mono ?_; rintro e w3 ⟨⟨u, E, rfl, hE1, hE4, hSE, Q3⟩, g3, p3, hp3, R3⟩; have z3 := g3.size; have HSE : Hid (short E) := hSE; have O3 := O2.kept g3 (ownNot O2 (by omega)); have G3 := gtrans g2 g3; obtain ⟨A2, c2, rfl, E3⟩ := rdE_of_own Q3; clear hSE O2 g2 g3 R2)
    | (go_at_call 36; refine (treTurn_spec v L A2 c2 E w3 O3 E3 (by omega) (by omega) (sizesF HS.out) (sizesE HSE.out)).mono ?_; rintro e w4 ⟨v4, rfl, o4, hb4⟩; have z4 := hb4.size; have R4 := rdBelow R3 hb4 (by omega); have O4 := ownsUnder O3 hb4 (Nat.le_refl _); have G4 : w1.grownBy w4 (some w.heap.size) := gtrans G3 (gBelow hb4); obtain ⟨r, hr⟩ : ∃ r, (turnT L E).isSome = r := ⟨_, rfl⟩; have HRR : Hid ((turnT L E).isSome = r) := hr; rw [hr]; clear hr O3 R3 G3 hb4; cases r))
  · go_wp2_with (first
      | (go_at_call 23; refine (anyFiles_any w4 w.heap.size p3 16 a' len' cap' zs R4 (by omega) (by omega) (by omega) (by omega)).mono ?_; rintro e w5 ⟨⟨u, K, rfl, hK, hSK, O5⟩, g5, p5, hp5, R5⟩; have z5 := g5.size; have HSK : Hid (shortF K) := hSK; have O6 := O4.kept g5 (ownNot O4 (by omega)); have G5 := gtrans G4 g5; clear hSK O4 G4 g5))
    go_ret2
    have HBB : Below w.heap.size w w5 := ((Below.refl _ _).grown hg1 (Nat.le_refl _) (fun k e => by cases e)).grown G5 (by omega) (fun k e => by cases e; exact Nat.le_refl _)
    exact ⟨⟨_, _, L, K, rfl, hL, HS.out, hK, HSK.out, ownsUpF O6 (by omega), ownsUpF O5 (by omega)⟩, HBB⟩
  · go_ret2
    obtain ⟨K, hK⟩ := Option.isSome_iff_exists.1 HRR.out
    have e1 : turnL L E = K := by unfold turnL; rw [hK]; rfl
    rw [e1] at o4
    have HBB : Below w.heap.size w w4 := ((Below.refl _ _).grown hg1 (Nat.le_refl _) (fun k e => by cases e)).grown G4 (by omega) (fun k e => by cases e; exact Nat.le_refl _)
    have hm := turnT_mem L K E hK
    exact ⟨⟨_, _, L, K, rfl, hL, HS.out, Nat.le_trans (okT_rise K hm.1).2 (by omega), fun y hy => by
      rcases hm.2.2.2 y hy with hy | ⟨e, he, rfl⟩
      · exact HS.out y hy
      · exact HSE.out e he, ownsUpF O4 (by omega), ownsUpF o4 (by omega)⟩, HBB⟩
end Go.Proofs.Ytbceegonaomblaa.W
