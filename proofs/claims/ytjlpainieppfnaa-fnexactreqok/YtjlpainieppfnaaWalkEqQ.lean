
/-
  The exact laws' own 'eqReqReq' at one request twice. (Written by genreq.py.) No condition but those named.
-/
import Derived.Test.YtjlpainieppfnaaRowQ
namespace Go.Proofs.Ytjlpainieppfnaa.W
open Go.RowKit
set_option maxRecDepth 100000 in
set_option maxHeartbeats 8000000 in
theorem eqQ_same (x : RQ) (A A' : Option Addr) (c c' : Nat) (w : World) (h1 : RdE w.heap.size w A x.edits) (h2 : RdE w.heap.size w A' x.edits) (hn : x.edits.length ≤ 1048576) :
    Calls Try.prog 13 #[.agg (x.at_ (.slice A x.edits.length c)), .agg (x.at_ (.slice A' x.edits.length c'))] w fun e w' => e = .returned (.bool true) ∧ Below w.heap.size w w' := by
  obtain ⟨w0, hw0, D, B0, hs0⟩ : ∃ w0, w.alloc (.cells (x.at_ (.slice A x.edits.length c)) 27) = w0 ∧ AtQ w0 w.heap.size x (.slice A x.edits.length c) ∧ Below w.heap.size w w0 ∧ w0.heap.size = w.heap.size + 1 := ⟨_, rfl, atQ_new w x _ _, (Below.refl _ w).alloc (Nat.le_refl _) _, by simp⟩
  obtain ⟨w1, hw1, D1, B1, hs1⟩ : ∃ w1, w0.alloc (.cells (x.at_ (.slice A' x.edits.length c')) 27) = w1 ∧ AtQ w1 w0.heap.size x (.slice A' x.edits.length c') ∧ Below w0.heap.size w0 w1 ∧ w1.heap.size = w.heap.size + 1 + 1 := ⟨_, rfl, atQ_new w0 x _ _, (Below.refl _ w0).alloc (Nat.le_refl _) _, by simp [hs0]⟩
  replace D := D.up B1
  rw [hs0] at D1
  have B := B0.trans (B1.mono B0.size)
  have r1 := (h1.below B (Nat.le_refl _)).mono B.size
  have r2 := (h2.below B (Nat.le_refl _)).mono B.size
  clear B0 B1
  simp only [RQ.at_] at hw0 hw1 ⊢
  go_enter Try.func13, Try.ntmps13
  obtain ⟨d0, d1, d2, d3, d4, d5, d6, d7, d8, d9, d10, d11, d12, d13, d14⟩ := D.all
  obtain ⟨e0, e1, e2, e3, e4, e5, e6, e7, e8, e9, e10, e11, e12, e13, e14⟩ := D1.all
  go_wp2_with (first
    | (go_at_call 30; refine (eqES_same A A' c c' x.edits _ (by first | exact r1 | exact (r1.up (Below.refl _ _).drew)) (by first | exact r2 | exact (r2.up (Below.refl _ _).drew)) (by unfold maxLen; omega)).mono ?_; rintro e w2 ⟨rfl, hb⟩; replace D := D.up hb; replace D1 := D1.up hb; replace B := B.trans (hb.mono B.size); clear hb d0 d1 d2 d3 d4 d5 d6 d7 d8 d9 d10 d11 d12 d13 d14 e0 e1 e2 e3 e4 e5 e6 e7 e8 e9 e10 e11 e12 e13 e14; obtain ⟨d0, d1, d2, d3, d4, d5, d6, d7, d8, d9, d10, d11, d12, d13, d14⟩ := D.all; obtain ⟨e0, e1, e2, e3, e4, e5, e6, e7, e8, e9, e10, e11, e12, e13, e14⟩ := D1.all)
    | (go_at_call 31; refine (eqRulRule_same _ _ _ _ _).mono ?_; rintro e w3 ⟨rfl, hb⟩; replace D := D.up hb; replace D1 := D1.up hb; replace B := B.trans (hb.mono B.size); clear hb d0 d1 d2 d3 d4 d5 d6 d7 d8 d9 d10 d11 d12 d13 d14 e0 e1 e2 e3 e4 e5 e6 e7 e8 e9 e10 e11 e12 e13 e14; obtain ⟨d0, d1, d2, d3, d4, d5, d6, d7, d8, d9, d10, d11, d12, d13, d14⟩ := D.all; obtain ⟨e0, e1, e2, e3, e4, e5, e6, e7, e8, e9, e10, e11, e12, e13, e14⟩ := D1.all))
  go_ret
  exact ⟨rfl, B⟩
end Go.Proofs.Ytjlpainieppfnaa.W
