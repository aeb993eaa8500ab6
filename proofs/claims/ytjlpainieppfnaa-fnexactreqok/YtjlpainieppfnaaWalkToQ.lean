
/-
  The exact laws' own 'toReqReq' and 'eqReqReq'. (Written by genreq.py.) No condition but those named.
-/
import Derived.Test.YtjlpainieppfnaaRowQ
namespace Go.Proofs.Ytjlpainieppfnaa.W
open Go.RowKit

/-- cells lie in a block that may be written -/
def AtC (w : World) (b : Nat) (cs : Array Value) : Prop := (∀ i u, cs[i]? = some u → w.cell? ⟨b, i, none⟩ = some u) ∧ ∀ i, w.frozen? ⟨b, i, none⟩ = false
theorem atC_new (w : World) (cs : Array Value) (t : TypeId) : AtC (w.alloc (.cells cs t)) w.heap.size cs := ⟨fun i u h => by simpa using h, fun i => by simp⟩
theorem AtC.up {w w' : World} {b : Nat} {cs : Array Value} (h : AtC w b cs) (hb : Below w.heap.size w w') (hl : b < w.heap.size) : AtC w' b cs := ⟨fun i u e => (hb.cell (p := ⟨b, _, none⟩) hl).trans (h.1 i u e), fun i => (hb.frozen (p := ⟨b, _, none⟩) hl).trans (h.2 i)⟩
theorem AtC.alloc {w : World} {b : Nat} {cs : Array Value} (h : AtC w b cs) (hl : b < w.heap.size) (o : Obj) : AtC (w.alloc o) b cs := h.up ((Below.refl _ _).alloc (Nat.le_refl _) o) hl
theorem AtC.set {w : World} {b b' i : Nat} {cs : Array Value} {u : Value} (h : AtC w b cs) (hne : b' ≠ b) : AtC (w.setCell ⟨b', i, none⟩ u) b cs := by
  have e : (w.setCell ⟨b', i, none⟩ u).heap[b]? = w.heap[b]? := Below.heap_setCell _ _ _ _ (fun e => hne e.symm)
  exact ⟨fun j u hj => (World.cell?_of_block (w := w) (a := ⟨b, j, none⟩) e).trans (h.1 j u hj), fun j => (World.frozen?_of_block (w := w) (a := ⟨b, j, none⟩) e).trans (h.2 j)⟩
theorem AtC.own {w : World} {b : Nat} {cs : Array Value} (h : AtC w b cs) (i : Nat) (u : Value) : AtC (w.setCell ⟨b, i, none⟩ u) b (cs.setIfInBounds i u) := by
  constructor
  · intro j v hj
    rw [Array.getElem?_setIfInBounds] at hj
    split at hj
    · next e =>
      subst e
      split at hj
      · next hl =>
        cases hj
        exact World.cell?_setCell_same _ _ _ (h.1 i _ (Array.getElem?_eq_getElem hl))
      · cases hj
    · next e =>
      exact (World.cell?_setCell_other _ _ _ _ (fun q => e (by cases q; rfl))).trans (h.1 j v hj)
  · intro j
    simpa using h.2 j
theorem ownsUpQ {w : World} {base base' n z : Nat} {e : TypeId} {v : Value} {xs : List Value} (h : w.ownsRow base e z v n xs) (hb : base' ≤ base) : w.ownsRow base' e z v n xs := by
  refine ⟨h.1, ?_⟩
  rcases h.2 with h1 | ⟨g, cap, cur, h1, h2, h3⟩
  · exact .inl h1
  · exact .inr ⟨g, cap, cur, h1, by omega, h3⟩
set_option maxRecDepth 100000 in
set_option maxHeartbeats 8000000 in
theorem toQ_any (x : RQ) (A : Option Addr) (c : Nat) (w : World) (hL : RdE w.heap.size w A x.edits) (hn : x.edits.length ≤ 1048576) :
    Calls Try.prog 12 #[.agg (x.at_ (.slice A x.edits.length c))] w fun e w' => (∃ v, e = .returned (.agg (x.at_ v)) ∧ w'.ownsRow w.heap.size 49 3 v x.edits.length (cellsE x.edits)) ∧ Below w.heap.size w w' := by
  simp only [RQ.at_]
  go_enter Try.func12, Try.ntmps12
  go_wp2_with (first
    | (go_at_call 28; go_loud (have B0 := (((Below.refl w.heap.size w).alloc (Nat.le_refl _) (.cells #[.int .i64 x.user, .int .i64 x.key, .int .i64 x.repo, .int .i64 x.kind, .string x.ref, .string x.path, .int .i64 x.old, .int .i64 x.back, .slice A x.edits.length c, .int .i64 x.rule.user, .string x.rule.ref, .string x.rule.path, .bool x.rule.write, .int .i64 x.from_, .string x.other] 34)).alloc (by simp) (.cells #[.int .i64 0, .int .i64 0, .int .i64 0, .int .i64 0, .string ⟨#[]⟩, .string ⟨#[]⟩, .int .i64 0, .int .i64 0, .slice none 0 0, .int .i64 0, .string ⟨#[]⟩, .string ⟨#[]⟩, .bool false, .int .i64 0, .string ⟨#[]⟩] 27)).alloc (by first | (simp; done) | (simp; omega) | omega) (.cells #[.int .i64 x.user, .int .i64 x.key, .int .i64 x.repo, .int .i64 x.kind, .string x.ref, .string x.path, .int .i64 x.old, .int .i64 x.back, .slice none 0 0, .int .i64 0, .string ⟨#[]⟩, .string ⟨#[]⟩, .bool false, .int .i64 0, .string ⟨#[]⟩] 27); refine (toES_any A c x.edits _ ((hL.below B0 (Nat.le_refl _)).mono B0.size) hn).mono ?_; rintro e w1 ⟨⟨v, rfl, ow⟩, hb⟩; obtain ⟨A1, c1, rfl, rd1⟩ := rdE_of_own ow; clear rd1; have B1 := B0.trans (hb.mono B0.size); have z1 := hb.size; simp at z1; have H0 := (((atC_new w #[.int .i64 x.user, .int .i64 x.key, .int .i64 x.repo, .int .i64 x.kind, .string x.ref, .string x.path, .int .i64 x.old, .int .i64 x.back, .slice A x.edits.length c, .int .i64 x.rule.user, .string x.rule.ref, .string x.rule.path, .bool x.rule.write, .int .i64 x.from_, .string x.other] 34).alloc (by simp) (.cells #[.int .i64 0, .int .i64 0, .int .i64 0, .int .i64 0, .string ⟨#[]⟩, .string ⟨#[]⟩, .int .i64 0, .int .i64 0, .slice none 0 0, .int .i64 0, .string ⟨#[]⟩, .string ⟨#[]⟩, .bool false, .int .i64 0, .string ⟨#[]⟩] 27)).alloc (by first | (simp; done) | (simp; omega) | omega) (.cells #[.int .i64 x.user, .int .i64 x.key, .int .i64 x.repo, .int .i64 x.kind, .string x.ref, .string x.path, .int .i64 x.old, .int .i64 x.back, .slice none 0 0, .int .i64 0, .string ⟨#[]⟩, .string ⟨#[]⟩, .bool false, .int .i64 0, .string ⟨#[]⟩] 27)).up hb (by first | (simp; done) | (simp; omega) | omega); have H1 := ((atC_new _ #[.int .i64 0, .int .i64 0, .int .i64 0, .int .i64 0, .string ⟨#[]⟩, .string ⟨#[]⟩, .int .i64 0, .int .i64 0, .slice none 0 0, .int .i64 0, .string ⟨#[]⟩, .string ⟨#[]⟩, .bool false, .int .i64 0, .string ⟨#[]⟩] 27).alloc (by simp) (.cells #[.int .i64 x.user, .int .i64 x.key, .int .i64 x.repo, .int .i64 x.kind, .string x.ref, .string x.path, .int .i64 x.old, .int .i64 x.back, .slice none 0 0, .int .i64 0, .string ⟨#[]⟩, .string ⟨#[]⟩, .bool false, .int .i64 0, .string ⟨#[]⟩] 27)).up hb (by first | (simp; done) | (simp; omega) | omega); have H2 := (atC_new _ #[.int .i64 x.user, .int .i64 x.key, .int .i64 x.repo, .int .i64 x.kind, .string x.ref, .string x.path, .int .i64 x.old, .int .i64 x.back, .slice none 0 0, .int .i64 0, .string ⟨#[]⟩, .string ⟨#[]⟩, .bool false, .int .i64 0, .string ⟨#[]⟩] 27).up hb (by simp); simp only [World.size_alloc] at H1 H2; have a9 := H0.1 9 _ rfl; have a10 := H0.1 10 _ rfl; have a11 := H0.1 11 _ rfl; have a12 := H0.1 12 _ rfl; have a13 := H0.1 13 _ rfl; have a14 := H0.1 14 _ rfl; have r0 := H1.1 0 _ rfl; have r1 := H1.1 1 _ rfl; have r2 := H1.1 2 _ rfl; have r3 := H1.1 3 _ rfl; have r4 := H1.1 4 _ rfl; have r5 := H1.1 5 _ rfl; have r6 := H1.1 6 _ rfl; have r7 := H1.1 7 _ rfl; have r8 := H1.1 8 _ rfl; have r9 := H1.1 9 _ rfl; have r10 := H1.1 10 _ rfl; have r11 := H1.1 11 _ rfl; have r12 := H1.1 12 _ rfl; have r13 := H1.1 13 _ rfl; have r14 := H1.1 14 _ rfl; have o0 := H2.1 0 _ rfl; have o1 := H2.1 1 _ rfl; have o2 := H2.1 2 _ rfl; have o3 := H2.1 3 _ rfl; have o4 := H2.1 4 _ rfl; have o5 := H2.1 5 _ rfl; have o6 := H2.1 6 _ rfl; have o7 := H2.1 7 _ rfl; have o8 := H2.1 8 _ rfl; have o9 := H2.1 9 _ rfl; have o10 := H2.1 10 _ rfl; have o11 := H2.1 11 _ rfl; have o12 := H2.1 12 _ rfl; have o13 := H2.1 13 _ rfl; have o14 := H2.1 14 _ rfl; have s0 := H1.2 0; have s1 := H1.2 1; have s2 := H1.2 2; have s3 := H1.2 3; have s4 := H1.2 4; have s5 := H1.2 5; have s6 := H1.2 6; have s7 := H1.2 7; have s8 := H1.2 8; have s9 := H1.2 9; have s10 := H1.2 10; have s11 := H1.2 11; have s12 := H1.2 12; have s13 := H1.2 13; have s14 := H1.2 14; have p8 := H2.2 8; have p9 := H2.2 9; have p10 := H2.2 10; have p11 := H2.2 11; have p12 := H2.2 12; have p13 := H2.2 13; have p14 := H2.2 14; clear hb B0))
    | (go_at_call 29; go_loud (refine (toRulRule_any _ _ _ _ _).mono ?_; rintro e w2 ⟨rfl, hb2⟩; clear a9 a10 a11 a12 a13 a14 r0 r1 r2 r3 r4 r5 r6 r7 r8 r9 r10 r11 r12 r13 r14 o0 o1 o2 o3 o4 o5 o6 o7 o8 o9 o10 o11 o12 o13 o14 s0 s1 s2 s3 s4 s5 s6 s7 s8 s9 s10 s11 s12 s13 s14 p8 p9 p10 p11 p12 p13 p14; replace ow := ownsUnder (ownsRow_setCell_below ow (a := ⟨w.heap.size + 1 + 1, 8, none⟩) (by simp) (.slice A1 x.edits.length c1)) hb2 (Nat.le_refl _); replace B1 := (B1.setCell (p := ⟨w.heap.size + 1 + 1, 8, none⟩) (show w.heap.size ≤ w.heap.size + 1 + 1 by omega) (.slice A1 x.edits.length c1)).trans (hb2.mono (by first | (simp; done) | (simp; omega) | omega)); replace H0 := (H0.set (b' := w.heap.size + 1 + 1) (i := 8) (u := .slice A1 x.edits.length c1) (by omega)).up hb2 (by first | (simp; done) | (simp; omega) | omega); replace H1 := (H1.set (b' := w.heap.size + 1 + 1) (i := 8) (u := .slice A1 x.edits.length c1) (by omega)).up hb2 (by first | (simp; done) | (simp; omega) | omega); replace H2 := (H2.own 8 (.slice A1 x.edits.length c1)).up hb2 (by first | (simp; done) | (simp; omega) | omega); have a13 := H0.1 13 _ rfl; have a14 := H0.1 14 _ rfl; have r0 := H1.1 0 _ rfl; have r1 := H1.1 1 _ rfl; have r2 := H1.1 2 _ rfl; have r3 := H1.1 3 _ rfl; have r4 := H1.1 4 _ rfl; have r5 := H1.1 5 _ rfl; have r6 := H1.1 6 _ rfl; have r7 := H1.1 7 _ rfl; have r8 := H1.1 8 _ rfl; have r9 := H1.1 9 _ rfl; have r10 := H1.1 10 _ rfl; have r11 := H1.1 11 _ rfl; have r12 := H1.1 12 _ rfl; have r13 := H1.1 13 _ rfl; have r14 := H1.1 14 _ rfl; have o0 := H2.1 0 _ rfl; have o1 := H2.1 1 _ rfl; have o2 := H2.1 2 _ rfl; have o3 := H2.1 3 _ rfl; have o4 := H2.1 4 _ rfl; have o5 := H2.1 5 _ rfl; have o6 := H2.1 6 _ rfl; have o7 := H2.1 7 _ rfl; have o8 := H2.1 8 _ rfl; have o9 := H2.1 9 _ rfl; have o10 := H2.1 10 _ rfl; have o11 := H2.1 11 _ rfl; have o12 := H2.1 12 _ rfl; have o13 := H2.1 13 _ rfl; have o14 := H2.1 14 _ rfl; have s0 := H1.2 0; have s1 := H1.2 1; have s2 := H1.2 2; have s3 := H1.2 3; have s4 := H1.2 4; have s5 := H1.2 5; have s6 := H1.2 6; have s7 := H1.2 7; have s8 := H1.2 8; have s9 := H1.2 9; have s10 := H1.2 10; have s11 := H1.2 11; have s12 := H1.2 12; have s13 := H1.2 13; have s14 := H1.2 14; have p8 := H2.2 8; have p9 := H2.2 9; have p10 := H2.2 10; have p11 := H2.2 11; have p12 := H2.2 12; have p13 := H2.2 13; have p14 := H2.2 14; clear hb2)))
  simp only [World.size_alloc] at ow
  refine bodyPost_ret (v := .agg (x.at_ (.slice A1 x.edits.length c1))) (by simp [RQ.at_, results, Try.results12, go_sem, r0, r1, r2, r3, r4, r5, r6, r7, r8, r9, r10, r11, r12, r13, r14]) rfl ?_
  refine ⟨⟨.slice A1 x.edits.length c1, rfl, ?_⟩, ?_⟩
  · refine ownsUpQ (base := w.heap.size + 1 + 1 + 1) ?_ (by omega)
    repeat (refine ownsRow_setCell_below ?_ (by first | (simp; done) | (simp; omega)) _)
    exact ow
  · repeat (refine Below.setCell ?_ (by first | (simp; done) | (simp; omega) | omega) _)
    exact B1
end Go.Proofs.Ytjlpainieppfnaa.W
