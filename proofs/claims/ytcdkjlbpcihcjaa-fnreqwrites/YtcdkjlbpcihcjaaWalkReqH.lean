
/-
  The draw of a request as a law calls it: what it is, and what it leaves. (Written by genreqh.py.) No condition but that the code is readable.
-/
import Derived.Test.YtcdkjlbpcihcjaaWalkReqE
namespace Go.Proofs.Ytcdkjlbpcihcjaa.W
open Go.RowKit Go.Proofs.Ytcdkjlbpcihcjaa.M
set_option linter.unusedVariables false
set_option linter.unusedSimpArgs false

theorem hidOf {p : Prop} (h : p) : Hid p := h
theorem szE_short (L : List TE) (h : short L) : szE L ≤ 128 * L.length := by
  induction L with
  | nil => simp [szE]
  | cons x L ih =>
    have h1 := h x (by simp)
    have h2 := ih (fun y hy => h y (by simp [hy]))
    have e : szE (x :: L) = x.pa.size + x.by_.size + szE L := by simp [szE]
    rw [e, List.length_cons]
    omega
theorem szQ_small (x : RQ) (h : smallQ x) (hs : short x.edits) (hn : x.edits.length ≤ 7) : szQ x ≤ 1048576 := by
  obtain ⟨h1, h2, h3, h4, h5⟩ := h
  have := szE_short x.edits hs
  unfold szQ
  omega

set_option maxRecDepth 100000 in
set_option maxHeartbeats 4000000 in
theorem drawReqWrites_any (w : World) (a : Option Addr) (len cap : Nat) (zs : Nat → Int) (h : W.Src w a len cap zs) :
    Calls Try.prog 4 #[.slice a len cap] w fun e w' => ∃ (x : RQ) (A : Option Addr) (c : Nat), e = .returned (.agg (x.at_ (.slice A x.edits.length c))) ∧ RdE w'.heap.size w' A x.edits ∧ szQ x ≤ 1048576 ∧ Below w.heap.size w w' := by
  have BA := (Below.refl w.heap.size w).alloc (Nat.le_refl _) (.cells #[.int .i64 0, .int .i64 0, .int .i64 0, .int .i64 0, .string ⟨#[]⟩, .string ⟨#[]⟩, .int .i64 0, .int .i64 0, .slice none 0 0, .int .i64 0, .string ⟨#[]⟩, .string ⟨#[]⟩, .bool false, .int .i64 0, .string ⟨#[]⟩] 27)
  have bA : (w.alloc (.cells #[.int .i64 0, .int .i64 0, .int .i64 0, .int .i64 0, .string ⟨#[]⟩, .string ⟨#[]⟩, .int .i64 0, .int .i64 0, .slice none 0 0, .int .i64 0, .string ⟨#[]⟩, .string ⟨#[]⟩, .bool false, .int .i64 0, .string ⟨#[]⟩] 27)).heap[w.heap.size]? = some (.cells #[.int .i64 0, .int .i64 0, .int .i64 0, .int .i64 0, .string ⟨#[]⟩, .string ⟨#[]⟩, .int .i64 0, .int .i64 0, .slice none 0 0, .int .i64 0, .string ⟨#[]⟩, .string ⟨#[]⟩, .bool false, .int .i64 0, .string ⟨#[]⟩] 27 (0, 0)) := bkNew _ _
  have hA : (w.alloc (.cells #[.int .i64 0, .int .i64 0, .int .i64 0, .int .i64 0, .string ⟨#[]⟩, .string ⟨#[]⟩, .int .i64 0, .int .i64 0, .slice none 0 0, .int .i64 0, .string ⟨#[]⟩, .string ⟨#[]⟩, .bool false, .int .i64 0, .string ⟨#[]⟩] 27)).heap.size > w.heap.size := by simp
  have HS := h.below BA
  clear h
  go_enter Try.func4, Try.ntmps4
  go_upto_region 1 with fail
  generalize hw : w.alloc (.cells #[.int .i64 0, .int .i64 0, .int .i64 0, .int .i64 0, .string ⟨#[]⟩, .string ⟨#[]⟩, .int .i64 0, .int .i64 0, .slice none 0 0, .int .i64 0, .string ⟨#[]⟩, .string ⟨#[]⟩, .bool false, .int .i64 0, .string ⟨#[]⟩] 27) = wA at *
  clear hw
  have HH : Hid (W.Src wA a len cap zs) := HS
  have HB : Hid (Below w.heap.size w wA) := BA
  have hb : Hid (wA.heap[w.heap.size]? = some (.cells #[.int .i64 0, .int .i64 0, .int .i64 0, .int .i64 0, .string ⟨#[]⟩, .string ⟨#[]⟩, .int .i64 0, .int .i64 0, .slice none 0 0, .int .i64 0, .string ⟨#[]⟩, .string ⟨#[]⟩, .bool false, .int .i64 0, .string ⟨#[]⟩] 27 (0, 0))) := bA
  clear HS BA bA
  go_upto_region 2 with (go_at_call 9; refine (open_any wA a len cap zs HH.out).mono ?_; rintro e w1 ⟨a', len', cap', rfl, hR1, hl1, hg1⟩)
  have b1 := hidOf <| (hg1.block w.heap.size (by omega) (by simp)).trans hb.out
  have B1 : Hid (Below w.heap.size w w1) := HB.out.grown hg1 HB.out.size (fun _ e => by cases e)
  have hz1 := hg1.size
  clear hb HB HH hg1
  have HR : Hid (Rd w1 wA.heap.size 0 a' len' cap' zs) := hR1
  clear hR1
  go_wp2_with (go_at_call 10; refine (anyReq_any w1 wA.heap.size 0 4 (by decide) (by decide) a' len' cap' zs HR.out (by omega) hl1).mono ?_; rintro e w2 ⟨x, E, q, rfl, hq, hR, hG, hO, hn, hs, hm⟩; obtain ⟨A, c, rfl, _⟩ := rdE_of_own hO; simp only [RQ.at_]; have b2 := bkKept b1.out hG (by omega); obtain ⟨gR, gG⟩ := out15b (.int .i64 x.user) (.int .i64 x.key) (.int .i64 x.repo) (.int .i64 x.kind) (.string x.ref) (.string x.path) (.int .i64 x.old) (.int .i64 x.back) (.slice A x.edits.length c) (.int .i64 x.rule.user) (.string x.rule.ref) (.string x.rule.path) (.bool x.rule.write) (.int .i64 x.from_) (.string x.other) b2; obtain ⟨⟨z0, g0⟩, ⟨z1, g1⟩, ⟨z2, g2⟩, ⟨z3, g3⟩, ⟨z4, g4⟩, ⟨z5, g5⟩, ⟨z6, g6⟩, ⟨z7, g7⟩, ⟨z8, g8⟩, ⟨z9, g9⟩, ⟨z10, g10⟩, ⟨z11, g11⟩, ⟨z12, g12⟩, ⟨z13, g13⟩, ⟨z14, g14⟩⟩ := blank15 b2; have hR' := hidOf gR; have hG' := hidOf gG; have hO' := hidOf hO; have hG2 := hidOf hG; have hs' := hidOf hs; clear gR gG hO hG hs hR b2)
  have gR := hR'.out
  have gG := hG'.out
  clear hR' hG'
  revert gR gG
  generalize (((((((((((((((w2.setCell _ _).setCell _ _).setCell _ _).setCell _ _).setCell _ _).setCell _ _).setCell _ _).setCell _ _).setCell _ _).setCell _ _).setCell _ _).setCell _ _).setCell _ _).setCell _ _).setCell _ _) = wE
  intro gR gG
  have r0 := bkCell (k := 0) gR rfl; have r1 := bkCell (k := 1) gR rfl; have r2 := bkCell (k := 2) gR rfl; have r3 := bkCell (k := 3) gR rfl; have r4 := bkCell (k := 4) gR rfl; have r5 := bkCell (k := 5) gR rfl; have r6 := bkCell (k := 6) gR rfl; have r7 := bkCell (k := 7) gR rfl; have r8 := bkCell (k := 8) gR rfl; have r9 := bkCell (k := 9) gR rfl; have r10 := bkCell (k := 10) gR rfl; have r11 := bkCell (k := 11) gR rfl; have r12 := bkCell (k := 12) gR rfl; have r13 := bkCell (k := 13) gR rfl; have r14 := bkCell (k := 14) gR rfl
  refine bodyPost_ret (v := .agg (x.at_ (.slice A x.edits.length c))) (by simp [results, Try.results4, go_sem, RQ.at_, r0, r1, r2, r3, r4, r5, r6, r7, r8, r9, r10, r11, r12, r13, r14]) rfl ?_
  have hO2 := hO'.out.kept gG (.inr (fun e => by have := (hO'.out.lt _ e).1; omega))
  obtain ⟨A', c', e', hRd⟩ := rdE_of_own hO2
  injection e' with e1 e2 e3
  subst e1 e3
  have B2 := B1.out.grown hG2.out B1.out.size (fun j e => by cases e; omega)
  exact ⟨x, _, _, rfl, hRd, szQ_small x hm hs'.out hn, B2.grown gG B2.size (fun j e => by cases e; exact Nat.le_refl _)⟩
end Go.Proofs.Ytcdkjlbpcihcjaa.W
