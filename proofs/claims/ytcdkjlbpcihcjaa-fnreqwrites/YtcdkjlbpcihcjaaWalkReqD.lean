
/-
  A drawn request, whole. (Written by genreqw.py.) No condition but that the reader is open.
-/
import Derived.Test.YtcdkjlbpcihcjaaReqBlk
import Derived.Test.YtcdkjlbpcihcjaaSlotQA
import Derived.Test.YtcdkjlbpcihcjaaWalkReqW
import Derived.Deep.DeepCutAuto
import Derived.Deep.Cut
import Derived.Deep.CutBlock
namespace Go.Proofs.Ytcdkjlbpcihcjaa.W
open Go.RowKit Go.Proofs.Ytcdkjlbpcihcjaa.M
set_option linter.unusedVariables false
set_option linter.unusedSimpArgs false

set_option maxRecDepth 100000 in
set_option maxHeartbeats 4000000 in
theorem req_any (w : World) (rb p : Nat) (ad : Option Addr) (len cap : Nat) (zs : Nat → Int) (h : Rd w rb p ad len cap zs) (hp : p ≤ 100000) (hlt : rb < w.heap.size) :
    Calls Try.prog 21 #[.pointer (some ⟨rb, 0, none⟩), .agg #[.slice none 0 0, .slice none 0 0, .slice none 0 0]] w (DrewQ w rb p 6 200 ad len cap zs) := by
  go_enter Try.func21, Try.ntmps21
  go_wp2
  rename_i K hK
  refine frontQA (p := p) (ad := ad) (len := len) (cap := cap) (zs := zs) (by kernel_rfl) rfl rfl rfl ((h.alloc hlt _).alloc (by simp; omega) _) (by omega) (by simp; omega) ?_
  intro y w2 q k u r d s hu1 hu2 hr1 hr2 hd1 hd2 hs hq hRd hg hk1 hk2 hbk
  refine hK _ _ ?_
  clear hK K
  obtain ⟨x, hx⟩ : ∃ x : RQ, x = ⟨u, 0, r, d, s, ⟨#[]⟩, 0, 0, [], ⟨0, ⟨#[]⟩, ⟨#[]⟩, false⟩, 0, ⟨#[]⟩⟩ := ⟨_, rfl⟩
  have HB : S21 w rb k 4 ad len cap zs w2 x (.slice none 0 0) q := by
    subst hx
    have hsz := hg.size
    refine ⟨hRd, gtrans (gtrans (galloc _ _) (galloc _ _)) hg, hlt, by simpa using hk1, hbk, bkKept (bkOld (bkNew _ _)) hg (by omega), bkKept (by simpa using bkNew (w.alloc _) _) hg (by omega), ⟨rfl, .inl ⟨rfl, rfl⟩⟩, by simp, fun x hx => by simp at hx, ⟨hs, Nat.zero_le _, Nat.zero_le _, Nat.zero_le _, Nat.zero_le _⟩, hr1⟩
  clear hRd hg hbk hk1 hk2 hx hu1 hu2 hr1 hr2 hd1 hd2 hs u r d s h
  have hlk := HB.lk2; have hlr := HB.lt2; have m2 := bkCell (k := 2) HB.b3 rfl; obtain ⟨c0, c1, c2, c3, c4, c5, c6, c7, c8, c9, c10, c11, c12, c13, c14⟩ := HB.cells; obtain ⟨f0, f1, f2, f3, f4, f5, f6, f7, f8, f9, f10, f11, f12, f13, f14⟩ := HB.frz
  simp only [List.getElem?_toArray, List.getElem?_cons_zero, List.getElem?_cons_succ, Option.getD_some]
  refine wp_seq_k (fun K hK => ?_)
  go_cut [1, 2, 5] from 6 (fun s1 s2 s5 wx => s5 = .pointer (some ⟨k, 0, none⟩) ∧ ∃ (x1 : RQ) (q1 : Nat), q1 ≤ p + 41 ∧ S21 w rb k 4 ad len cap zs wx x1 (.slice none 0 0) q1)
  case first =>
    go_wp2_with (first
      | (go_at_call 6; refine (writes_spec x (.slice none 0 0) w2).mono ?_; rintro e w3 ⟨rfl, hb⟩; replace HB := HB.below hb; clear hb; clear c0 c1 c2 c3 c4 c5 c6 c7 c8 c9 c10 c11 c12 c13 c14 f0 f1 f2 f3 f4 f5 f6 f7 f8 f9 f10 f11 f12 f13 f14; have hlk := HB.lk2; have hlr := HB.lt2; have m2 := bkCell (k := 2) HB.b3 rfl; obtain ⟨c0, c1, c2, c3, c4, c5, c6, c7, c8, c9, c10, c11, c12, c13, c14⟩ := HB.cells; obtain ⟨f0, f1, f2, f3, f4, f5, f6, f7, f8, f9, f10, f11, f12, f13, f14⟩ := HB.frz; cases hwr : wrB x)
      | (go_at_call 22; refine (pickS _ (by decide) (by decide) HB (by omega)).mono ?_; rintro e w4 ⟨v, hv, rfl, HB4, hg4⟩; clear HB hg4; clear c0 c1 c2 c3 c4 c5 c6 c7 c8 c9 c10 c11 c12 c13 c14 f0 f1 f2 f3 f4 f5 f6 f7 f8 f9 f10 f11 f12 f13 f14; have hlk := HB4.lk2; have hlr := HB4.lt2; have m2 := bkCell (k := 2) HB4.b3 rfl; obtain ⟨c0, c1, c2, c3, c4, c5, c6, c7, c8, c9, c10, c11, c12, c13, c14⟩ := HB4.cells; obtain ⟨f0, f1, f2, f3, f4, f5, f6, f7, f8, f9, f10, f11, f12, f13, f14⟩ := HB4.frz; rcases Nat.eq_zero_or_pos v with rfl | hv0))
    · go_meet
      exact ⟨rfl, x, q, by omega, HB⟩
    · go_meet
      exact ⟨rfl, x, q + 1, by omega, HB4⟩
    · go_meet
      exact ⟨rfl, _, q + 1, by omega, HB4.s0 _⟩
  case rest =>
    refine hK _ _ ?_
    clear hK K HB hq c0 c1 c2 c3 c4 c5 c6 c7 c8 c9 c10 c11 c12 c13 c14 f0 f1 f2 f3 f4 f5 f6 f7 f8 f9 f10 f11 f12 f13 f14
    obtain ⟨rfl, x1, q1, hq1, HB⟩ := hcut
    have hlk := HB.lk2; have hlr := HB.lt2; have m2 := bkCell (k := 2) HB.b3 rfl; obtain ⟨c0, c1, c2, c3, c4, c5, c6, c7, c8, c9, c10, c11, c12, c13, c14⟩ := HB.cells; obtain ⟨f0, f1, f2, f3, f4, f5, f6, f7, f8, f9, f10, f11, f12, f13, f14⟩ := HB.frz
    have m2 := bkCell (k := 2) HB.b3 rfl
    have hlk := HB.lk2
    have hnk : w.heap.size ≠ k := by have := HB.lk; omega
    have hnk2 : k ≠ w.heap.size := fun e => hnk e.symm
    have drp : decide (x1.repo < 0) = false := by have := HB.rp; simp; omega
    go_upto_block 0 with fail
    rename_i K hK
    refine reqBlk (by kernel_rfl) hp ⟨rfl, rfl, rfl, rfl, rfl, rfl⟩ (HB.s1 _) (by omega) rfl ?_
    clear HB c0 c1 c2 c3 c4 c5 c6 c7 c8 c9 c10 c11 c12 c13 c14 f0 f1 f2 f3 f4 f5 f6 f7 f8 f9 f10 f11 f12 f13 f14 m2 hlk drp
    intro a' w' x2 E2 q2 hF HB hq2
    refine hK _ _ ?_
    clear hK K
    obtain ⟨y, hy, rfl⟩ := frQ_lit hF
    clear hy hF
    obtain ⟨A2, n2, cc2, rfl⟩ := ownSlice HB.own
    have hlk := HB.lk2; have hlr := HB.lt2; have m2 := bkCell (k := 2) HB.b3 rfl; obtain ⟨c0, c1, c2, c3, c4, c5, c6, c7, c8, c9, c10, c11, c12, c13, c14⟩ := HB.cells; obtain ⟨f0, f1, f2, f3, f4, f5, f6, f7, f8, f9, f10, f11, f12, f13, f14⟩ := HB.frz
    obtain ⟨⟨z0, g0⟩, ⟨z1, g1⟩, ⟨z2, g2⟩, ⟨z3, g3⟩, ⟨z4, g4⟩, ⟨z5, g5⟩, ⟨z6, g6⟩, ⟨z7, g7⟩, ⟨z8, g8⟩, ⟨z9, g9⟩, ⟨z10, g10⟩, ⟨z11, g11⟩, ⟨z12, g12⟩, ⟨z13, g13⟩, ⟨z14, g14⟩⟩ := blank15 HB.b4
    obtain ⟨hR, hG⟩ := out15b (.int .i64 x2.user) (.int .i64 x2.key) (.int .i64 x2.repo) (.int .i64 x2.kind) (.string x2.ref) (.string x2.path) (.int .i64 x2.old) (.int .i64 x2.back) (.slice A2 n2 cc2) (.int .i64 x2.rule.user) (.string x2.rule.ref) (.string x2.rule.path) (.bool x2.rule.write) (.int .i64 x2.from_) (.string x2.other) HB.b4
    have hR' : Hid (_) := hR
    clear hR
    have hG' : Hid (_) := hG
    clear hG
    go_wp2_with fail
    have hR := hR'.out
    have hG := hG'.out
    clear hR' hG'
    revert hR hG
    generalize ((((((((((((((((w'.setCell _ _).setCell _ _).setCell _ _).setCell _ _).setCell _ _).setCell _ _).setCell _ _).setCell _ _).setCell _ _).setCell _ _).setCell _ _).setCell _ _).setCell _ _).setCell _ _).setCell _ _)) = wE
    intro hR hG
    have r0 := bkCell (k := 0) hR rfl; have r1 := bkCell (k := 1) hR rfl; have r2 := bkCell (k := 2) hR rfl; have r3 := bkCell (k := 3) hR rfl; have r4 := bkCell (k := 4) hR rfl; have r5 := bkCell (k := 5) hR rfl; have r6 := bkCell (k := 6) hR rfl; have r7 := bkCell (k := 7) hR rfl; have r8 := bkCell (k := 8) hR rfl; have r9 := bkCell (k := 9) hR rfl; have r10 := bkCell (k := 10) hR rfl; have r11 := bkCell (k := 11) hR rfl; have r12 := bkCell (k := 12) hR rfl; have r13 := bkCell (k := 13) hR rfl; have r14 := bkCell (k := 14) hR rfl
    have h1 := HB.lk
    have h2 := HB.lt
    refine bodyPost_ret (v := .agg (x2.at_ (.slice A2 n2 cc2))) (by simp [results, Try.results21, go_sem, RQ.at_, r0, r1, r2, r3, r4, r5, r6, r7, r8, r9, r10, r11, r12, r13, r14]) rfl ?_
    exact ⟨x2, _, q2, rfl, by omega, HB.rd.kept hG (fun r e => by cases e; omega) HB.lt2, gNew HB.g hG (by omega), ownsUpE (HB.own.kept hG (.inr (fun e => by have := (HB.own.lt _ e).1; omega))) (by omega), HB.n, HB.sh, HB.sm⟩
end Go.Proofs.Ytcdkjlbpcihcjaa.W
