
/-
  The walks of the draws of an edit and of an edit's text: an edit with texts of at most 64 bytes; a text of at most 200 bytes; of what lay nothing but the reader has turned. Two edits held against each other.
-/
import Derived.Test.YtpdedjjciajddaaMathBlk
import Derived.Test.YtpdedjjciajddaaWalkDraw5
import Derived.Test.YtpdedjjciajddaaWalkEdtT
import Derived.Laws.StructEq
namespace Go.Proofs.Ytpdedjjciajddaa.W
open Go.RowKit Go.Proofs.Ytpdedjjciajddaa.M

def eqE (x y : TE) : Bool := (x.pa.toList == y.pa.toList) && ((x.by_.toList == y.by_.toList) && (x.gone == y.gone))
theorem eqE_self (x : TE) : eqE x x = true := by simp [eqE]
theorem run_eqE (w : World) (x y : TE) : (binOp .eql 24 (.agg #[.string x.pa, .string x.by_, .bool x.gone]) (.agg #[.string y.pa, .string y.by_, .bool y.gone])).run Try.prog w = .ok (.bool (eqE x y)) w := by
  have u2 := Try.underlying9
  have a2 := Try.isAgg9
  have z2 := Try.sizeOf9
  have u3 := Try.underlying4
  have a3 := Try.isAgg4
  have z3 := Try.sizeOf4
  have hS : Try.prog.underlying 24 = some (.struct (Try.prog.fieldsOf 24)) := by kernel_rfl
  have hp : Try.prog.stoodInHeld 24 = false := by kernel_rfl
  rw [run_eql_struct, show (10000 : Nat) = 9999 + 1 from rfl, run_equalIn_agg w 9999 24 _ _ hS hp]
  simp only [Program.fieldsOf, Try.underlying24]
  go_simp
  unfold eqE
  cases h2 : (x.pa.toList == y.pa.toList) <;> cases h3 : (x.by_.toList == y.by_.toList) <;> cases h4 : x.gone <;> cases h5 : y.gone <;> simp_all
theorem run_neE (w : World) (x y : TE) : (binOp .neq 24 (.agg #[.string x.pa, .string x.by_, .bool x.gone]) (.agg #[.string y.pa, .string y.by_, .bool y.gone])).run Try.prog w = .ok (.bool (!eqE x y)) w := by
  have h := run_eqE w x y
  rw [run_eql_struct] at h
  rw [run_neq_struct]
  revert h
  generalize (Op.equalIn 10000 24 (.agg #[.string x.pa, .string x.by_, .bool x.gone]) (.agg #[.string y.pa, .string y.by_, .bool y.gone])).run Try.prog w = r
  intro h
  cases r with
  | ok b w' => simp at h ⊢; exact ⟨by rw [h.1], h.2⟩
  | halt x w' => simp [Result.andThen] at h
theorem guardE : Try.prog.eqGuardType Try.prog.depth 24 = false := by kernel_rfl

set_option maxRecDepth 100000 in
set_option maxHeartbeats 2000000 in
theorem edit_any (w : World) (rb p : Nat) (ad : Option Addr) (len cap : Nat) (zs : Nat → Int) (h : Rd w rb p ad len cap zs) (hp : p ≤ 800000) (hlt : rb < w.heap.size) :
    Calls Try.prog 14 #[.pointer (some ⟨rb, 0, none⟩)] w fun e w' => ∃ (x : TE) (p' : Nat), e = .returned (.agg #[.string x.pa, .string x.by_, .bool x.gone]) ∧ x.pa.size ≤ 64 ∧ x.by_.size ≤ 64 ∧ p' ≤ p + 3 ∧ Rd w' rb p' ad len cap zs ∧ w.grownBy w' (some rb) := by
  have HR : Hid (Rd (w.alloc (.cells #[.string ⟨#[]⟩, .string ⟨#[]⟩, .bool false] 24)) rb p ad len cap zs) := h.alloc hlt _
  clear h
  have r0 : (w.alloc (.cells #[.string ⟨#[]⟩, .string ⟨#[]⟩, .bool false] 24)).heap[w.heap.size]? = some (.cells #[.string ⟨#[]⟩, .string ⟨#[]⟩, .bool false] 24 (0, 0)) := bkNew _ _
  go_enter Try.func14, Try.ntmps14
  go_wp2_with (first
    | (go_at_call 26; refine (path_any _ rb p ad len cap zs HR.out (by omega) (by simp; omega)).mono ?_; rintro e w1 ⟨s, p1, rfl, hs, hp1, hR1, hg1⟩; have hz1 := hg1.size; simp only [World.size_alloc] at hz1; have r1 := bkKept r0 hg1 (by omega); have G1 : w.grownBy w1 (some rb) := gtrans (galloc _ _) hg1; clear HR r0 hg1)
    | (go_at_call 27; refine (bytes_any _ rb p1 ad len cap zs hR1 (by omega) (by omega)).mono ?_; rintro e w2 ⟨b, p2, rfl, hb, hp2, hR2, hg2⟩; have hz2 := hg2.size; have r2 := bkKept r1 hg2 (by omega); have G2 := gtrans G1 hg2; clear hR1 r1 hg2 G1; have R2 := hR2.alloc (by omega) (.cells #[.string s, .string b, .bool false] 24); have r2' := bkOld (o' := .cells #[.string s, .string b, .bool false] 24) r2; have e2 := bkNew w2 (.cells #[.string s, .string b, .bool false] 24); have G2' := gtrans G2 (galloc w2 (.cells #[.string s, .string b, .bool false] 24)); clear hR2 r2 G2)
    | (go_at_call 15; refine (pick_any _ rb p2 ad len cap 5 zs R2 (by omega) (by omega) (by omega)).mono ?_; rintro e w3 ⟨v, hv, rfl, hR3, hg3⟩; have hz3 := hg3.size; simp only [World.size_alloc] at hz3; have r3 := bkKept r2' hg3 (by omega); have e3 := bkKept e2 hg3 (by omega); have G3 := gtrans G2' hg3; clear R2 r2' e2 G2' hg3; have q0 := bkCell (k := 0) (v := .string s) e3 rfl; have q1 := bkCell (k := 1) (v := .string b) e3 rfl; have q2 := bkCell (k := 2) (v := .bool false) e3 rfl; obtain ⟨⟨s0, s1⟩, ⟨s2, s3⟩, ⟨s4, s5⟩, s8, s9, s10, gs⟩ := out3 (.string s) (.string ⟨#[]⟩) (.bool true) r3; obtain ⟨⟨t0, t1⟩, ⟨t2, t3⟩, ⟨t4, t5⟩, t8, t9, t10, gt⟩ := out3 (.string s) (.string b) (.bool false) r3))
  · try simp only [Exit.inBlock, Exit.then]
    refine bodyPost_ret (v := .agg #[.string s, .string ⟨#[]⟩, .bool true]) (by simp [results, Try.results14, go_sem, s8, s9, s10]) rfl ?_
    exact ⟨⟨s, ⟨#[]⟩, true⟩, p2 + 1, rfl, hs, by show (ByteArray.mk #[]).size ≤ 64; decide, by omega, hR3.kept gs (fun r e => by cases e; omega) (by omega), gNew G3 gs (Nat.le_refl _)⟩
  · try simp only [Exit.inBlock, Exit.then]
    refine bodyPost_ret (v := .agg #[.string s, .string b, .bool false]) (by simp [results, Try.results14, go_sem, t8, t9, t10]) rfl ?_
    exact ⟨⟨s, b, false⟩, p2 + 1, rfl, hs, hb, by omega, hR3.kept gt (fun r e => by cases e; omega) (by omega), gNew G3 gt (Nat.le_refl _)⟩
set_option maxRecDepth 100000 in
set_option maxHeartbeats 4000000 in
theorem anyEdit_any (w : World) (rb n p : Nat) (ad : Option Addr) (len cap : Nat) (zs : Nat → Int) (h : Rd w rb p ad len cap zs) (hp : p ≤ 700000) (hlt : rb < w.heap.size) (hn : 1 ≤ n) (hn2 : n ≤ 1000000) :
    Calls Try.prog 10 #[.pointer (some ⟨rb, 0, none⟩), .int .i64 n] w fun e w' => ∃ (x : TE) (p' : Nat), e = .returned (.agg #[.string x.pa, .string x.by_, .bool x.gone]) ∧ x.pa.size ≤ 64 ∧ x.by_.size ≤ 64 ∧ p' ≤ p + 20 ∧ Rd w' rb p' ad len cap zs ∧ w.grownBy w' (some rb) := by
  have HR : Hid (Rd (w.alloc (.cells #[.string ⟨#[]⟩, .string ⟨#[]⟩, .bool false] 24)) rb p ad len cap zs) := h.alloc hlt _
  clear h
  have r0 : (w.alloc (.cells #[.string ⟨#[]⟩, .string ⟨#[]⟩, .bool false] 24)).heap[w.heap.size]? = some (.cells #[.string ⟨#[]⟩, .string ⟨#[]⟩, .bool false] 24 (0, 0)) := bkNew _ _
  go_enter Try.func10, Try.ntmps10
  go_wp2_with (first
    | (go_at_call 14; refine (edit_any _ rb p ad len cap zs HR.out (by omega) (by simp; omega)).mono ?_; rintro e w1 ⟨x, p1, rfl, hx1, hx2, hp1, hR1, hg1⟩; have hz1 := hg1.size; simp only [World.size_alloc] at hz1; have r1 := bkOld (o' := (.cells #[.string x.pa, .string x.by_, .bool x.gone] 24)) (bkKept r0 hg1 (by omega)); have E1 := bkNew w1 (.cells #[.string x.pa, .string x.by_, .bool x.gone] 24); have R1 := hR1.alloc (by omega) (.cells #[.string x.pa, .string x.by_, .bool x.gone] 24); have G1 := gtrans (gtrans (galloc w (.cells #[.string ⟨#[]⟩, .string ⟨#[]⟩, .bool false] 24)) hg1) (galloc w1 (.cells #[.string x.pa, .string x.by_, .bool x.gone] 24)); clear HR r0 hg1 hR1)
    | (go_at_call 15; refine (pick_any _ rb p1 ad len cap n zs R1 (by omega) (by omega) (by omega)).mono ?_; rintro e w2 ⟨v2, hv2, rfl, hR2, hg2⟩; have hz2 := hg2.size; simp only [World.size_alloc] at hz2; have r2 := bkKept r1 hg2 (by omega); have E2 := bkKept E1 hg2 (by omega); have G2 := gtrans G1 hg2; clear R1 r1 E1 G1 hg2; have q0 := bkCell (k := 0) (v := .string x.pa) E2 rfl; have q1 := bkCell (k := 1) (v := .string x.by_) E2 rfl; have q2 := bkCell (k := 2) (v := .bool x.gone) E2 rfl; obtain ⟨⟨s0, s1⟩, ⟨s2, s3⟩, ⟨s4, s5⟩, s8, s9, s10, gs⟩ := out3 (.string x.pa) (.string x.by_) (.bool x.gone) r2)
    | (go_at_call 15; refine (pick_any w2 rb (p1 + 1) ad len cap 3 zs hR2 (by omega) (by omega) (by omega)).mono ?_; rintro e w3 ⟨v3, hv3, rfl, hR3, hg3⟩; clear hR2 q0 q1 q2 s0 s1 s2 s3 s4 s5 s8 s9 s10 gs; have hz3 := hg3.size; have r3 := bkKept r2 hg3 (by omega); have E3 := bkKept E2 hg3 (by omega); have G3 := gtrans G2 hg3; clear r2 E2 G2 hg3; have dm0 := bkCell (k := 2) (v := .bool x.gone) E3 rfl; have dm1 := bkFrozen (k := 2) E3; have dW := bkSet (k := 2) (v := .bool (!x.gone)) E3; have dV := (Below.heap_setCell w3 ⟨w1.heap.size, 2, none⟩ (.bool (!x.gone)) w.heap.size (by show w.heap.size ≠ w1.heap.size; omega)).trans r3; have dq0 := bkCell (k := 0) (v := .string x.pa) dW rfl; have dq1 := bkCell (k := 1) (v := .string x.by_) dW rfl; have dq2 := bkCell (k := 2) (v := .bool (!x.gone)) dW rfl; obtain ⟨⟨d0, d1⟩, ⟨d2, d3⟩, ⟨d4, d5⟩, d8, d9, d10, gd⟩ := out3 (.string x.pa) (.string x.by_) (.bool (!x.gone)) dV)
    | (go_at_call 23; refine (anyPath_any w3 rb (p1 + 1 + 1) 1 ad len cap zs hR3 (by omega) (by omega) (by omega) (by omega)).mono ?_; rintro e w4 ⟨u, p4, rfl, hu, hp4, hR4, hg4⟩; have hz4 := hg4.size; have r4 := bkKept r3 hg4 (by omega); have E4 := bkKept E3 hg4 (by omega); have G4 := gtrans G3 hg4; have am0 := bkCell (k := 0) (v := .string x.pa) E4 rfl; have am1 := bkFrozen (k := 0) E4; have aW := bkSet (k := 0) (v := .string u) E4; have aV := (Below.heap_setCell w4 ⟨w1.heap.size, 0, none⟩ (.string u) w.heap.size (by show w.heap.size ≠ w1.heap.size; omega)).trans r4; have aq0 := bkCell (k := 0) (v := .string u) aW rfl; have aq1 := bkCell (k := 1) (v := .string x.by_) aW rfl; have aq2 := bkCell (k := 2) (v := .bool x.gone) aW rfl; obtain ⟨⟨a0, a1⟩, ⟨a2, a3⟩, ⟨a4, a5⟩, a8, a9, a10, ga⟩ := out3 (.string u) (.string x.by_) (.bool x.gone) aV)
    | (go_at_call 15; refine (pick_any (w3.alloc (.cells #[.string ⟨#[49, 50, 51, 52, 53, 54, 55]⟩, .string ⟨#[120]⟩] _)) rb (p1 + 1 + 1) ad len cap 2 zs (hR3.alloc (by omega) _) (by omega) (by omega) (by omega)).mono ?_; rintro e w5 ⟨v5, hv5, rfl, hR5, hg5⟩; have hz5 := hg5.size; simp only [World.size_alloc] at hz5; obtain ⟨u, hcell, hu⟩ : ∃ u : ByteArray, w5.cell? ⟨w3.heap.size, v5, none⟩ = some (.string u) ∧ u.size ≤ 64 := (by rw [litCell hg5 (by omega) v5]; rcases (show v5 = 0 ∨ v5 = 1 from by omega) with rfl | rfl <;> exact ⟨_, rfl, by decide⟩); have r5 := bkKept (bkOld r3) hg5 (by omega); have E5 := bkKept (bkOld E3) hg5 (by omega); have G5 := gtrans (gtrans G3 (galloc _ _)) hg5; have bm0 := bkCell (k := 1) (v := .string x.by_) E5 rfl; have bm1 := bkFrozen (k := 1) E5; have bW := bkSet (k := 1) (v := .string u) E5; have bV := (Below.heap_setCell w5 ⟨w1.heap.size, 1, none⟩ (.string u) w.heap.size (by show w.heap.size ≠ w1.heap.size; omega)).trans r5; have bq0 := bkCell (k := 0) (v := .string x.pa) bW rfl; have bq1 := bkCell (k := 1) (v := .string u) bW rfl; have bq2 := bkCell (k := 2) (v := .bool x.gone) bW rfl; obtain ⟨⟨b0, b1⟩, ⟨b2, b3⟩, ⟨b4, b5⟩, b8, b9, b10, gb⟩ := out3 (.string x.pa) (.string u) (.bool x.gone) bV))
  all_goals (try simp only [Exit.inBlock, Exit.then])
  · refine bodyPost_ret (v := .agg #[.string x.pa, .string x.by_, .bool x.gone]) (by simp [results, Try.results10, go_sem, s8, s9, s10]) rfl ?_
    exact ⟨x, p1 + 1, rfl, hx1, hx2, by omega, hR2.kept gs (fun r e => by cases e; omega) (by omega), gNew G2 gs (Nat.le_refl _)⟩
  · refine bodyPost_ret (v := .agg #[.string u, .string x.by_, .bool x.gone]) (by simp [results, Try.results10, go_sem, a8, a9, a10]) rfl ?_
    exact ⟨⟨u, x.by_, x.gone⟩, p4, rfl, hu, hx2, by omega, (hR4.kept (gSet w4 w1.heap.size 0 (.string u)) (fun r e => by cases e; omega) (by omega)).kept ga (fun r e => by cases e; omega) (by have := (gSet w4 w1.heap.size 0 (.string u)).size; omega), gNew (gNew G4 (gSet w4 w1.heap.size 0 (.string u)) (by omega)) ga (Nat.le_refl _)⟩
  · refine bodyPost_ret (v := .agg #[.string x.pa, .string u, .bool x.gone]) (by simp [results, Try.results10, go_sem, b8, b9, b10]) rfl ?_
    exact ⟨⟨x.pa, u, x.gone⟩, p1 + 1 + 1 + 1, rfl, hx1, hu, by omega, (hR5.kept (gSet w5 w1.heap.size 1 (.string u)) (fun r e => by cases e; omega) (by omega)).kept gb (fun r e => by cases e; omega) (by have := (gSet w5 w1.heap.size 1 (.string u)).size; omega), gNew (gNew G5 (gSet w5 w1.heap.size 1 (.string u)) (by omega)) gb (Nat.le_refl _)⟩
  · refine bodyPost_ret (v := .agg #[.string x.pa, .string x.by_, .bool (!x.gone)]) (by simp [results, Try.results10, go_sem, d8, d9, d10]) rfl ?_
    exact ⟨⟨x.pa, x.by_, !x.gone⟩, p1 + 1 + 1, rfl, hx1, hx2, by omega, (hR3.kept (gSet w3 w1.heap.size 2 (.bool (!x.gone))) (fun r e => by cases e; omega) (by omega)).kept gd (fun r e => by cases e; omega) (by have := (gSet w3 w1.heap.size 2 (.bool (!x.gone))).size; omega), gNew (gNew G3 (gSet w3 w1.heap.size 2 (.bool (!x.gone))) (by omega)) gd (Nat.le_refl _)⟩
theorem edtB_size (x : TE) : (edtB x).size ≤ x.pa.size + 16 := by
  by_cases h : edB x = true
  · have h6 := edB_short x h
    by_cases g : x.gone = true
    · rw [edtB_gone x h g, ByteArray.size_append]
      show x.pa.size + 1 ≤ _
      omega
    · have g' : x.gone = false := by simpa using g
      have h1 := dashB_size (hxB x.by_)
      have h2 := hxB_size x.by_
      rw [edtB_lays x h g', ByteArray.size_append, ByteArray.size_append]
      show x.pa.size + 1 + _ ≤ _
      omega
  · rw [edtB_no x (by simpa using h)]
    show 0 ≤ _
    omega
set_option maxRecDepth 100000 in
set_option maxHeartbeats 2000000 in
theorem drawEdtText_any (w : World) (a : Option Addr) (len cap : Nat) (zs : Nat → Int) (h : W.Src w a len cap zs) :
    Calls Try.prog 4 #[.slice a len cap] w fun e w' => ∃ x : TE, e = .returned (.agg #[.string x.pa, .string x.by_, .bool x.gone]) ∧ x.pa.size ≤ 64 ∧ x.by_.size ≤ 64 ∧ Below w.heap.size w w' := by
  have HS : Hid (W.Src (w.alloc (.cells #[.string ⟨#[]⟩, .string ⟨#[]⟩, .bool false] 24)) a len cap zs) := h.below ((Below.refl _ _).alloc (Nat.le_refl _) _)
  clear h
  have r0 : (w.alloc (.cells #[.string ⟨#[]⟩, .string ⟨#[]⟩, .bool false] 24)).heap[w.heap.size]? = some (.cells #[.string ⟨#[]⟩, .string ⟨#[]⟩, .bool false] 24 (0, 0)) := bkNew _ _
  go_enter Try.func4, Try.ntmps4
  go_wp2_with (first
    | (go_at_call 11; refine (open_any _ a len cap zs HS.out).mono ?_; rintro e w1 ⟨a', len', cap', rfl, hR1, hl1, hg1⟩; simp only [World.size_alloc] at hR1 hl1; have B1 : Below w.heap.size w w1 := ((Below.refl _ _).alloc (Nat.le_refl _) _).grown hg1 (by simp) (fun _ e => by cases e); have r1 := bkKept (rb := w.heap.size + 1) r0 (gweak hg1) (by omega); clear HS r0)
    | (go_at_call 10; refine (anyEdit_any w1 (w.heap.size + 1) 4 0 a' len' cap' zs hR1 (by omega) hl1 (by omega) (by omega)).mono ?_; rintro e w2 ⟨x, p2, rfl, hx1, hx2, hp2, hR2, hg2⟩; have hz2 := hg2.size; have r2 := bkKept r1 hg2 (by omega); have B2 := B1.grown hg2 (by omega) (fun _ e => by cases e; omega); obtain ⟨⟨s0, s1⟩, ⟨s2, s3⟩, ⟨s4, s5⟩, s8, s9, s10, gs⟩ := out3 (.string x.pa) (.string x.by_) (.bool x.gone) r2))
  try simp only [Exit.inBlock, Exit.then]
  refine bodyPost_ret (v := .agg #[.string x.pa, .string x.by_, .bool x.gone]) (by simp [results, Try.results4, go_sem, s8, s9, s10]) rfl ?_
  exact ⟨x, rfl, hx1, hx2, B2.grown gs (by omega) (fun _ e => by cases e; exact Nat.le_refl _)⟩
set_option maxRecDepth 100000 in
set_option maxHeartbeats 2000000 in
theorem drawEdtRead_any (w : World) (a : Option Addr) (len cap : Nat) (zs : Nat → Int) (h : W.Src w a len cap zs) :
    Calls Try.prog 6 #[.slice a len cap] w fun e w' => ∃ t : ByteArray, e = .returned (.string t) ∧ t.size ≤ 200 ∧ Below w.heap.size w w' := by
  go_enter Try.func6, Try.ntmps6
  go_wp2_with (first
    | (go_at_call 11; refine (open_any _ a len cap zs h).mono ?_; rintro e w1 ⟨a', len', cap', rfl, hR1, hl1, hg1⟩; have B1 : Below w.heap.size w w1 := (Below.refl _ _).grown hg1 (Nat.le_refl _) (fun _ e => by cases e); clear hg1)
    | (go_at_call 14; refine (edit_any w1 w.heap.size 0 a' len' cap' zs hR1 (by omega) hl1).mono ?_; rintro e w2 ⟨x, p2, rfl, hx1, hx2, hp2, hR2, hg2⟩; clear hR1; have hz2 := hg2.size; have B2 : Below w.heap.size w w2 := B1.grown hg2 (by omega) (fun _ e => by cases e; exact Nat.le_refl _); clear hg2)
    | (go_at_call 9; refine (edtText_spec x w2 (by omega) (by omega)).mono ?_; rintro e w3 ⟨rfl, hb3⟩; have hR3 := rdBelow hR2 hb3 (by omega); have hz3 := hb3.size; have B3 : Below w.heap.size w w3 := B2.trans (hb3.mono B2.size); clear hR2; obtain ⟨s, hse⟩ : ∃ s, s = edtB x := ⟨_, rfl⟩; have hss : s.size ≤ 100 := (by rw [hse]; exact Nat.le_trans (edtB_size x) (by omega)); rw [← hse]; clear hse)
    | (go_at_call 15; refine (pick_any w3 w.heap.size p2 a' len' cap' 2 zs hR3 (by omega) (by omega) (by omega)).mono ?_; rintro e w4 ⟨v4, hv4, rfl, hR4, hg4⟩; clear hR3; have B4 : Below w.heap.size w w4 := B3.grown hg4 (by omega) (fun _ e => by cases e; exact Nat.le_refl _); have hz4 := hg4.size; clear hg4)
    | (go_at_call 16; refine (bent_any w4 w.heap.size (p2 + 1) a' len' cap' zs s hR4 (by omega) (by omega) (by omega)).mono ?_; rintro e w5 ⟨t, rfl, ht, hg5⟩))
  · go_ret
    exact ⟨t, rfl, by omega, B4.grown hg5 (by omega) (fun _ e => by cases e; exact Nat.le_refl _)⟩
  · go_ret
    exact ⟨s, rfl, by omega, B4⟩
end Go.Proofs.Ytpdedjjciajddaa.W
