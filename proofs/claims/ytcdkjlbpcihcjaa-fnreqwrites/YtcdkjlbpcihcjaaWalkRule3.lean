
/-
  The walk of the draw of a rule, from its first region on.
-/
import Derived.Test.YtcdkjlbpcihcjaaWalkRule2
namespace Go.Proofs.Ytcdkjlbpcihcjaa.W
open Go.RowKit Go.Proofs.Ytcdkjlbpcihcjaa.M

theorem outFacts {W : World} {R : Nat} {t : TypeId} (a b c d : Value) {z0 z1 z2 z3 : Value} (h : W.heap[R]? = some (.cells #[z0, z1, z2, z3] t (0, 0))) :
    (W.cell? ⟨R, 0, none⟩ = some z0 ∧ W.frozen? ⟨R, 0, none⟩ = false) ∧ ((W.setCell ⟨R, 0, none⟩ a).cell? ⟨R, 1, none⟩ = some z1 ∧ (W.setCell ⟨R, 0, none⟩ a).frozen? ⟨R, 1, none⟩ = false) ∧
    (((W.setCell ⟨R, 0, none⟩ a).setCell ⟨R, 1, none⟩ b).cell? ⟨R, 2, none⟩ = some z2 ∧ ((W.setCell ⟨R, 0, none⟩ a).setCell ⟨R, 1, none⟩ b).frozen? ⟨R, 2, none⟩ = false) ∧
    ((((W.setCell ⟨R, 0, none⟩ a).setCell ⟨R, 1, none⟩ b).setCell ⟨R, 2, none⟩ c).cell? ⟨R, 3, none⟩ = some z3 ∧ (((W.setCell ⟨R, 0, none⟩ a).setCell ⟨R, 1, none⟩ b).setCell ⟨R, 2, none⟩ c).frozen? ⟨R, 3, none⟩ = false) ∧
    ((((W.setCell ⟨R, 0, none⟩ a).setCell ⟨R, 1, none⟩ b).setCell ⟨R, 2, none⟩ c).setCell ⟨R, 3, none⟩ d).cell? ⟨R, 0, none⟩ = some a ∧
    ((((W.setCell ⟨R, 0, none⟩ a).setCell ⟨R, 1, none⟩ b).setCell ⟨R, 2, none⟩ c).setCell ⟨R, 3, none⟩ d).cell? ⟨R, 1, none⟩ = some b ∧
    ((((W.setCell ⟨R, 0, none⟩ a).setCell ⟨R, 1, none⟩ b).setCell ⟨R, 2, none⟩ c).setCell ⟨R, 3, none⟩ d).cell? ⟨R, 2, none⟩ = some c ∧
    ((((W.setCell ⟨R, 0, none⟩ a).setCell ⟨R, 1, none⟩ b).setCell ⟨R, 2, none⟩ c).setCell ⟨R, 3, none⟩ d).cell? ⟨R, 3, none⟩ = some d ∧
    W.grownBy ((((W.setCell ⟨R, 0, none⟩ a).setCell ⟨R, 1, none⟩ b).setCell ⟨R, 2, none⟩ c).setCell ⟨R, 3, none⟩ d) (some R) := by
  have b1 := blk_set (k := 0) (v := a) h
  have b2 := blk_set (k := 1) (v := b) b1
  have b3 := blk_set (k := 2) (v := c) b2
  have b4 := blk_set (k := 3) (v := d) b3
  exact ⟨⟨blk_cell h rfl, blk_frozen h⟩, ⟨blk_cell b1 rfl, blk_frozen b1⟩, ⟨blk_cell b2 rfl, blk_frozen b2⟩, ⟨blk_cell b3 rfl, blk_frozen b3⟩, blk_cell b4 rfl, blk_cell b4 rfl, blk_cell b4 rfl, blk_cell b4 rfl,
    gtrans (gtrans (gtrans (gset W R 0 a) (gset _ R 1 b)) (gset _ R 2 c)) (gset _ R 3 d)⟩
theorem gnew {w w1 w2 : World} {rb r : Nat} (h : w.grownBy w1 (some rb)) (k : w1.grownBy w2 (some r)) (hr : w.heap.size ≤ r) : w.grownBy w2 (some rb) :=
  ⟨k.os.trans h.os, k.tape.trans h.tape, k.output.trans h.output, Nat.le_trans h.size k.size, fun j hj hne => (k.block j (Nat.lt_of_lt_of_le hj h.size) (fun e => by cases e; omega)).trans (h.block j hj hne)⟩

set_option maxRecDepth 100000 in
set_option maxHeartbeats 4000000 in
theorem rule_any (w : World) (rb n : Nat) (p : Nat) (ad : Option Addr) (len cap : Nat) (zs : Nat → Int) (h : Rd w rb p ad len cap zs) (hp : p ≤ 800000) (hlt : rb < w.heap.size) (hn : 1 ≤ n) (hn2 : n ≤ 1000000) :
    Calls Try.prog 25 #[.pointer (some ⟨rb, 0, none⟩), .int .i64 n] w fun e w' => ∃ (x : RR) (p' : Nat), e = .returned (.agg #[.int .i64 x.user, .string x.ref, .string x.path, .bool x.write]) ∧ -1 ≤ x.user ∧ x.user ≤ 5 ∧ x.ref.size ≤ 64 ∧ x.path.size ≤ 64 ∧ p' ≤ p + 30 ∧ Rd w' rb p' ad len cap zs ∧ w.grownBy w' (some rb) := by
  go_enter Try.func25, Try.ntmps25
  go_wp2
  rename_i K hK
  refine rule_front (x1 := .int .i64 n) (x4 := .pointer (some ⟨w.heap.size, 0, none⟩)) (p := p) (ad := ad) (len := len) (cap := cap) (zs := zs) (by kernel_rfl) ⟨rfl, rfl, rfl, rfl, rfl, ⟨p, by omega, h.alloc hlt _⟩, rfl, rfl, rfl, Nat.le_refl _, fun _ _ _ => rfl⟩ (by omega) (by simp; omega) ?_
  intro y w2 q g x hq j7 j8 g1 g2 g3 z1 z2 z3 z4
  have hR0 : w2.heap[w.heap.size]? = some (.cells #[.int .i64 0, .string ⟨#[]⟩, .string ⟨#[]⟩, .bool false] 25 (0, 0)) := (j8.block w.heap.size (by simp) (fun e => by cases e; omega)).trans (blk_new _ _)
  have hl2 : w.heap.size + 1 ≤ w2.heap.size := by simpa using j8.size
  have hg2 : w.grownBy w2 (some rb) := gtrans (galloc _ _) j8
  have g2' : w.heap.size + 1 ≤ g := by simpa using g2
  clear j8 h g2
  refine hK _ _ ?_
  clear hK
  go_wp2_with (first | (go_at_call 22; refine (pick_any w2 rb q ad len cap n zs j7 (by omega) (by omega) (by omega)).mono ?_; rintro e w3 ⟨v3, hv3, rfl, hR3, hg3⟩; clear j7; have hl3 := hg3.size; have hb3 := (hg3.block g (Array.getElem?_eq_some_iff.1 g3).1 (fun e => g1 (Option.some.inj e))).trans g3; have hr3 := (hg3.block w.heap.size (by omega) (fun e => by cases e; omega)).trans hR0; clear g3 hR0; have q0 := blk_cell (k := 0) (v := .int .i64 x.user) hb3 rfl; have q1 := blk_cell (k := 1) (v := .string x.ref) hb3 rfl; have q2 := blk_cell (k := 2) (v := .string x.path) hb3 rfl; have q3 := blk_cell (k := 3) (v := .bool x.write) hb3 rfl; obtain ⟨⟨s0, s1⟩, ⟨s2, s3⟩, ⟨s4, s5⟩, ⟨s6, s7⟩, s8, s9, s10, s11, gO⟩ := outFacts (.int .i64 x.user) (.string x.ref) (.string x.path) (.bool x.write) hr3) | (go_at_call 22; refine (pick_any w3 rb (q + 1) ad len cap 3 zs hR3 (by omega) (by omega) (by omega)).mono ?_; rintro e w4 ⟨v4, hv4, rfl, hR4, hg4⟩; clear hR3 q0 q1 q2 q3 s0 s1 s2 s3 s4 s5 s6 s7 s8 s9 s10 s11 gO; have hl4 := hg4.size; have hb4 := (hg4.block g (Array.getElem?_eq_some_iff.1 hb3).1 (fun e => g1 (Option.some.inj e))).trans hb3; have hr4 := (hg4.block w.heap.size (by omega) (fun e => by cases e; omega)).trans hr3; clear hb3 hr3; have hz4 := (Array.getElem?_eq_some_iff.1 hb4).1) | (go_at_call 22; refine (pick_any (w4.alloc (.cells #[.int .i64 (-1), .int .i64 5, .int .i64 4] _)) rb (q + 1 + 1) ad len cap 3 zs (hR4.alloc (by omega) _) (by omega) (by omega) (by omega)).mono ?_; rintro e w5 ⟨v5, hv5, rfl, hR5, hg5⟩; clear hR4; have hl5 := hg5.size; obtain ⟨u, hcell, hu⟩ : ∃ u : Int, w5.cell? ⟨w4.heap.size, v5, none⟩ = some (.int .i64 u) ∧ (-1 ≤ u ∧ u ≤ 5) := (by rw [litCell hg5 (by omega) v5]; rcases (show v5 = 0 ∨ v5 = 1 ∨ v5 = 2 from by omega) with rfl | rfl | rfl <;> exact ⟨_, rfl, by decide⟩); have hb5 := (hg5.block g (by simp; omega) (fun e => g1 (Option.some.inj e))).trans ((Below.heap_alloc _ _ _ hz4).trans hb4); have hr5 := (hg5.block w.heap.size (by simp; omega) (fun e => by cases e; omega)).trans ((Below.heap_alloc _ _ _ (by omega)).trans hr4); clear hb4 hr4; have m0 := blk_cell (k := 0) (v := .int .i64 x.user) hb5 rfl; have m1 := blk_frozen (k := 0) hb5; have hbW := blk_set (k := 0) (v := .int .i64 u) hb5; have hrW := (Below.heap_setCell w5 ⟨g, 0, none⟩ (.int .i64 u) w.heap.size (by show w.heap.size ≠ g; omega)).trans hr5; have q0 := blk_cell (k := 0) (v := .int .i64 u) hbW rfl; have q1 := blk_cell (k := 1) (v := .string x.ref) hbW rfl; have q2 := blk_cell (k := 2) (v := .string x.path) hbW rfl; have q3 := blk_cell (k := 3) (v := .bool x.write) hbW rfl; obtain ⟨⟨s0, s1⟩, ⟨s2, s3⟩, ⟨s4, s5⟩, ⟨s6, s7⟩, s8, s9, s10, s11, gO⟩ := outFacts (.int .i64 u) (.string x.ref) (.string x.path) (.bool x.write) hrW) | (go_at_call 22; refine (pick_any (w4.alloc (.cells #[.string ⟨#[97, 98, 99, 100]⟩, .string ⟨#[65]⟩, .string ⟨#[122, 122, 122]⟩] _)) rb (q + 1 + 1) ad len cap 3 zs (hR4.alloc (by omega) _) (by omega) (by omega) (by omega)).mono ?_; rintro e w5 ⟨v5, hv5, rfl, hR5, hg5⟩; clear hR4; have hl5 := hg5.size; obtain ⟨u, hcell, hu⟩ : ∃ u : ByteArray, w5.cell? ⟨w4.heap.size, v5, none⟩ = some (.string u) ∧ u.size ≤ 64 := (by rw [litCell hg5 (by omega) v5]; rcases (show v5 = 0 ∨ v5 = 1 ∨ v5 = 2 from by omega) with rfl | rfl | rfl <;> exact ⟨_, rfl, by decide⟩); have hb5 := (hg5.block g (by simp; omega) (fun e => g1 (Option.some.inj e))).trans ((Below.heap_alloc _ _ _ hz4).trans hb4); have hr5 := (hg5.block w.heap.size (by simp; omega) (fun e => by cases e; omega)).trans ((Below.heap_alloc _ _ _ (by omega)).trans hr4); clear hb4 hr4; have m0 := blk_cell (k := 1) (v := .string x.ref) hb5 rfl; have m1 := blk_frozen (k := 1) hb5; have hbW := blk_set (k := 1) (v := .string u) hb5; have hrW := (Below.heap_setCell w5 ⟨g, 1, none⟩ (.string u) w.heap.size (by show w.heap.size ≠ g; omega)).trans hr5; have q0 := blk_cell (k := 0) (v := .int .i64 x.user) hbW rfl; have q1 := blk_cell (k := 1) (v := .string u) hbW rfl; have q2 := blk_cell (k := 2) (v := .string x.path) hbW rfl; have q3 := blk_cell (k := 3) (v := .bool x.write) hbW rfl; obtain ⟨⟨s0, s1⟩, ⟨s2, s3⟩, ⟨s4, s5⟩, ⟨s6, s7⟩, s8, s9, s10, s11, gO⟩ := outFacts (.int .i64 x.user) (.string u) (.string x.path) (.bool x.write) hrW) | (go_at_call 23; refine (anyPath_any w4 rb (q + 1 + 1) 1 ad len cap zs hR4 (by omega) (by omega) (by omega) (by omega)).mono ?_; rintro e w5 ⟨u, p5, rfl, hu, hp5, hR5, hg5⟩; clear hR4; have hl5 := hg5.size; have hb5 := (hg5.block g hz4 (fun e => g1 (Option.some.inj e))).trans hb4; have hr5 := (hg5.block w.heap.size (by omega) (fun e => by cases e; omega)).trans hr4; clear hb4 hr4; have m0 := blk_cell (k := 2) (v := .string x.path) hb5 rfl; have m1 := blk_frozen (k := 2) hb5; have hbW := blk_set (k := 2) (v := .string u) hb5; have hrW := (Below.heap_setCell w5 ⟨g, 2, none⟩ (.string u) w.heap.size (by show w.heap.size ≠ g; omega)).trans hr5; have q0 := blk_cell (k := 0) (v := .int .i64 x.user) hbW rfl; have q1 := blk_cell (k := 1) (v := .string x.ref) hbW rfl; have q2 := blk_cell (k := 2) (v := .string u) hbW rfl; have q3 := blk_cell (k := 3) (v := .bool x.write) hbW rfl; obtain ⟨⟨s0, s1⟩, ⟨s2, s3⟩, ⟨s4, s5⟩, ⟨s6, s7⟩, s8, s9, s10, s11, gO⟩ := outFacts (.int .i64 x.user) (.string x.ref) (.string u) (.bool x.write) hrW))
  · try simp only [Exit.inBlock, Exit.then]
    refine bodyPost_ret (v := .agg #[.int .i64 x.user, .string x.ref, .string x.path, .bool x.write]) (by simp [results, Try.results25, go_sem, s8, s9, s10, s11]) rfl ?_
    exact ⟨x, q + 1, rfl, by omega, by omega, by omega, by omega, by omega, hR3.kept gO (fun r e => by cases e; omega) (by omega), gnew (gtrans hg2 hg3) gO (Nat.le_refl _)⟩
  · try simp only [Exit.inBlock, Exit.then]
    refine bodyPost_ret (v := .agg #[.int .i64 u, .string x.ref, .string x.path, .bool x.write]) (by simp [results, Try.results25, go_sem, s8, s9, s10, s11]) rfl ?_
    have G5 := gtrans (gtrans hg2 (gtrans hg3 hg4)) (gtrans (galloc _ _) hg5)
    have GW := gnew G5 (gset w5 g 0 (.int .i64 u)) (by omega)
    exact ⟨⟨u, x.ref, x.path, x.write⟩, q + 1 + 1 + 1, rfl, hu.1, hu.2, by show x.ref.size ≤ 64; omega, by show x.path.size ≤ 64; omega, by omega, (hR5.kept (gset w5 g 0 (.int .i64 u)) (fun r e => by cases e; omega) (by have := G5.size; omega)).kept gO (fun r e => by cases e; omega) (by have := GW.size; omega), gnew GW gO (Nat.le_refl _)⟩
  · try simp only [Exit.inBlock, Exit.then]
    refine bodyPost_ret (v := .agg #[.int .i64 x.user, .string u, .string x.path, .bool x.write]) (by simp [results, Try.results25, go_sem, s8, s9, s10, s11]) rfl ?_
    have G5 := gtrans (gtrans hg2 (gtrans hg3 hg4)) (gtrans (galloc _ _) hg5)
    have GW := gnew G5 (gset w5 g 1 (.string u)) (by omega)
    exact ⟨⟨x.user, u, x.path, x.write⟩, q + 1 + 1 + 1, rfl, by show -1 ≤ x.user; omega, by show x.user ≤ 5; omega, hu, by show x.path.size ≤ 64; omega, by omega, (hR5.kept (gset w5 g 1 (.string u)) (fun r e => by cases e; omega) (by have := G5.size; omega)).kept gO (fun r e => by cases e; omega) (by have := GW.size; omega), gnew GW gO (Nat.le_refl _)⟩
  · try simp only [Exit.inBlock, Exit.then]
    refine bodyPost_ret (v := .agg #[.int .i64 x.user, .string x.ref, .string u, .bool x.write]) (by simp [results, Try.results25, go_sem, s8, s9, s10, s11]) rfl ?_
    have G5 := gtrans (gtrans hg2 (gtrans hg3 hg4)) hg5
    have GW := gnew G5 (gset w5 g 2 (.string u)) (by omega)
    exact ⟨⟨x.user, x.ref, u, x.write⟩, p5, rfl, by show -1 ≤ x.user; omega, by show x.user ≤ 5; omega, by show x.ref.size ≤ 64; omega, hu, by omega, (hR5.kept (gset w5 g 2 (.string u)) (fun r e => by cases e; omega) (by have := G5.size; omega)).kept gO (fun r e => by cases e; omega) (by have := GW.size; omega), gnew GW gO (Nat.le_refl _)⟩
end Go.Proofs.Ytcdkjlbpcihcjaa.W
