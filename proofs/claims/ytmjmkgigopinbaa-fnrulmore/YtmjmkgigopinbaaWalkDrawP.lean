
/-
  The walks of the draws of rules and one more: some rules, at most eight, in memory of their own, and a rule, its texts of at most 64 bytes; of what lay nothing has turned.
-/
import Derived.Test.YtmjmkgigopinbaaSlotRP
import Derived.Test.YtmjmkgigopinbaaWalkDraw3
namespace Go.Proofs.Ytmjmkgigopinbaa.W
open Go.RowKit Go.Proofs.Ytmjmkgigopinbaa.M

theorem r0Kept {w1 w2 : World} {R rb : Nat} {o : Obj} (h : w1.heap[R]? = some o) (hg : w1.grownBy w2 (some rb)) (hne : R ≠ rb) : w2.heap[R]? = some o :=
  (hg.block R (Array.getElem?_eq_some_iff.1 h).1 (fun e => hne (Option.some.inj e))).trans h
set_option maxRecDepth 100000 in
set_option maxHeartbeats 4000000 in
theorem drawRulPut_any (w : World) (a : Option Addr) (len cap : Nat) (zs : Nat → Int) (h : Src w a len cap zs) :
    Calls Try.prog 14 #[.slice a len cap] w fun e w' => ∃ (v : Value) (L : List RR) (x : RR), e = .returned (.tuple #[v, .agg #[.int .i64 x.user, .string x.ref, .string x.path, .bool x.write]]) ∧ v ≠ .slice none 0 0 ∧ L.length ≤ 8 ∧ SmR L ∧ w'.ownsRow w.heap.size 32 4 v L.length (cellsR L) ∧ x.ref.size ≤ 64 ∧ x.path.size ≤ 64 ∧ Below w.heap.size w w' := by
  have HS : Hid (Src (w.alloc (.cells #[.int .i64 0, .string ⟨#[]⟩, .string ⟨#[]⟩, .bool false] 32)) a len cap zs) := h.below ((Below.refl _ _).alloc (Nat.le_refl _) _)
  clear h
  have r0 : (w.alloc (.cells #[.int .i64 0, .string ⟨#[]⟩, .string ⟨#[]⟩, .bool false] 32)).heap[w.heap.size]? = some (.cells #[.int .i64 0, .string ⟨#[]⟩, .string ⟨#[]⟩, .bool false] 32 (0, 0)) := blk_new _ _
  go_enter Try.func14, Try.ntmps14
  go_wp2_with (first
    | (go_at_call 27; refine (open_any _ a len cap zs HS.out).mono ?_; rintro e w1 ⟨a', len', cap', rfl, hR1, hl1, hg1⟩; simp only [World.size_alloc] at hR1 hl1; have B1 : Below w.heap.size w w1 := ((Below.refl _ _).alloc (Nat.le_refl _) _).grown hg1 (by simp) (fun _ e => by cases e); have r1 := r0Kept (rb := w.heap.size + 1) r0 (gweak hg1) (by omega); clear HS r0)
    | (go_at_call 28; refine (rules_any w1 (w.heap.size + 1) 9 0 a' len' cap' zs hR1 (by omega) hl1 (by omega) (by omega)).mono ?_; rintro e w2 ⟨v, L, q, rfl, h1, h2, h3, h4, hq, hR2, hg2⟩; have hs2 := hg2.size; obtain ⟨A, c, rfl, rd, hc⟩ := rdR_own_cap h4; have B2 := B1.grown hg2 (by omega) (fun _ e => by cases e; omega); have r2 := r0Kept r1 hg2 (by omega); clear hR1 B1 r1; rcases Nat.eq_zero_or_pos L.length with hL0 | hL0)
    | (go_at_call 29; refine (pick_any w2 (w.heap.size + 1) q a' len' cap' 4 zs hR2 (by omega) (by omega) (by omega)).mono ?_; rintro e w3 ⟨v3, hv3, rfl, hR3, hg3⟩; have hs3 := hg3.size; have hO3 := ownsRd h4 hl1 hg3; have B3 := B2.grown hg3 (by omega) (fun _ e => by cases e; omega); have r3 := r0Kept r2 hg3 (by omega); clear hR2 B2 r2 h4)
    | (go_at_call 38; refine (rule_any w3 (w.heap.size + 1) 6 (q + 1) a' len' cap' zs hR3 (by omega) (by omega) (by omega) (by omega)).mono ?_; rintro e w4 ⟨x, q4, rfl, u1, u2, x1, x2, hq4, hR4, hg4⟩; have hs4 := hg4.size; have hO4 := ownsRd hO3 hl1 hg4; have B4 := B3.grown hg4 (by omega) (fun _ e => by cases e; omega); have r4 := r0Kept r3 hg4 (by omega); obtain ⟨⟨s0, s1⟩, ⟨s2, s3⟩, ⟨s4, s5⟩, ⟨s6, s7⟩, s8, s9, s10, s11, gO⟩ := outFacts (.int .i64 x.user) (.string x.ref) (.string x.path) (.bool x.write) r4)
    | (go_at_call 38; refine (rule_any w2 (w.heap.size + 1) 6 q a' len' cap' zs hR2 (by omega) (by omega) (by omega) (by omega)).mono ?_; rintro e w4 ⟨x, q4, rfl, u1, u2, x1, x2, hq4, hR4, hg4⟩; have hs4 := hg4.size; have hO4 := ownsRd h4 hl1 hg4; have B4 := B2.grown hg4 (by omega) (fun _ e => by cases e; omega); have r4 := r0Kept r2 hg4 (by omega); obtain ⟨⟨s0, s1⟩, ⟨s2, s3⟩, ⟨s4, s5⟩, ⟨s6, s7⟩, s8, s9, s10, s11, gO⟩ := outFacts (.int .i64 x.user) (.string x.ref) (.string x.path) (.bool x.write) r4))
  · try simp only [Exit.inBlock, Exit.then]
    refine bodyPost_ret (v := .tuple #[.slice A L.length c, .agg #[.int .i64 x.user, .string x.ref, .string x.path, .bool x.write]]) (by simp [results, Try.results14, go_sem, s8, s9, s10, s11, hL0]) rfl ?_
    exact ⟨.slice A L.length c, L, x, rfl, h1, h2, h3, ownsDown (ownsRd (rb := w.heap.size) hO4 (by omega) gO) (by omega), x1, x2, B4.grown gO (by omega) (fun _ e => by cases e; exact Nat.le_refl _)⟩
  · rename_i K hK
    obtain ⟨b, o, rfl, _⟩ := rd 0 hL0
    refine frontRP (p := q + 1) (R := w.heap.size) (L := L) (by kernel_rfl) rfl rfl rfl rfl rfl hR3 (by omega) (by omega) hL0 (by omega) (fun w4 hg => by obtain ⟨A', c', e, rd'⟩ := rdR_of_own (ownsRd hO3 hl1 hg); cases e; exact rd') (fun w4 hg => r0Kept r3 hg (by omega)) ?_
    intro y w4 x hx hg4 r4
    obtain ⟨⟨s0, s1⟩, ⟨s2, s3⟩, ⟨s4, s5⟩, ⟨s6, s7⟩, s8, s9, s10, s11, gO⟩ := outFacts (.int .i64 x.user) (.string x.ref) (.string x.path) (.bool x.write) r4
    have hs4 := hg4.size
    have hO4 := ownsRd hO3 hl1 hg4
    have B4 := B3.grown hg4 (by omega) (fun _ e => by cases e; omega)
    obtain ⟨x1, x2⟩ := h3 x hx
    refine hK _ _ ?_
    clear hK
    go_wp2
    try simp only [Exit.inBlock, Exit.then]
    refine bodyPost_ret (v := .tuple #[.slice (some ⟨b, o, none⟩) L.length c, .agg #[.int .i64 x.user, .string x.ref, .string x.path, .bool x.write]]) (by simp [results, Try.results14, go_sem, s8, s9, s10, s11]) rfl ?_
    exact ⟨_, L, x, rfl, h1, h2, h3, ownsDown (ownsRd (rb := w.heap.size) hO4 (by omega) gO) (by omega), x1, x2, B4.grown gO (by omega) (fun _ e => by cases e; exact Nat.le_refl _)⟩
  · try simp only [Exit.inBlock, Exit.then]
    refine bodyPost_ret (v := .tuple #[.slice A L.length c, .agg #[.int .i64 x.user, .string x.ref, .string x.path, .bool x.write]]) (by simp [results, Try.results14, go_sem, s8, s9, s10, s11]) rfl ?_
    exact ⟨.slice A L.length c, L, x, rfl, h1, h2, h3, ownsDown (ownsRd (rb := w.heap.size) hO4 (by omega) gO) (by omega), x1, x2, B4.grown gO (by omega) (fun _ e => by cases e; exact Nat.le_refl _)⟩
set_option maxRecDepth 100000 in
set_option maxHeartbeats 4000000 in
theorem drawRulOut_any (w : World) (a : Option Addr) (len cap : Nat) (zs : Nat → Int) (h : Src w a len cap zs) :
    Calls Try.prog 21 #[.slice a len cap] w fun e w' => ∃ (v : Value) (L : List RR) (x : RR), e = .returned (.tuple #[v, .agg #[.int .i64 x.user, .string x.ref, .string x.path, .bool x.write]]) ∧ v ≠ .slice none 0 0 ∧ L.length ≤ 8 ∧ SmR L ∧ w'.ownsRow w.heap.size 32 4 v L.length (cellsR L) ∧ x.ref.size ≤ 64 ∧ x.path.size ≤ 64 ∧ Below w.heap.size w w' := by
  have HS : Hid (Src (w.alloc (.cells #[.int .i64 0, .string ⟨#[]⟩, .string ⟨#[]⟩, .bool false] 32)) a len cap zs) := h.below ((Below.refl _ _).alloc (Nat.le_refl _) _)
  clear h
  have r0 : (w.alloc (.cells #[.int .i64 0, .string ⟨#[]⟩, .string ⟨#[]⟩, .bool false] 32)).heap[w.heap.size]? = some (.cells #[.int .i64 0, .string ⟨#[]⟩, .string ⟨#[]⟩, .bool false] 32 (0, 0)) := blk_new _ _
  go_enter Try.func21, Try.ntmps21
  go_wp2_with (first
    | (go_at_call 27; refine (open_any _ a len cap zs HS.out).mono ?_; rintro e w1 ⟨a', len', cap', rfl, hR1, hl1, hg1⟩; simp only [World.size_alloc] at hR1 hl1; have B1 : Below w.heap.size w w1 := ((Below.refl _ _).alloc (Nat.le_refl _) _).grown hg1 (by simp) (fun _ e => by cases e); have r1 := r0Kept (rb := w.heap.size + 1) r0 (gweak hg1) (by omega); clear HS r0)
    | (go_at_call 28; refine (rules_any w1 (w.heap.size + 1) 9 0 a' len' cap' zs hR1 (by omega) hl1 (by omega) (by omega)).mono ?_; rintro e w2 ⟨v, L, q, rfl, h1, h2, h3, h4, hq, hR2, hg2⟩; have hs2 := hg2.size; obtain ⟨A, c, rfl, rd, hc⟩ := rdR_own_cap h4; have B2 := B1.grown hg2 (by omega) (fun _ e => by cases e; omega); have r2 := r0Kept r1 hg2 (by omega); clear hR1 B1 r1; rcases Nat.eq_zero_or_pos L.length with hL0 | hL0)
    | (go_at_call 29; refine (pick_any w2 (w.heap.size + 1) q a' len' cap' 2 zs hR2 (by omega) (by omega) (by omega)).mono ?_; rintro e w3 ⟨v3, hv3, rfl, hR3, hg3⟩; have hs3 := hg3.size; have hO3 := ownsRd h4 hl1 hg3; have B3 := B2.grown hg3 (by omega) (fun _ e => by cases e; omega); have r3 := r0Kept r2 hg3 (by omega); clear hR2 B2 r2 h4)
    | (go_at_call 38; refine (rule_any w3 (w.heap.size + 1) 6 (q + 1) a' len' cap' zs hR3 (by omega) (by omega) (by omega) (by omega)).mono ?_; rintro e w4 ⟨x, q4, rfl, u1, u2, x1, x2, hq4, hR4, hg4⟩; have hs4 := hg4.size; have hO4 := ownsRd hO3 hl1 hg4; have B4 := B3.grown hg4 (by omega) (fun _ e => by cases e; omega); have r4 := r0Kept r3 hg4 (by omega); obtain ⟨⟨s0, s1⟩, ⟨s2, s3⟩, ⟨s4, s5⟩, ⟨s6, s7⟩, s8, s9, s10, s11, gO⟩ := outFacts (.int .i64 x.user) (.string x.ref) (.string x.path) (.bool x.write) r4)
    | (go_at_call 38; refine (rule_any w2 (w.heap.size + 1) 6 q a' len' cap' zs hR2 (by omega) (by omega) (by omega) (by omega)).mono ?_; rintro e w4 ⟨x, q4, rfl, u1, u2, x1, x2, hq4, hR4, hg4⟩; have hs4 := hg4.size; have hO4 := ownsRd h4 hl1 hg4; have B4 := B2.grown hg4 (by omega) (fun _ e => by cases e; omega); have r4 := r0Kept r2 hg4 (by omega); obtain ⟨⟨s0, s1⟩, ⟨s2, s3⟩, ⟨s4, s5⟩, ⟨s6, s7⟩, s8, s9, s10, s11, gO⟩ := outFacts (.int .i64 x.user) (.string x.ref) (.string x.path) (.bool x.write) r4))
  · try simp only [Exit.inBlock, Exit.then]
    refine bodyPost_ret (v := .tuple #[.slice A L.length c, .agg #[.int .i64 x.user, .string x.ref, .string x.path, .bool x.write]]) (by simp [results, Try.results21, go_sem, s8, s9, s10, s11, hL0]) rfl ?_
    exact ⟨.slice A L.length c, L, x, rfl, h1, h2, h3, ownsDown (ownsRd (rb := w.heap.size) hO4 (by omega) gO) (by omega), x1, x2, B4.grown gO (by omega) (fun _ e => by cases e; exact Nat.le_refl _)⟩
  · rename_i K hK
    obtain ⟨b, o, rfl, _⟩ := rd 0 hL0
    refine frontRO (p := q + 1) (R := w.heap.size) (L := L) (by kernel_rfl) rfl rfl rfl rfl rfl hR3 (by omega) (by omega) hL0 (by omega) (fun w4 hg => by obtain ⟨A', c', e, rd'⟩ := rdR_of_own (ownsRd hO3 hl1 hg); cases e; exact rd') (fun w4 hg => r0Kept r3 hg (by omega)) ?_
    intro y w4 x hx hg4 r4
    obtain ⟨⟨s0, s1⟩, ⟨s2, s3⟩, ⟨s4, s5⟩, ⟨s6, s7⟩, s8, s9, s10, s11, gO⟩ := outFacts (.int .i64 x.user) (.string x.ref) (.string x.path) (.bool x.write) r4
    have hs4 := hg4.size
    have hO4 := ownsRd hO3 hl1 hg4
    have B4 := B3.grown hg4 (by omega) (fun _ e => by cases e; omega)
    obtain ⟨x1, x2⟩ := h3 x hx
    refine hK _ _ ?_
    clear hK
    go_wp2
    try simp only [Exit.inBlock, Exit.then]
    refine bodyPost_ret (v := .tuple #[.slice (some ⟨b, o, none⟩) L.length c, .agg #[.int .i64 x.user, .string x.ref, .string x.path, .bool x.write]]) (by simp [results, Try.results21, go_sem, s8, s9, s10, s11]) rfl ?_
    exact ⟨_, L, x, rfl, h1, h2, h3, ownsDown (ownsRd (rb := w.heap.size) hO4 (by omega) gO) (by omega), x1, x2, B4.grown gO (by omega) (fun _ e => by cases e; exact Nat.le_refl _)⟩
  · try simp only [Exit.inBlock, Exit.then]
    refine bodyPost_ret (v := .tuple #[.slice A L.length c, .agg #[.int .i64 x.user, .string x.ref, .string x.path, .bool x.write]]) (by simp [results, Try.results21, go_sem, s8, s9, s10, s11]) rfl ?_
    exact ⟨.slice A L.length c, L, x, rfl, h1, h2, h3, ownsDown (ownsRd (rb := w.heap.size) hO4 (by omega) gO) (by omega), x1, x2, B4.grown gO (by omega) (fun _ e => by cases e; exact Nat.le_refl _)⟩
end Go.Proofs.Ytmjmkgigopinbaa.W
