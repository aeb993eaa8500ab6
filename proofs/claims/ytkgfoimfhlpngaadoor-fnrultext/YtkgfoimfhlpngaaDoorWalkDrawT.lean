
/-
  The draws of RulText and RulRead; what both readers answer of one text. No condition but those named.
-/
import Derived.Test.YtkgfoimfhlpngaaDoorWalkRule3
import Derived.Test.YtkgfoimfhlpngaaDoorWalkDraw5
import Derived.Test.YtkgfoimfhlpngaaDoorMathBlk
import Derived.Test.YtkgfoimfhlpngaaDoorWalkRulE
import Derived.Test.YtkgfoimfhlpngaaDoorWalkRulK
namespace Go.Proofs.YtkgfoimfhlpngaaDoor.W
open Go.RowKit Go.Proofs.YtkgfoimfhlpngaaDoor.M

theorem textB_size (x : RR) (h1 : x.ref.size ≤ 64) (h2 : x.path.size ≤ 64) : (textB x).size ≤ 150 := by
  unfold textB
  split
  · have k1 := dashB_size x.ref
    have k2 := dashB_size x.path
    have k3 : (digB x.user.toNat).size = 1 := rfl
    have k4 : spB.size = 1 := rfl
    have k5 : (wordB x.write).size ≤ 5 := by cases x.write <;> decide
    simp only [ByteArray.size_append]
    omega
  · show 0 ≤ _; omega
set_option maxRecDepth 100000 in
set_option maxHeartbeats 2000000 in
theorem drawRulText_any (w : World) (a : Option Addr) (len cap : Nat) (zs : Nat → Int) (h : W.Src w a len cap zs) :
    Calls Tryd.prog 8 #[.slice a len cap] w fun e w' => ∃ x : RR, e = .returned (.agg #[.int .i64 x.user, .string x.ref, .string x.path, .bool x.write]) ∧ x.ref.size ≤ 64 ∧ x.path.size ≤ 64 ∧ Below w.heap.size w w' := by
  have HS : Hid (W.Src (w.alloc (.cells #[.int .i64 0, .string ⟨#[]⟩, .string ⟨#[]⟩, .bool false] 23)) a len cap zs) := h.below ((Below.refl _ _).alloc (Nat.le_refl _) _)
  clear h
  have r0 : (w.alloc (.cells #[.int .i64 0, .string ⟨#[]⟩, .string ⟨#[]⟩, .bool false] 23)).heap[w.heap.size]? = some (.cells #[.int .i64 0, .string ⟨#[]⟩, .string ⟨#[]⟩, .bool false] 23 (0, 0)) := bkNew _ _
  go_enter Tryd.func8, Tryd.ntmps8
  go_wp2_with (first
    | (go_at_call 20; refine (open_any _ a len cap zs HS.out).mono ?_; rintro e w1 ⟨a', len', cap', rfl, hR1, hl1, hg1⟩; simp only [World.size_alloc] at hR1 hl1; have B1 : Below w.heap.size w w1 := ((Below.refl _ _).alloc (Nat.le_refl _) _).grown hg1 (by simp) (fun _ e => by cases e); have r1 := bkKept (rb := w.heap.size + 1) r0 (gweak hg1) (by omega); clear HS r0)
    | (go_at_call 19; refine (rule_any w1 (w.heap.size + 1) 4 0 a' len' cap' zs hR1 (by omega) hl1 (by omega) (by omega)).mono ?_; rintro e w2 ⟨x, p2, rfl, _, _, hx1, hx2, hp2, hR2, hg2⟩; have hz2 := hg2.size; have r2 := bkKept r1 hg2 (by omega); have B2 := B1.grown hg2 (by omega) (fun _ e => by cases e; omega); obtain ⟨⟨s0, s1⟩, ⟨s2, s3⟩, ⟨s4, s5⟩, ⟨s6, s7⟩, s8, s9, s10, s11, gs⟩ := outFacts (.int .i64 x.user) (.string x.ref) (.string x.path) (.bool x.write) r2))
  try simp only [Exit.inBlock, Exit.then]
  refine bodyPost_ret (v := .agg #[.int .i64 x.user, .string x.ref, .string x.path, .bool x.write]) (by simp [results, Tryd.results8, go_sem, s8, s9, s10, s11]) rfl ?_
  exact ⟨x, rfl, hx1, hx2, B2.grown gs (by omega) (fun _ e => by cases e; exact Nat.le_refl _)⟩
set_option maxRecDepth 100000 in
set_option maxHeartbeats 2000000 in
theorem drawRulRead_any (w : World) (a : Option Addr) (len cap : Nat) (zs : Nat → Int) (h : W.Src w a len cap zs) :
    Calls Tryd.prog 10 #[.slice a len cap] w fun e w' => ∃ t : ByteArray, e = .returned (.string t) ∧ t.size ≤ 200 ∧ Below w.heap.size w w' := by
  go_enter Tryd.func10, Tryd.ntmps10
  go_wp2_with (first
    | (go_at_call 20; refine (open_any _ a len cap zs h).mono ?_; rintro e w1 ⟨a', len', cap', rfl, hR1, hl1, hg1⟩; have B1 : Below w.heap.size w w1 := (Below.refl _ _).grown hg1 (Nat.le_refl _) (fun _ e => by cases e); clear hg1)
    | (go_at_call 19; refine (rule_any w1 w.heap.size 99 0 a' len' cap' zs hR1 (by omega) hl1 (by omega) (by omega)).mono ?_; rintro e w2 ⟨x, p2, rfl, _, _, hx1, hx2, hp2, hR2, hg2⟩; clear hR1; have hz2 := hg2.size; have B2 : Below w.heap.size w w2 := B1.grown hg2 (by omega) (fun _ e => by cases e; exact Nat.le_refl _); clear hg2)
    | (go_at_call 11; refine (rulText_spec x w2 (by omega) (by omega)).mono ?_; rintro e w3 ⟨rfl, hb3⟩; have hR3 := rdBelow hR2 hb3 (by omega); have hz3 := hb3.size; have B3 : Below w.heap.size w w3 := B2.trans (hb3.mono B2.size); clear hR2; obtain ⟨s, hse⟩ : ∃ s, s = textB x := ⟨_, rfl⟩; have hss : s.size ≤ 150 := (by rw [hse]; exact textB_size x hx1 hx2); rw [← hse]; clear hse)
    | (go_at_call 24; refine (pick_any w3 w.heap.size p2 a' len' cap' 2 zs hR3 (by omega) (by omega) (by omega)).mono ?_; rintro e w4 ⟨v4, hv4, rfl, hR4, hg4⟩; clear hR3; have B4 : Below w.heap.size w w4 := B3.grown hg4 (by omega) (fun _ e => by cases e; exact Nat.le_refl _); have hz4 := hg4.size; clear hg4)
    | (go_at_call 25; refine (bent_any w4 w.heap.size (p2 + 1) a' len' cap' zs s hR4 (by omega) (by omega) (by omega)).mono ?_; rintro e w5 ⟨t, rfl, ht, hg5⟩))
  · go_ret
    exact ⟨t, rfl, by omega, B4.grown hg5 (by omega) (fun _ e => by cases e; exact Nat.le_refl _)⟩
  · go_ret
    exact ⟨s, rfl, by omega, B4⟩
/-- both readers answer the same of one text; what is read has it -/
theorem readPairR (t : ByteArray) (ht : t.size ≤ 1048576) : ∃ (y : RR) (b : Bool),
    Hid (∀ w, Glo w → Calls Tryd.prog 6 #[.string t] w fun e w' => e = .returned (.tuple #[.agg #[.int .i64 y.user, .string y.ref, .string y.path, .bool y.write], .bool b]) ∧ Below w.heap.size w w') ∧
    Hid (∀ w, Calls Tryd.prog 5 #[.string t] w fun e w' => e = .returned (.tuple #[.agg #[.int .i64 y.user, .string y.ref, .string y.path, .bool y.write], .bool b]) ∧ Below w.heap.size w w') ∧
    Hid (b = true → textB y = t) ∧ y.ref.size ≤ 1048576 ∧ y.path.size ≤ 1048576 := by
  by_cases hx : ∃ x : RR, rulB x = true ∧ textB x = t
  · obtain ⟨x, hb, rfl⟩ := hx
    obtain ⟨f1, f2⟩ := fit_of x hb
    exact ⟨x, true, fun w G => rulRead_impl_some x hb w G, fun w => rulRead_spec_some x hb w, fun _ => rfl, f1, f2⟩
  · have hno : ∀ x : RR, rulB x = true → textB x ≠ t := fun x h e => hx ⟨x, h, e⟩
    exact ⟨⟨0, ⟨#[]⟩, ⟨#[]⟩, false⟩, false, fun w G => rulRead_impl_none t ht hno w G, fun w => rulRead_spec_none t ht hno w, (fun h => by cases h), Nat.zero_le _, Nat.zero_le _⟩
theorem text_zero : textB ⟨0, ⟨#[]⟩, ⟨#[]⟩, false⟩ = ⟨#[48, 32, 45, 32, 45, 32, 114, 101, 97, 100]⟩ := by
  unfold textB
  rw [if_pos (by decide)]
  apply ByteArray.ext
  simp [digB, spB, dashB, wordB]
end Go.Proofs.YtkgfoimfhlpngaaDoor.W
