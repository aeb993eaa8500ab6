
/-
  RulRead of the program: the rule whose text it is, or nothing. Texts of at most 1048576 bytes; where package-level variables of Go's library hold an int and two errors. (Written by genrulr.py.)
-/
import Derived.Test.YtkgfoimfhlpngaaDoorWalkRulR
import Derived.Test.YtkgfoimfhlpngaaDoorMathSplt
namespace Go.Proofs.YtkgfoimfhlpngaaDoor.W
open Go.RowKit Go.Proofs.YtkgfoimfhlpngaaDoor.M
set_option linter.unusedVariables false

/-- what three variables of Go's library hold: some int, two errors -/
def Glo (w : World) : Prop := (∃ m, w.cell? ⟨2, 0, none⟩ = some (.int .i64 m)) ∧ (∃ t p, w.cell? ⟨0, 0, none⟩ = some (.iface t p)) ∧ ∃ t p, w.cell? ⟨1, 0, none⟩ = some (.iface t p)
theorem Glo.up {w w' : World} (h : Glo w) (hb : Below w.heap.size w w') : Glo w' := by
  obtain ⟨⟨m, h1⟩, ⟨t, p, h2⟩, t', p', h3⟩ := h
  exact ⟨⟨m, (hb.cell (World.block_lt_of_cell? _ _ h1)).trans h1⟩, ⟨t, p, (hb.cell (World.block_lt_of_cell? _ _ h2)).trans h2⟩, t', p', (hb.cell (World.block_lt_of_cell? _ _ h3)).trans h3⟩
set_option maxHeartbeats 400000 in
theorem unmarkEmpty_any (s : ByteArray) (w : World) : Calls Tryd.prog 18 #[.string s] w fun e w' => e = .returned (.string (noneB s)) ∧ w = w' := by
  by_cases h : s.data.toList = [45]
  · have z1 : (s.toList == [45]) = true := by rw [Lib.toList_data, h]; decide
    have e0 : noneB s = ⟨#[]⟩ := if_pos h
    rw [e0]
    clear h e0
    go_enter Tryd.func18, Tryd.ntmps18
    go_wp2
    go_ret
    exact ⟨rfl, rfl⟩
  · have z1 : (s.toList == [45]) = false := by rw [Lib.toList_data, beq_eq_false_iff_ne]; exact h
    have e0 : noneB s = s := if_neg h
    rw [e0]
    clear h e0
    go_enter Tryd.func18, Tryd.ntmps18
    go_wp2
    go_ret
    exact ⟨rfl, rfl⟩
theorem split4 (s : ByteArray) (a b c d : List UInt8) (w : World) (G : Glo w) (hs : s.size ≤ 200) (h : wds s.data.toList = [a, b, c, d]) :
    Calls Tryd.prog 16 #[.string s, .string ⟨#[32]⟩] w fun e w' => ∃ g cap, e = .returned (.slice (some ⟨g, 0, none⟩) 4 cap) ∧ At4 w' g a b c d ∧ Below w.heap.size w w' := by
  obtain ⟨⟨m, hm⟩, _⟩ := G
  refine (Tryd.strings_Split s ⟨#[32]⟩ m w (by omega) hm (by decide)).mono ?_
  rintro e w' ⟨rfl, rfl⟩
  have hc := cntB s
  rw [h] at hc
  have hc' : Lib.countB s ⟨#[32]⟩ + 1 = 4 := hc
  rw [hc', spB_wds, h]
  exact ⟨_, _, rfl, ⟨by simp, by simp, by simp, by simp, by simp⟩, (Below.refl _ _).alloc (Nat.le_refl _) _⟩
theorem splitN (s : ByteArray) (w : World) (G : Glo w) (hs : s.size ≤ 200) (h : (wds s.data.toList).length ≠ 4) :
    Calls Tryd.prog 16 #[.string s, .string ⟨#[32]⟩] w fun e w' => (∃ g n cap : Nat, e = .returned (.slice (some ⟨g, 0, none⟩) n cap) ∧ n ≠ 4 ∧ n ≤ 201) ∧ Below w.heap.size w w' := by
  obtain ⟨⟨m, hm⟩, _⟩ := G
  refine (Tryd.strings_Split s ⟨#[32]⟩ m w (by omega) hm (by decide)).mono ?_
  rintro e w' ⟨rfl, rfl⟩
  have hc := cntB s
  have hle := Lib.countB_le ⟨#[32]⟩ (by decide) s.size s (Nat.le_refl _)
  exact ⟨⟨_, _, _, rfl, by omega, by omega⟩, (Below.refl _ _).alloc (Nat.le_refl _) _⟩
/-- a word spells a number, or it doesn't -/
theorem atoi_cases (a : ByteArray) (ha : a.size ≤ 1048576) :
    (∃ v : Int, Lib.atoiAll a.data.toList = .ok v ∧ ∀ w, Calls Tryd.prog 17 #[.string a] w fun e w' => e = .returned (.tuple #[.int .i64 v, .nilIface]) ∧ Below w.heap.size w w') ∨
    ((∀ v, Lib.atoiAll a.data.toList ≠ .ok v) ∧ ∀ w, Glo w → Calls Tryd.prog 17 #[.string a] w fun e w' => (∃ z t p, e = .returned (.tuple #[.int .i64 z, .iface t p])) ∧ Below w.heap.size w w') := by
  cases h : Lib.atoiAll a.data.toList with
  | ok v =>
    refine .inl ⟨v, rfl, fun w => (Tryd.strconv_Atoi_ok a (by omega) v h w).mono ?_⟩
    rintro e w' ⟨rfl, rfl | ⟨t, rfl⟩⟩
    · exact ⟨rfl, Below.refl _ _⟩
    · exact ⟨rfl, Lib.bytesWorld_below _ _ _⟩
  | «syntax» =>
    refine .inr ⟨(fun v e => by cases e), fun w ⟨_, ⟨t, p, hv⟩, _⟩ => (Tryd.strconv_Atoi_syntax a (by omega) h _ w hv (.inr ⟨t, p, rfl⟩)).mono ?_⟩
    rintro e w' ⟨N, rfl, _, _, hb⟩
    exact ⟨⟨_, _, _, rfl⟩, hb⟩
  | range =>
    refine .inr ⟨(fun v e => by cases e), fun w ⟨_, _, t, p, hv⟩ => (Tryd.strconv_Atoi_range a (by omega) h _ w hv (.inr ⟨t, p, rfl⟩)).mono ?_⟩
    rintro e w' ⟨N, rfl, _, _, hb⟩
    exact ⟨⟨_, _, _, rfl⟩, hb⟩
set_option maxRecDepth 100000 in
set_option maxHeartbeats 4000000 in
theorem rdI_same (s T : ByteArray) (a b c d : List UInt8) (w : World) (G : Glo w) (hs : s.size ≤ 200) (n : Int) (p q : ByteArray) (v : Bool) (hp : noneB ⟨b.toArray⟩ = p) (hq : noneB ⟨c.toArray⟩ = q) (hv : decide (d = writeL) = v)
    (HW : Hid (∀ w, Glo w → Calls Tryd.prog 16 #[.string s, .string ⟨#[32]⟩] w fun e w' => ∃ g cap, e = .returned (.slice (some ⟨g, 0, none⟩) 4 cap) ∧ At4 w' g a b c d ∧ Below w.heap.size w w'))
    (HN : Hid (∀ w, Calls Tryd.prog 17 #[.string ⟨a.toArray⟩] w fun e w' => e = .returned (.tuple #[.int .i64 n, .nilIface]) ∧ Below w.heap.size w w'))
    (HX : Hid (∀ w, Calls Tryd.prog 9 #[.agg #[.int .i64 n, .string p, .string q, .bool v]] w fun e w' => e = .returned (.string s) ∧ Below w.heap.size w w')) :
    Calls Tryd.prog 6 #[.string s] w fun e w' => e = .returned (RuAns (some ⟨n, p, q, v⟩)) ∧ Below w.heap.size w w' := by
  obtain ⟨w0, hw0, H, B, HLT⟩ : ∃ w0, w.alloc (.cells #[.int .i64 0, .string ⟨#[]⟩, .string ⟨#[]⟩, .bool false] 23) = w0 ∧ AtC w0 w.heap.size #[.int .i64 0, .string ⟨#[]⟩, .string ⟨#[]⟩, .bool false] ∧ Below w.heap.size w w0 ∧ w.heap.size < w0.heap.size := ⟨_, rfl, atC_new w _ _, (Below.refl _ w).alloc (Nat.le_refl _) _, by simp⟩
  have r0 : w0.cell? ⟨w.heap.size, 0, none⟩ = some (.int .i64 0) := H.1 0 _ rfl; have f0 : w0.frozen? ⟨w.heap.size, 0, none⟩ = false := H.2 0; have r1 : w0.cell? ⟨w.heap.size, 1, none⟩ = some (.string ⟨#[]⟩) := H.1 1 _ rfl; have f1 : w0.frozen? ⟨w.heap.size, 1, none⟩ = false := H.2 1; have r2 : w0.cell? ⟨w.heap.size, 2, none⟩ = some (.string ⟨#[]⟩) := H.1 2 _ rfl; have f2 : w0.frozen? ⟨w.heap.size, 2, none⟩ = false := H.2 2; have r3 : w0.cell? ⟨w.heap.size, 3, none⟩ = some (.bool false) := H.1 3 _ rfl; have f3 : w0.frozen? ⟨w.heap.size, 3, none⟩ = false := H.2 3
  replace G := G.up B
  go_enter Tryd.func6, Tryd.ntmps6
  go_wp2_with (first
    | (go_at_call 16; refine (HW.out _ G).mono ?_; rintro e w1 ⟨g, cap, rfl, A4, hb⟩; replace G := G.up hb; clear r0 r1 r2 r3 f0 f1 f2 f3; replace H := H.up hb HLT; replace HLT := Nat.lt_of_lt_of_le HLT hb.size; replace B := B.trans (hb.mono B.size); clear hb; have r0 : w1.cell? ⟨w.heap.size, 0, none⟩ = some (.int .i64 0) := H.1 0 _ rfl; have f0 : w1.frozen? ⟨w.heap.size, 0, none⟩ = false := H.2 0; have r1 : w1.cell? ⟨w.heap.size, 1, none⟩ = some (.string ⟨#[]⟩) := H.1 1 _ rfl; have f1 : w1.frozen? ⟨w.heap.size, 1, none⟩ = false := H.2 1; have r2 : w1.cell? ⟨w.heap.size, 2, none⟩ = some (.string ⟨#[]⟩) := H.1 2 _ rfl; have f2 : w1.frozen? ⟨w.heap.size, 2, none⟩ = false := H.2 2; have r3 : w1.cell? ⟨w.heap.size, 3, none⟩ = some (.bool false) := H.1 3 _ rfl; have f3 : w1.frozen? ⟨w.heap.size, 3, none⟩ = false := H.2 3; obtain ⟨A0, A1, A2, A3, A5⟩ := A4)
    | (go_at_call 17; refine (HN.out _).mono ?_; rintro e w2 ⟨rfl, hb⟩; have B0 := Nat.lt_of_lt_of_le A0 hb.size; replace A1 := (hb.cell (p := ⟨g, 0, none⟩) A0).trans A1; replace A2 := (hb.cell (p := ⟨g, 1, none⟩) A0).trans A2; replace A3 := (hb.cell (p := ⟨g, 2, none⟩) A0).trans A3; replace A5 := (hb.cell (p := ⟨g, 3, none⟩) A0).trans A5; clear A0; clear r0 r1 r2 r3 f0 f1 f2 f3; replace H := H.up hb HLT; replace HLT := Nat.lt_of_lt_of_le HLT hb.size; replace B := B.trans (hb.mono B.size); clear hb; have r0 : w2.cell? ⟨w.heap.size, 0, none⟩ = some (.int .i64 0) := H.1 0 _ rfl; have f0 : w2.frozen? ⟨w.heap.size, 0, none⟩ = false := H.2 0; have r1 : w2.cell? ⟨w.heap.size, 1, none⟩ = some (.string ⟨#[]⟩) := H.1 1 _ rfl; have f1 : w2.frozen? ⟨w.heap.size, 1, none⟩ = false := H.2 1; have r2 : w2.cell? ⟨w.heap.size, 2, none⟩ = some (.string ⟨#[]⟩) := H.1 2 _ rfl; have f2 : w2.frozen? ⟨w.heap.size, 2, none⟩ = false := H.2 2; have r3 : w2.cell? ⟨w.heap.size, 3, none⟩ = some (.bool false) := H.1 3 _ rfl; have f3 : w2.frozen? ⟨w.heap.size, 3, none⟩ = false := H.2 3))
  rename_i K hK
  refine frontIR (g := g) (c := cap) (R := w.heap.size) (s := s) (N := fun m => m = n) (wa := a) (wb := b) (wc := c) (wd := d) (n0 := n) (by kernel_rfl) rfl rfl rfl rfl rfl rfl (fun s w1 => unmarkEmpty_any s w1) rfl B0 A1 A2 A3 A5 ?_
  intro y w3 k n' hn' hb hk1 KLT K2
  obtain rfl := hn'
  rw [hp, hq, hv] at K2
  clear r0 r1 r2 r3 f0 f1 f2 f3; replace H := H.up hb HLT; replace HLT := Nat.lt_of_lt_of_le HLT hb.size; replace B := B.trans (hb.mono B.size); clear hb; have r0 : w3.cell? ⟨w.heap.size, 0, none⟩ = some (.int .i64 0) := H.1 0 _ rfl; have f0 : w3.frozen? ⟨w.heap.size, 0, none⟩ = false := H.2 0; have r1 : w3.cell? ⟨w.heap.size, 1, none⟩ = some (.string ⟨#[]⟩) := H.1 1 _ rfl; have f1 : w3.frozen? ⟨w.heap.size, 1, none⟩ = false := H.2 1; have r2 : w3.cell? ⟨w.heap.size, 2, none⟩ = some (.string ⟨#[]⟩) := H.1 2 _ rfl; have f2 : w3.frozen? ⟨w.heap.size, 2, none⟩ = false := H.2 2; have r3 : w3.cell? ⟨w.heap.size, 3, none⟩ = some (.bool false) := H.1 3 _ rfl; have f3 : w3.frozen? ⟨w.heap.size, 3, none⟩ = false := H.2 3
  have e0 : w3.cell? ⟨k, 0, none⟩ = some (.int .i64 n') := K2.1 0 _ rfl; have e1 : w3.cell? ⟨k, 1, none⟩ = some (.string p) := K2.1 1 _ rfl; have e2 : w3.cell? ⟨k, 2, none⟩ = some (.string q) := K2.1 2 _ rfl; have e3 : w3.cell? ⟨k, 3, none⟩ = some (.bool v) := K2.1 3 _ rfl
  clear A1 A2 A3 A5 B0
  refine hK _ _ ?_
  clear hK HW HN
  go_wp2_with (go_at_call 9; refine (HX.out _).mono ?_; rintro e w4 ⟨rfl, hb⟩; clear e0 e1 e2 e3; replace K2 := K2.up hb KLT; replace KLT := Nat.lt_of_lt_of_le KLT hb.size; clear r0 r1 r2 r3 f0 f1 f2 f3; replace H := H.up hb HLT; replace HLT := Nat.lt_of_lt_of_le HLT hb.size; replace B := B.trans (hb.mono B.size); clear hb; have r0 : w4.cell? ⟨w.heap.size, 0, none⟩ = some (.int .i64 0) := H.1 0 _ rfl; have f0 : w4.frozen? ⟨w.heap.size, 0, none⟩ = false := H.2 0; have r1 : w4.cell? ⟨w.heap.size, 1, none⟩ = some (.string ⟨#[]⟩) := H.1 1 _ rfl; have f1 : w4.frozen? ⟨w.heap.size, 1, none⟩ = false := H.2 1; have r2 : w4.cell? ⟨w.heap.size, 2, none⟩ = some (.string ⟨#[]⟩) := H.1 2 _ rfl; have f2 : w4.frozen? ⟨w.heap.size, 2, none⟩ = false := H.2 2; have r3 : w4.cell? ⟨w.heap.size, 3, none⟩ = some (.bool false) := H.1 3 _ rfl; have f3 : w4.frozen? ⟨w.heap.size, 3, none⟩ = false := H.2 3; have e0 : w4.cell? ⟨k, 0, none⟩ = some (.int .i64 n') := K2.1 0 _ rfl; have e1 : w4.cell? ⟨k, 1, none⟩ = some (.string p) := K2.1 1 _ rfl; have e2 : w4.cell? ⟨k, 2, none⟩ = some (.string q) := K2.1 2 _ rfl; have e3 : w4.cell? ⟨k, 3, none⟩ = some (.bool v) := K2.1 3 _ rfl)
  have K := ((((H.own 0 (.int .i64 n')).own 1 (.string p)).own 2 (.string q)).own 3 (.bool v))
  have k0 := K.1 0 _ rfl
  have k1 := K.1 1 _ rfl
  have k2 := K.1 2 _ rfl
  have k3 := K.1 3 _ rfl
  refine bodyPost_ret (v := .tuple #[.agg #[.int .i64 n', .string p, .string q, .bool v], .bool true]) (by simp [results, Tryd.results6, go_sem, k0, k1, k2, k3]) rfl ?_
  refine ⟨rfl, ?_⟩
  repeat (refine Below.setCell ?_ (by first | (simp; done) | omega) _)
  exact B
set_option maxRecDepth 100000 in
set_option maxHeartbeats 4000000 in
theorem rdI_other (s T : ByteArray) (a b c d : List UInt8) (w : World) (G : Glo w) (hs : s.size ≤ 200) (n : Int) (p q : ByteArray) (v : Bool) (hp : noneB ⟨b.toArray⟩ = p) (hq : noneB ⟨c.toArray⟩ = q) (hv : decide (d = writeL) = v)
    (HW : Hid (∀ w, Glo w → Calls Tryd.prog 16 #[.string s, .string ⟨#[32]⟩] w fun e w' => ∃ g cap, e = .returned (.slice (some ⟨g, 0, none⟩) 4 cap) ∧ At4 w' g a b c d ∧ Below w.heap.size w w'))
    (HN : Hid (∀ w, Calls Tryd.prog 17 #[.string ⟨a.toArray⟩] w fun e w' => e = .returned (.tuple #[.int .i64 n, .nilIface]) ∧ Below w.heap.size w w'))
    (HX : Hid (∀ w, Calls Tryd.prog 9 #[.agg #[.int .i64 n, .string p, .string q, .bool v]] w fun e w' => e = .returned (.string T) ∧ Below w.heap.size w w')) (hn : (T.toList == s.toList) = false) :
    Calls Tryd.prog 6 #[.string s] w fun e w' => e = .returned (RuAns (none)) ∧ Below w.heap.size w w' := by
  obtain ⟨w0, hw0, H, B, HLT⟩ : ∃ w0, w.alloc (.cells #[.int .i64 0, .string ⟨#[]⟩, .string ⟨#[]⟩, .bool false] 23) = w0 ∧ AtC w0 w.heap.size #[.int .i64 0, .string ⟨#[]⟩, .string ⟨#[]⟩, .bool false] ∧ Below w.heap.size w w0 ∧ w.heap.size < w0.heap.size := ⟨_, rfl, atC_new w _ _, (Below.refl _ w).alloc (Nat.le_refl _) _, by simp⟩
  have r0 : w0.cell? ⟨w.heap.size, 0, none⟩ = some (.int .i64 0) := H.1 0 _ rfl; have f0 : w0.frozen? ⟨w.heap.size, 0, none⟩ = false := H.2 0; have r1 : w0.cell? ⟨w.heap.size, 1, none⟩ = some (.string ⟨#[]⟩) := H.1 1 _ rfl; have f1 : w0.frozen? ⟨w.heap.size, 1, none⟩ = false := H.2 1; have r2 : w0.cell? ⟨w.heap.size, 2, none⟩ = some (.string ⟨#[]⟩) := H.1 2 _ rfl; have f2 : w0.frozen? ⟨w.heap.size, 2, none⟩ = false := H.2 2; have r3 : w0.cell? ⟨w.heap.size, 3, none⟩ = some (.bool false) := H.1 3 _ rfl; have f3 : w0.frozen? ⟨w.heap.size, 3, none⟩ = false := H.2 3
  replace G := G.up B
  go_enter Tryd.func6, Tryd.ntmps6
  go_wp2_with (first
    | (go_at_call 16; refine (HW.out _ G).mono ?_; rintro e w1 ⟨g, cap, rfl, A4, hb⟩; replace G := G.up hb; clear r0 r1 r2 r3 f0 f1 f2 f3; replace H := H.up hb HLT; replace HLT := Nat.lt_of_lt_of_le HLT hb.size; replace B := B.trans (hb.mono B.size); clear hb; have r0 : w1.cell? ⟨w.heap.size, 0, none⟩ = some (.int .i64 0) := H.1 0 _ rfl; have f0 : w1.frozen? ⟨w.heap.size, 0, none⟩ = false := H.2 0; have r1 : w1.cell? ⟨w.heap.size, 1, none⟩ = some (.string ⟨#[]⟩) := H.1 1 _ rfl; have f1 : w1.frozen? ⟨w.heap.size, 1, none⟩ = false := H.2 1; have r2 : w1.cell? ⟨w.heap.size, 2, none⟩ = some (.string ⟨#[]⟩) := H.1 2 _ rfl; have f2 : w1.frozen? ⟨w.heap.size, 2, none⟩ = false := H.2 2; have r3 : w1.cell? ⟨w.heap.size, 3, none⟩ = some (.bool false) := H.1 3 _ rfl; have f3 : w1.frozen? ⟨w.heap.size, 3, none⟩ = false := H.2 3; obtain ⟨A0, A1, A2, A3, A5⟩ := A4)
    | (go_at_call 17; refine (HN.out _).mono ?_; rintro e w2 ⟨rfl, hb⟩; have B0 := Nat.lt_of_lt_of_le A0 hb.size; replace A1 := (hb.cell (p := ⟨g, 0, none⟩) A0).trans A1; replace A2 := (hb.cell (p := ⟨g, 1, none⟩) A0).trans A2; replace A3 := (hb.cell (p := ⟨g, 2, none⟩) A0).trans A3; replace A5 := (hb.cell (p := ⟨g, 3, none⟩) A0).trans A5; clear A0; clear r0 r1 r2 r3 f0 f1 f2 f3; replace H := H.up hb HLT; replace HLT := Nat.lt_of_lt_of_le HLT hb.size; replace B := B.trans (hb.mono B.size); clear hb; have r0 : w2.cell? ⟨w.heap.size, 0, none⟩ = some (.int .i64 0) := H.1 0 _ rfl; have f0 : w2.frozen? ⟨w.heap.size, 0, none⟩ = false := H.2 0; have r1 : w2.cell? ⟨w.heap.size, 1, none⟩ = some (.string ⟨#[]⟩) := H.1 1 _ rfl; have f1 : w2.frozen? ⟨w.heap.size, 1, none⟩ = false := H.2 1; have r2 : w2.cell? ⟨w.heap.size, 2, none⟩ = some (.string ⟨#[]⟩) := H.1 2 _ rfl; have f2 : w2.frozen? ⟨w.heap.size, 2, none⟩ = false := H.2 2; have r3 : w2.cell? ⟨w.heap.size, 3, none⟩ = some (.bool false) := H.1 3 _ rfl; have f3 : w2.frozen? ⟨w.heap.size, 3, none⟩ = false := H.2 3))
  rename_i K hK
  refine frontIR (g := g) (c := cap) (R := w.heap.size) (s := s) (N := fun m => m = n) (wa := a) (wb := b) (wc := c) (wd := d) (n0 := n) (by kernel_rfl) rfl rfl rfl rfl rfl rfl (fun s w1 => unmarkEmpty_any s w1) rfl B0 A1 A2 A3 A5 ?_
  intro y w3 k n' hn' hb hk1 KLT K2
  obtain rfl := hn'
  rw [hp, hq, hv] at K2
  clear r0 r1 r2 r3 f0 f1 f2 f3; replace H := H.up hb HLT; replace HLT := Nat.lt_of_lt_of_le HLT hb.size; replace B := B.trans (hb.mono B.size); clear hb; have r0 : w3.cell? ⟨w.heap.size, 0, none⟩ = some (.int .i64 0) := H.1 0 _ rfl; have f0 : w3.frozen? ⟨w.heap.size, 0, none⟩ = false := H.2 0; have r1 : w3.cell? ⟨w.heap.size, 1, none⟩ = some (.string ⟨#[]⟩) := H.1 1 _ rfl; have f1 : w3.frozen? ⟨w.heap.size, 1, none⟩ = false := H.2 1; have r2 : w3.cell? ⟨w.heap.size, 2, none⟩ = some (.string ⟨#[]⟩) := H.1 2 _ rfl; have f2 : w3.frozen? ⟨w.heap.size, 2, none⟩ = false := H.2 2; have r3 : w3.cell? ⟨w.heap.size, 3, none⟩ = some (.bool false) := H.1 3 _ rfl; have f3 : w3.frozen? ⟨w.heap.size, 3, none⟩ = false := H.2 3
  have e0 : w3.cell? ⟨k, 0, none⟩ = some (.int .i64 n') := K2.1 0 _ rfl; have e1 : w3.cell? ⟨k, 1, none⟩ = some (.string p) := K2.1 1 _ rfl; have e2 : w3.cell? ⟨k, 2, none⟩ = some (.string q) := K2.1 2 _ rfl; have e3 : w3.cell? ⟨k, 3, none⟩ = some (.bool v) := K2.1 3 _ rfl
  clear A1 A2 A3 A5 B0
  refine hK _ _ ?_
  clear hK HW HN
  go_wp2_with (go_at_call 9; refine (HX.out _).mono ?_; rintro e w4 ⟨rfl, hb⟩; clear e0 e1 e2 e3; replace K2 := K2.up hb KLT; replace KLT := Nat.lt_of_lt_of_le KLT hb.size; clear r0 r1 r2 r3 f0 f1 f2 f3; replace H := H.up hb HLT; replace HLT := Nat.lt_of_lt_of_le HLT hb.size; replace B := B.trans (hb.mono B.size); clear hb; have r0 : w4.cell? ⟨w.heap.size, 0, none⟩ = some (.int .i64 0) := H.1 0 _ rfl; have f0 : w4.frozen? ⟨w.heap.size, 0, none⟩ = false := H.2 0; have r1 : w4.cell? ⟨w.heap.size, 1, none⟩ = some (.string ⟨#[]⟩) := H.1 1 _ rfl; have f1 : w4.frozen? ⟨w.heap.size, 1, none⟩ = false := H.2 1; have r2 : w4.cell? ⟨w.heap.size, 2, none⟩ = some (.string ⟨#[]⟩) := H.1 2 _ rfl; have f2 : w4.frozen? ⟨w.heap.size, 2, none⟩ = false := H.2 2; have r3 : w4.cell? ⟨w.heap.size, 3, none⟩ = some (.bool false) := H.1 3 _ rfl; have f3 : w4.frozen? ⟨w.heap.size, 3, none⟩ = false := H.2 3; have e0 : w4.cell? ⟨k, 0, none⟩ = some (.int .i64 n') := K2.1 0 _ rfl; have e1 : w4.cell? ⟨k, 1, none⟩ = some (.string p) := K2.1 1 _ rfl; have e2 : w4.cell? ⟨k, 2, none⟩ = some (.string q) := K2.1 2 _ rfl; have e3 : w4.cell? ⟨k, 3, none⟩ = some (.bool v) := K2.1 3 _ rfl)
  have K := ((((H.own 0 (.int .i64 0)).own 1 (.string ⟨#[]⟩)).own 2 (.string ⟨#[]⟩)).own 3 (.bool false))
  have k0 := K.1 0 _ rfl
  have k1 := K.1 1 _ rfl
  have k2 := K.1 2 _ rfl
  have k3 := K.1 3 _ rfl
  refine bodyPost_ret (v := .tuple #[.agg #[.int .i64 0, .string ⟨#[]⟩, .string ⟨#[]⟩, .bool false], .bool false]) (by simp [results, Tryd.results6, go_sem, k0, k1, k2, k3]) rfl ?_
  refine ⟨rfl, ?_⟩
  repeat (refine Below.setCell ?_ (by first | (simp; done) | omega) _)
  exact B
set_option maxRecDepth 100000 in
set_option maxHeartbeats 4000000 in
theorem rdI_err (s : ByteArray) (a b c d : List UInt8) (w : World) (G : Glo w) (hs : s.size ≤ 200)
    (HW : Hid (∀ w, Glo w → Calls Tryd.prog 16 #[.string s, .string ⟨#[32]⟩] w fun e w' => ∃ g cap, e = .returned (.slice (some ⟨g, 0, none⟩) 4 cap) ∧ At4 w' g a b c d ∧ Below w.heap.size w w'))
    (HN : Hid (∀ w, Glo w → Calls Tryd.prog 17 #[.string ⟨a.toArray⟩] w fun e w' => (∃ z t p, e = .returned (.tuple #[.int .i64 z, .iface t p])) ∧ Below w.heap.size w w')) :
    Calls Tryd.prog 6 #[.string s] w fun e w' => e = .returned (RuAns none) ∧ Below w.heap.size w w' := by
  obtain ⟨w0, hw0, H, B, HLT⟩ : ∃ w0, w.alloc (.cells #[.int .i64 0, .string ⟨#[]⟩, .string ⟨#[]⟩, .bool false] 23) = w0 ∧ AtC w0 w.heap.size #[.int .i64 0, .string ⟨#[]⟩, .string ⟨#[]⟩, .bool false] ∧ Below w.heap.size w w0 ∧ w.heap.size < w0.heap.size := ⟨_, rfl, atC_new w _ _, (Below.refl _ w).alloc (Nat.le_refl _) _, by simp⟩
  have r0 : w0.cell? ⟨w.heap.size, 0, none⟩ = some (.int .i64 0) := H.1 0 _ rfl; have f0 : w0.frozen? ⟨w.heap.size, 0, none⟩ = false := H.2 0; have r1 : w0.cell? ⟨w.heap.size, 1, none⟩ = some (.string ⟨#[]⟩) := H.1 1 _ rfl; have f1 : w0.frozen? ⟨w.heap.size, 1, none⟩ = false := H.2 1; have r2 : w0.cell? ⟨w.heap.size, 2, none⟩ = some (.string ⟨#[]⟩) := H.1 2 _ rfl; have f2 : w0.frozen? ⟨w.heap.size, 2, none⟩ = false := H.2 2; have r3 : w0.cell? ⟨w.heap.size, 3, none⟩ = some (.bool false) := H.1 3 _ rfl; have f3 : w0.frozen? ⟨w.heap.size, 3, none⟩ = false := H.2 3
  replace G := G.up B
  go_enter Tryd.func6, Tryd.ntmps6
  go_wp2_with (first
    | (go_at_call 16; refine (HW.out _ G).mono ?_; rintro e w1 ⟨g, cap, rfl, A4, hb⟩; replace G := G.up hb; clear r0 r1 r2 r3 f0 f1 f2 f3; replace H := H.up hb HLT; replace HLT := Nat.lt_of_lt_of_le HLT hb.size; replace B := B.trans (hb.mono B.size); clear hb; have r0 : w1.cell? ⟨w.heap.size, 0, none⟩ = some (.int .i64 0) := H.1 0 _ rfl; have f0 : w1.frozen? ⟨w.heap.size, 0, none⟩ = false := H.2 0; have r1 : w1.cell? ⟨w.heap.size, 1, none⟩ = some (.string ⟨#[]⟩) := H.1 1 _ rfl; have f1 : w1.frozen? ⟨w.heap.size, 1, none⟩ = false := H.2 1; have r2 : w1.cell? ⟨w.heap.size, 2, none⟩ = some (.string ⟨#[]⟩) := H.1 2 _ rfl; have f2 : w1.frozen? ⟨w.heap.size, 2, none⟩ = false := H.2 2; have r3 : w1.cell? ⟨w.heap.size, 3, none⟩ = some (.bool false) := H.1 3 _ rfl; have f3 : w1.frozen? ⟨w.heap.size, 3, none⟩ = false := H.2 3; obtain ⟨A0, A1, A2, A3, A5⟩ := A4)
    | (go_at_call 17; refine (HN.out _ G).mono ?_; rintro e w2 ⟨⟨z, t, p, rfl⟩, hb⟩; clear A0 A1 A2 A3 A5; clear r0 r1 r2 r3 f0 f1 f2 f3; replace H := H.up hb HLT; replace HLT := Nat.lt_of_lt_of_le HLT hb.size; replace B := B.trans (hb.mono B.size); clear hb; have r0 : w2.cell? ⟨w.heap.size, 0, none⟩ = some (.int .i64 0) := H.1 0 _ rfl; have f0 : w2.frozen? ⟨w.heap.size, 0, none⟩ = false := H.2 0; have r1 : w2.cell? ⟨w.heap.size, 1, none⟩ = some (.string ⟨#[]⟩) := H.1 1 _ rfl; have f1 : w2.frozen? ⟨w.heap.size, 1, none⟩ = false := H.2 1; have r2 : w2.cell? ⟨w.heap.size, 2, none⟩ = some (.string ⟨#[]⟩) := H.1 2 _ rfl; have f2 : w2.frozen? ⟨w.heap.size, 2, none⟩ = false := H.2 2; have r3 : w2.cell? ⟨w.heap.size, 3, none⟩ = some (.bool false) := H.1 3 _ rfl; have f3 : w2.frozen? ⟨w.heap.size, 3, none⟩ = false := H.2 3))
  have K := ((((H.own 0 (.int .i64 0)).own 1 (.string ⟨#[]⟩)).own 2 (.string ⟨#[]⟩)).own 3 (.bool false))
  have k0 := K.1 0 _ rfl
  have k1 := K.1 1 _ rfl
  have k2 := K.1 2 _ rfl
  have k3 := K.1 3 _ rfl
  refine bodyPost_ret (v := .tuple #[.agg #[.int .i64 0, .string ⟨#[]⟩, .string ⟨#[]⟩, .bool false], .bool false]) (by simp [results, Tryd.results6, go_sem, k0, k1, k2, k3]) rfl ?_
  refine ⟨rfl, ?_⟩
  repeat (refine Below.setCell ?_ (by first | (simp; done) | omega) _)
  exact B
set_option maxRecDepth 100000 in
set_option maxHeartbeats 4000000 in
theorem rdI_few (s : ByteArray) (w : World) (G : Glo w) (hs : s.size ≤ 200)
    (HW : Hid (∀ w, Glo w → Calls Tryd.prog 16 #[.string s, .string ⟨#[32]⟩] w fun e w' => (∃ g n cap : Nat, e = .returned (.slice (some ⟨g, 0, none⟩) n cap) ∧ n ≠ 4 ∧ n ≤ 201) ∧ Below w.heap.size w w')) :
    Calls Tryd.prog 6 #[.string s] w fun e w' => e = .returned (RuAns none) ∧ Below w.heap.size w w' := by
  obtain ⟨w0, hw0, H, B, HLT⟩ : ∃ w0, w.alloc (.cells #[.int .i64 0, .string ⟨#[]⟩, .string ⟨#[]⟩, .bool false] 23) = w0 ∧ AtC w0 w.heap.size #[.int .i64 0, .string ⟨#[]⟩, .string ⟨#[]⟩, .bool false] ∧ Below w.heap.size w w0 ∧ w.heap.size < w0.heap.size := ⟨_, rfl, atC_new w _ _, (Below.refl _ w).alloc (Nat.le_refl _) _, by simp⟩
  have r0 : w0.cell? ⟨w.heap.size, 0, none⟩ = some (.int .i64 0) := H.1 0 _ rfl; have f0 : w0.frozen? ⟨w.heap.size, 0, none⟩ = false := H.2 0; have r1 : w0.cell? ⟨w.heap.size, 1, none⟩ = some (.string ⟨#[]⟩) := H.1 1 _ rfl; have f1 : w0.frozen? ⟨w.heap.size, 1, none⟩ = false := H.2 1; have r2 : w0.cell? ⟨w.heap.size, 2, none⟩ = some (.string ⟨#[]⟩) := H.1 2 _ rfl; have f2 : w0.frozen? ⟨w.heap.size, 2, none⟩ = false := H.2 2; have r3 : w0.cell? ⟨w.heap.size, 3, none⟩ = some (.bool false) := H.1 3 _ rfl; have f3 : w0.frozen? ⟨w.heap.size, 3, none⟩ = false := H.2 3
  replace G := G.up B
  go_enter Tryd.func6, Tryd.ntmps6
  go_wp2_with (go_at_call 16; refine (HW.out _ G).mono ?_; rintro e w1 ⟨⟨g, n, cap, rfl, hn4, hn⟩, hb⟩; have hne : ((n : Int) != 4) = true := (by simp; omega); clear r0 r1 r2 r3 f0 f1 f2 f3; replace H := H.up hb HLT; replace HLT := Nat.lt_of_lt_of_le HLT hb.size; replace B := B.trans (hb.mono B.size); clear hb; have r0 : w1.cell? ⟨w.heap.size, 0, none⟩ = some (.int .i64 0) := H.1 0 _ rfl; have f0 : w1.frozen? ⟨w.heap.size, 0, none⟩ = false := H.2 0; have r1 : w1.cell? ⟨w.heap.size, 1, none⟩ = some (.string ⟨#[]⟩) := H.1 1 _ rfl; have f1 : w1.frozen? ⟨w.heap.size, 1, none⟩ = false := H.2 1; have r2 : w1.cell? ⟨w.heap.size, 2, none⟩ = some (.string ⟨#[]⟩) := H.1 2 _ rfl; have f2 : w1.frozen? ⟨w.heap.size, 2, none⟩ = false := H.2 2; have r3 : w1.cell? ⟨w.heap.size, 3, none⟩ = some (.bool false) := H.1 3 _ rfl; have f3 : w1.frozen? ⟨w.heap.size, 3, none⟩ = false := H.2 3)
  have K := ((((H.own 0 (.int .i64 0)).own 1 (.string ⟨#[]⟩)).own 2 (.string ⟨#[]⟩)).own 3 (.bool false))
  have k0 := K.1 0 _ rfl
  have k1 := K.1 1 _ rfl
  have k2 := K.1 2 _ rfl
  have k3 := K.1 3 _ rfl
  refine bodyPost_ret (v := .tuple #[.agg #[.int .i64 0, .string ⟨#[]⟩, .string ⟨#[]⟩, .bool false], .bool false]) (by simp [results, Tryd.results6, go_sem, k0, k1, k2, k3]) rfl ?_
  refine ⟨rfl, ?_⟩
  repeat (refine Below.setCell ?_ (by first | (simp; done) | omega) _)
  exact B
set_option maxRecDepth 100000 in
set_option maxHeartbeats 4000000 in
theorem rdI_long (s : ByteArray) (w : World) (hs : 200 < s.size) (hs2 : s.size ≤ 1048576) :
    Calls Tryd.prog 6 #[.string s] w fun e w' => e = .returned (RuAns none) ∧ Below w.heap.size w w' := by
  obtain ⟨w0, hw0, H, B, HLT⟩ : ∃ w0, w.alloc (.cells #[.int .i64 0, .string ⟨#[]⟩, .string ⟨#[]⟩, .bool false] 23) = w0 ∧ AtC w0 w.heap.size #[.int .i64 0, .string ⟨#[]⟩, .string ⟨#[]⟩, .bool false] ∧ Below w.heap.size w w0 ∧ w.heap.size < w0.heap.size := ⟨_, rfl, atC_new w _ _, (Below.refl _ w).alloc (Nat.le_refl _) _, by simp⟩
  have r0 : w0.cell? ⟨w.heap.size, 0, none⟩ = some (.int .i64 0) := H.1 0 _ rfl; have f0 : w0.frozen? ⟨w.heap.size, 0, none⟩ = false := H.2 0; have r1 : w0.cell? ⟨w.heap.size, 1, none⟩ = some (.string ⟨#[]⟩) := H.1 1 _ rfl; have f1 : w0.frozen? ⟨w.heap.size, 1, none⟩ = false := H.2 1; have r2 : w0.cell? ⟨w.heap.size, 2, none⟩ = some (.string ⟨#[]⟩) := H.1 2 _ rfl; have f2 : w0.frozen? ⟨w.heap.size, 2, none⟩ = false := H.2 2; have r3 : w0.cell? ⟨w.heap.size, 3, none⟩ = some (.bool false) := H.1 3 _ rfl; have f3 : w0.frozen? ⟨w.heap.size, 3, none⟩ = false := H.2 3
  go_enter Tryd.func6, Tryd.ntmps6
  go_wp2
  have K := ((((H.own 0 (.int .i64 0)).own 1 (.string ⟨#[]⟩)).own 2 (.string ⟨#[]⟩)).own 3 (.bool false))
  have k0 := K.1 0 _ rfl
  have k1 := K.1 1 _ rfl
  have k2 := K.1 2 _ rfl
  have k3 := K.1 3 _ rfl
  refine bodyPost_ret (v := .tuple #[.agg #[.int .i64 0, .string ⟨#[]⟩, .string ⟨#[]⟩, .bool false], .bool false]) (by simp [results, Tryd.results6, go_sem, k0, k1, k2, k3]) rfl ?_
  refine ⟨rfl, ?_⟩
  repeat (refine Below.setCell ?_ (by first | (simp; done) | omega) _)
  exact B
end Go.Proofs.YtkgfoimfhlpngaaDoor.W
