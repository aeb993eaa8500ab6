
/-
  RulRead of the specification: the rule whose text it is, or nothing. Texts of at most 1048576 bytes.
-/
import Derived.Test.YtkgfoimfhlpngaaDoorSlotRR
import Derived.Test.YtkgfoimfhlpngaaDoorWalkWords
import Derived.Test.YtkgfoimfhlpngaaDoorWalkNumb
import Derived.Test.YtkgfoimfhlpngaaDoorWalkRulY
namespace Go.Proofs.YtkgfoimfhlpngaaDoor.W
open Go.RowKit Go.Proofs.YtkgfoimfhlpngaaDoor.M
set_option linter.unusedVariables false

/-- a rule's cells -/
def RR.at_ (x : RR) : Array Value := #[.int .i64 x.user, .string x.ref, .string x.path, .bool x.write]
/-- what a reader of rules answers -/
def RuAns (r : Option RR) : Value := match r with
  | none => .tuple #[.agg #[.int .i64 0, .string ⟨#[]⟩, .string ⟨#[]⟩, .bool false], .bool false]
  | some x => .tuple #[.agg #[.int .i64 x.user, .string x.ref, .string x.path, .bool x.write], .bool true]
/-- the words lie in new memory -/
def At4 (w' : World) (g : Nat) (a b c d : List UInt8) : Prop := g < w'.heap.size ∧ w'.cell? ⟨g, 0, none⟩ = some (.string ⟨a.toArray⟩) ∧ w'.cell? ⟨g, 1, none⟩ = some (.string ⟨b.toArray⟩) ∧ w'.cell? ⟨g, 2, none⟩ = some (.string ⟨c.toArray⟩) ∧ w'.cell? ⟨g, 3, none⟩ = some (.string ⟨d.toArray⟩)
theorem own4 {w' : World} {base g cap : Nat} {t : TypeId} {a b c d : List UInt8} (h : w'.ownsRow base t 1 (.slice (some ⟨g, 0, none⟩) [a, b, c, d].length cap) [a, b, c, d].length (strs [a, b, c, d])) : At4 w' g a b c d := by
  refine ⟨(h.lt g rfl).2, ?_, ?_, ?_, ?_⟩
  · rw [h.cellAt 0 (by simp)]; rfl
  · rw [h.cellAt 1 (by simp)]; rfl
  · rw [h.cellAt 2 (by simp)]; rfl
  · rw [h.cellAt 3 (by simp)]; rfl

set_option maxHeartbeats 400000 in
theorem l5None_any (s : ByteArray) (w : World) : Calls Tryd.prog 15 #[.string s] w fun e w' => e = .returned (.string (noneB s)) ∧ w = w' := by
  by_cases h : s.data.toList = [45]
  · have z1 : (s.toList == [45]) = true := by rw [Lib.toList_data, h]; decide
    have e0 : noneB s = ⟨#[]⟩ := if_pos h
    rw [e0]
    clear h e0
    go_enter Tryd.func15, Tryd.ntmps15
    go_wp2
    go_ret
    exact ⟨rfl, rfl⟩
  · have z1 : (s.toList == [45]) = false := by rw [Lib.toList_data, beq_eq_false_iff_ne]; exact h
    have e0 : noneB s = s := if_neg h
    rw [e0]
    clear h e0
    go_enter Tryd.func15, Tryd.ntmps15
    go_wp2
    go_ret
    exact ⟨rfl, rfl⟩
theorem words4 (s : ByteArray) (a b c d : List UInt8) (w : World) (hs : s.size ≤ 200) (h : wds s.data.toList = [a, b, c, d]) :
    Calls Tryd.prog 13 #[.string s] w fun e w' => ∃ g cap, e = .returned (.slice (some ⟨g, 0, none⟩) 4 cap) ∧ At4 w' g a b c d ∧ Below w.heap.size w w' := by
  refine (l5Words_any s w hs).mono ?_
  rintro e w' ⟨g, cap, rfl, ho, hb⟩
  rw [h] at ho ⊢
  exact ⟨g, cap, rfl, own4 ho, hb⟩
set_option maxHeartbeats 400000 in
theorem wordsX (s : ByteArray) (w : World) (hs : 200 < s.size) (hs2 : s.size ≤ 1048576) :
    Calls Tryd.prog 13 #[.string s] w fun e w' => (∃ g n cap : Nat, e = .returned (.slice (some ⟨g, 0, none⟩) n cap) ∧ n ≠ 4 ∧ n ≤ 201) ∧ Below w.heap.size w w' := by
  go_enter Tryd.func13, Tryd.ntmps13
  go_wp2
  go_ret
  exact ⟨⟨w.heap.size, 0, 0, rfl, by decide, by decide⟩, (Below.refl _ _).alloc (Nat.le_refl _) _⟩
theorem wordsN (s : ByteArray) (w : World) (hs2 : s.size ≤ 1048576) (h : 200 < s.size ∨ (wds s.data.toList).length ≠ 4) :
    Calls Tryd.prog 13 #[.string s] w fun e w' => (∃ g n cap : Nat, e = .returned (.slice (some ⟨g, 0, none⟩) n cap) ∧ n ≠ 4 ∧ n ≤ 201) ∧ Below w.heap.size w w' := by
  by_cases h2 : 200 < s.size
  · exact wordsX s w h2 hs2
  · refine (l5Words_any s w (by omega)).mono ?_
    rintro e w' ⟨g, cap, rfl, ho, hb⟩
    have hl : (wds s.data.toList).length ≤ s.size + 1 := by
      have : ∀ l : List UInt8, (wds l).length ≤ l.length + 1 := fun l => by
        induction l with
        | nil => decide
        | cons x r ih =>
          by_cases hx : x = 32
          · subst hx; rw [wds_blank]; simp; omega
          · rw [wds_sign x r hx]; simp; omega
      have := this s.data.toList
      rwa [Array.length_toList] at this
    exact ⟨⟨g, _, cap, rfl, h.resolve_left h2, by omega⟩, hb⟩
def NumOf (a : List UInt8) (n : Int) : Prop := -1 ≤ n ∧ n ≤ 9999 ∧ ∀ k : Nat, k ≤ 9 → a = [UInt8.ofNat (48 + k)] → n = k
theorem number4 (a : List UInt8) (w : World) (ha : a.length ≤ 1048576) :
    Calls Tryd.prog 14 #[.string ⟨a.toArray⟩] w fun e w' => (∃ n : Int, e = .returned (.int .i64 n) ∧ NumOf a n) ∧ w = w' := by
  refine (l5Number_any ⟨a.toArray⟩ w (by rw [size_mk]; exact ha)).mono ?_
  rintro e w' ⟨⟨n, rfl, h1, h2, h3⟩, rfl⟩
  refine ⟨⟨n, rfl, h1, h2, fun k hk e => ?_⟩, rfl⟩
  subst e
  have hb : (UInt8.ofNat (48 + k)).toNat = 48 + k := by
    rw [UInt8.toNat_ofNat']; omega
  have h4 := h3 Nat.zero_lt_one rfl
  have e0 : (ByteArray.mk [UInt8.ofNat (48 + k)].toArray)[0]'Nat.zero_lt_one = UInt8.ofNat (48 + k) := rfl
  rw [e0, hb] at h4
  have := h4 (by omega) (by omega)
  omega

set_option maxRecDepth 100000 in
set_option maxHeartbeats 4000000 in
theorem rdS_same (s : ByteArray) (a b c d : List UInt8) (w : World) (hs : s.size ≤ 200) (n : Int) (p q : ByteArray) (v : Bool) (hp : noneB ⟨b.toArray⟩ = p) (hq : noneB ⟨c.toArray⟩ = q) (hv : decide (d = writeL) = v)
    (HW : Hid (∀ w, Calls Tryd.prog 13 #[.string s] w fun e w' => ∃ g cap, e = .returned (.slice (some ⟨g, 0, none⟩) 4 cap) ∧ At4 w' g a b c d ∧ Below w.heap.size w w'))
    (HN : Hid (∀ w, Calls Tryd.prog 14 #[.string ⟨a.toArray⟩] w fun e w' => (∃ n', e = .returned (.int .i64 n') ∧ n' = n) ∧ w = w'))
    (HX : Hid (∀ w, Calls Tryd.prog 11 #[.agg #[.int .i64 n, .string p, .string q, .bool v]] w fun e w' => e = .returned (.string s) ∧ Below w.heap.size w w')) (hz : s.toList.isEmpty = false) :
    Calls Tryd.prog 5 #[.string s] w fun e w' => e = .returned (RuAns (some ⟨n, p, q, v⟩)) ∧ Below w.heap.size w w' := by
  obtain ⟨w0, hw0, H, B, HLT⟩ : ∃ w0, w.alloc (.cells #[.int .i64 0, .string ⟨#[]⟩, .string ⟨#[]⟩, .bool false] 23) = w0 ∧ AtC w0 w.heap.size #[.int .i64 0, .string ⟨#[]⟩, .string ⟨#[]⟩, .bool false] ∧ Below w.heap.size w w0 ∧ w.heap.size < w0.heap.size := ⟨_, rfl, atC_new w _ _, (Below.refl _ w).alloc (Nat.le_refl _) _, by simp⟩
  have r0 : w0.cell? ⟨w.heap.size, 0, none⟩ = some (.int .i64 0) := H.1 0 _ rfl; have f0 : w0.frozen? ⟨w.heap.size, 0, none⟩ = false := H.2 0; have r1 : w0.cell? ⟨w.heap.size, 1, none⟩ = some (.string ⟨#[]⟩) := H.1 1 _ rfl; have f1 : w0.frozen? ⟨w.heap.size, 1, none⟩ = false := H.2 1; have r2 : w0.cell? ⟨w.heap.size, 2, none⟩ = some (.string ⟨#[]⟩) := H.1 2 _ rfl; have f2 : w0.frozen? ⟨w.heap.size, 2, none⟩ = false := H.2 2; have r3 : w0.cell? ⟨w.heap.size, 3, none⟩ = some (.bool false) := H.1 3 _ rfl; have f3 : w0.frozen? ⟨w.heap.size, 3, none⟩ = false := H.2 3
  go_enter Tryd.func5, Tryd.ntmps5
  go_wp2_with (go_at_call 13; refine (HW.out _).mono ?_; rintro e w1 ⟨g, cap, rfl, A4, hb⟩; clear r0 r1 r2 r3 f0 f1 f2 f3; replace H := H.up hb HLT; replace HLT := Nat.lt_of_lt_of_le HLT hb.size; replace B := B.trans (hb.mono B.size); clear hb; have r0 : w1.cell? ⟨w.heap.size, 0, none⟩ = some (.int .i64 0) := H.1 0 _ rfl; have f0 : w1.frozen? ⟨w.heap.size, 0, none⟩ = false := H.2 0; have r1 : w1.cell? ⟨w.heap.size, 1, none⟩ = some (.string ⟨#[]⟩) := H.1 1 _ rfl; have f1 : w1.frozen? ⟨w.heap.size, 1, none⟩ = false := H.2 1; have r2 : w1.cell? ⟨w.heap.size, 2, none⟩ = some (.string ⟨#[]⟩) := H.1 2 _ rfl; have f2 : w1.frozen? ⟨w.heap.size, 2, none⟩ = false := H.2 2; have r3 : w1.cell? ⟨w.heap.size, 3, none⟩ = some (.bool false) := H.1 3 _ rfl; have f3 : w1.frozen? ⟨w.heap.size, 3, none⟩ = false := H.2 3)
  rename_i K hK
  obtain ⟨A0, A1, A2, A3, A5⟩ := A4
  refine frontSR (g := g) (c := cap) (R := w.heap.size) (s := s) (N := fun m => m = n) (wa := a) (wb := b) (wc := c) (wd := d) (by kernel_rfl) rfl rfl rfl rfl rfl (fun s w1 => l5None_any s w1) HN.out A0 A1 A2 A3 A5 ?_
  intro y w2 k n' hn' hb hk1 KLT K2
  subst hn'
  rw [hp, hq, hv] at K2
  clear r0 r1 r2 r3 f0 f1 f2 f3; replace H := H.up hb HLT; replace HLT := Nat.lt_of_lt_of_le HLT hb.size; replace B := B.trans (hb.mono B.size); clear hb; have r0 : w2.cell? ⟨w.heap.size, 0, none⟩ = some (.int .i64 0) := H.1 0 _ rfl; have f0 : w2.frozen? ⟨w.heap.size, 0, none⟩ = false := H.2 0; have r1 : w2.cell? ⟨w.heap.size, 1, none⟩ = some (.string ⟨#[]⟩) := H.1 1 _ rfl; have f1 : w2.frozen? ⟨w.heap.size, 1, none⟩ = false := H.2 1; have r2 : w2.cell? ⟨w.heap.size, 2, none⟩ = some (.string ⟨#[]⟩) := H.1 2 _ rfl; have f2 : w2.frozen? ⟨w.heap.size, 2, none⟩ = false := H.2 2; have r3 : w2.cell? ⟨w.heap.size, 3, none⟩ = some (.bool false) := H.1 3 _ rfl; have f3 : w2.frozen? ⟨w.heap.size, 3, none⟩ = false := H.2 3
  have e0 : w2.cell? ⟨k, 0, none⟩ = some (.int .i64 n') := K2.1 0 _ rfl; have e1 : w2.cell? ⟨k, 1, none⟩ = some (.string p) := K2.1 1 _ rfl; have e2 : w2.cell? ⟨k, 2, none⟩ = some (.string q) := K2.1 2 _ rfl; have e3 : w2.cell? ⟨k, 3, none⟩ = some (.bool v) := K2.1 3 _ rfl
  clear A1 A2 A3 A5
  refine hK _ _ ?_
  clear hK HW HN
  have tk : True := trivial
  go_wp2_with (first
    | (have _t := tk; clear tk; go_at_call 11; refine (HX.out _).mono ?_; rintro e w3 ⟨rfl, hb⟩; clear e0 e1 e2 e3; replace K2 := K2.up hb KLT; replace KLT := Nat.lt_of_lt_of_le KLT hb.size; clear r0 r1 r2 r3 f0 f1 f2 f3; replace H := H.up hb HLT; replace HLT := Nat.lt_of_lt_of_le HLT hb.size; replace B := B.trans (hb.mono B.size); clear hb; have r0 : w3.cell? ⟨w.heap.size, 0, none⟩ = some (.int .i64 0) := H.1 0 _ rfl; have f0 : w3.frozen? ⟨w.heap.size, 0, none⟩ = false := H.2 0; have r1 : w3.cell? ⟨w.heap.size, 1, none⟩ = some (.string ⟨#[]⟩) := H.1 1 _ rfl; have f1 : w3.frozen? ⟨w.heap.size, 1, none⟩ = false := H.2 1; have r2 : w3.cell? ⟨w.heap.size, 2, none⟩ = some (.string ⟨#[]⟩) := H.1 2 _ rfl; have f2 : w3.frozen? ⟨w.heap.size, 2, none⟩ = false := H.2 2; have r3 : w3.cell? ⟨w.heap.size, 3, none⟩ = some (.bool false) := H.1 3 _ rfl; have f3 : w3.frozen? ⟨w.heap.size, 3, none⟩ = false := H.2 3; have e0 : w3.cell? ⟨k, 0, none⟩ = some (.int .i64 n') := K2.1 0 _ rfl; have e1 : w3.cell? ⟨k, 1, none⟩ = some (.string p) := K2.1 1 _ rfl; have e2 : w3.cell? ⟨k, 2, none⟩ = some (.string q) := K2.1 2 _ rfl; have e3 : w3.cell? ⟨k, 3, none⟩ = some (.bool v) := K2.1 3 _ rfl; clear _t)
    | (go_at_call 11; refine (HX.out _).mono ?_; rintro e w4 ⟨rfl, hb⟩; clear e0 e1 e2 e3; replace K2 := K2.up hb KLT; replace KLT := Nat.lt_of_lt_of_le KLT hb.size; clear r0 r1 r2 r3 f0 f1 f2 f3; replace H := H.up hb HLT; replace HLT := Nat.lt_of_lt_of_le HLT hb.size; replace B := B.trans (hb.mono B.size); clear hb; have r0 : w4.cell? ⟨w.heap.size, 0, none⟩ = some (.int .i64 0) := H.1 0 _ rfl; have f0 : w4.frozen? ⟨w.heap.size, 0, none⟩ = false := H.2 0; have r1 : w4.cell? ⟨w.heap.size, 1, none⟩ = some (.string ⟨#[]⟩) := H.1 1 _ rfl; have f1 : w4.frozen? ⟨w.heap.size, 1, none⟩ = false := H.2 1; have r2 : w4.cell? ⟨w.heap.size, 2, none⟩ = some (.string ⟨#[]⟩) := H.1 2 _ rfl; have f2 : w4.frozen? ⟨w.heap.size, 2, none⟩ = false := H.2 2; have r3 : w4.cell? ⟨w.heap.size, 3, none⟩ = some (.bool false) := H.1 3 _ rfl; have f3 : w4.frozen? ⟨w.heap.size, 3, none⟩ = false := H.2 3; have e0 : w4.cell? ⟨k, 0, none⟩ = some (.int .i64 n') := K2.1 0 _ rfl; have e1 : w4.cell? ⟨k, 1, none⟩ = some (.string p) := K2.1 1 _ rfl; have e2 : w4.cell? ⟨k, 2, none⟩ = some (.string q) := K2.1 2 _ rfl; have e3 : w4.cell? ⟨k, 3, none⟩ = some (.bool v) := K2.1 3 _ rfl))
  have K := ((((H.own 0 (.int .i64 n')).own 1 (.string p)).own 2 (.string q)).own 3 (.bool v))
  have k0 := K.1 0 _ rfl
  have k1 := K.1 1 _ rfl
  have k2 := K.1 2 _ rfl
  have k3 := K.1 3 _ rfl
  refine bodyPost_ret (v := .tuple #[.agg #[.int .i64 n', .string p, .string q, .bool v], .bool true]) (by simp [results, Tryd.results5, go_sem, k0, k1, k2, k3]) rfl ?_
  refine ⟨rfl, ?_⟩
  repeat (refine Below.setCell ?_ (by first | (simp; done) | omega) _)
  exact B
set_option maxRecDepth 100000 in
set_option maxHeartbeats 4000000 in
theorem rdS_other (s : ByteArray) (a b c d : List UInt8) (w : World) (hs : s.size ≤ 200) (p q : ByteArray) (v : Bool) (hp : noneB ⟨b.toArray⟩ = p) (hq : noneB ⟨c.toArray⟩ = q) (hv : decide (d = writeL) = v)
    (HW : Hid (∀ w, Calls Tryd.prog 13 #[.string s] w fun e w' => ∃ g cap, e = .returned (.slice (some ⟨g, 0, none⟩) 4 cap) ∧ At4 w' g a b c d ∧ Below w.heap.size w w'))
    (HN : Hid (∀ w, Calls Tryd.prog 14 #[.string ⟨a.toArray⟩] w fun e w' => (∃ n', e = .returned (.int .i64 n') ∧ NumOf a n') ∧ w = w'))
    (HX : Hid (∀ n, NumOf a n → ∃ T : ByteArray, (T.toList.isEmpty = true ∨ (T.toList.isEmpty = false ∧ (T.toList == s.toList) = false)) ∧ ∀ w, Calls Tryd.prog 11 #[.agg #[.int .i64 n, .string p, .string q, .bool v]] w fun e w' => e = .returned (.string T) ∧ Below w.heap.size w w')) :
    Calls Tryd.prog 5 #[.string s] w fun e w' => e = .returned (RuAns (none)) ∧ Below w.heap.size w w' := by
  obtain ⟨w0, hw0, H, B, HLT⟩ : ∃ w0, w.alloc (.cells #[.int .i64 0, .string ⟨#[]⟩, .string ⟨#[]⟩, .bool false] 23) = w0 ∧ AtC w0 w.heap.size #[.int .i64 0, .string ⟨#[]⟩, .string ⟨#[]⟩, .bool false] ∧ Below w.heap.size w w0 ∧ w.heap.size < w0.heap.size := ⟨_, rfl, atC_new w _ _, (Below.refl _ w).alloc (Nat.le_refl _) _, by simp⟩
  have r0 : w0.cell? ⟨w.heap.size, 0, none⟩ = some (.int .i64 0) := H.1 0 _ rfl; have f0 : w0.frozen? ⟨w.heap.size, 0, none⟩ = false := H.2 0; have r1 : w0.cell? ⟨w.heap.size, 1, none⟩ = some (.string ⟨#[]⟩) := H.1 1 _ rfl; have f1 : w0.frozen? ⟨w.heap.size, 1, none⟩ = false := H.2 1; have r2 : w0.cell? ⟨w.heap.size, 2, none⟩ = some (.string ⟨#[]⟩) := H.1 2 _ rfl; have f2 : w0.frozen? ⟨w.heap.size, 2, none⟩ = false := H.2 2; have r3 : w0.cell? ⟨w.heap.size, 3, none⟩ = some (.bool false) := H.1 3 _ rfl; have f3 : w0.frozen? ⟨w.heap.size, 3, none⟩ = false := H.2 3
  go_enter Tryd.func5, Tryd.ntmps5
  go_wp2_with (go_at_call 13; refine (HW.out _).mono ?_; rintro e w1 ⟨g, cap, rfl, A4, hb⟩; clear r0 r1 r2 r3 f0 f1 f2 f3; replace H := H.up hb HLT; replace HLT := Nat.lt_of_lt_of_le HLT hb.size; replace B := B.trans (hb.mono B.size); clear hb; have r0 : w1.cell? ⟨w.heap.size, 0, none⟩ = some (.int .i64 0) := H.1 0 _ rfl; have f0 : w1.frozen? ⟨w.heap.size, 0, none⟩ = false := H.2 0; have r1 : w1.cell? ⟨w.heap.size, 1, none⟩ = some (.string ⟨#[]⟩) := H.1 1 _ rfl; have f1 : w1.frozen? ⟨w.heap.size, 1, none⟩ = false := H.2 1; have r2 : w1.cell? ⟨w.heap.size, 2, none⟩ = some (.string ⟨#[]⟩) := H.1 2 _ rfl; have f2 : w1.frozen? ⟨w.heap.size, 2, none⟩ = false := H.2 2; have r3 : w1.cell? ⟨w.heap.size, 3, none⟩ = some (.bool false) := H.1 3 _ rfl; have f3 : w1.frozen? ⟨w.heap.size, 3, none⟩ = false := H.2 3)
  rename_i K hK
  obtain ⟨A0, A1, A2, A3, A5⟩ := A4
  refine frontSR (g := g) (c := cap) (R := w.heap.size) (s := s) (N := fun m => NumOf a m) (wa := a) (wb := b) (wc := c) (wd := d) (by kernel_rfl) rfl rfl rfl rfl rfl (fun s w1 => l5None_any s w1) HN.out A0 A1 A2 A3 A5 ?_
  intro y w2 k n hn' hb hk1 KLT K2
  obtain ⟨T, hz, HX'⟩ := HX.out n hn'
  rw [hp, hq, hv] at K2
  clear r0 r1 r2 r3 f0 f1 f2 f3; replace H := H.up hb HLT; replace HLT := Nat.lt_of_lt_of_le HLT hb.size; replace B := B.trans (hb.mono B.size); clear hb; have r0 : w2.cell? ⟨w.heap.size, 0, none⟩ = some (.int .i64 0) := H.1 0 _ rfl; have f0 : w2.frozen? ⟨w.heap.size, 0, none⟩ = false := H.2 0; have r1 : w2.cell? ⟨w.heap.size, 1, none⟩ = some (.string ⟨#[]⟩) := H.1 1 _ rfl; have f1 : w2.frozen? ⟨w.heap.size, 1, none⟩ = false := H.2 1; have r2 : w2.cell? ⟨w.heap.size, 2, none⟩ = some (.string ⟨#[]⟩) := H.1 2 _ rfl; have f2 : w2.frozen? ⟨w.heap.size, 2, none⟩ = false := H.2 2; have r3 : w2.cell? ⟨w.heap.size, 3, none⟩ = some (.bool false) := H.1 3 _ rfl; have f3 : w2.frozen? ⟨w.heap.size, 3, none⟩ = false := H.2 3
  have e0 : w2.cell? ⟨k, 0, none⟩ = some (.int .i64 n) := K2.1 0 _ rfl; have e1 : w2.cell? ⟨k, 1, none⟩ = some (.string p) := K2.1 1 _ rfl; have e2 : w2.cell? ⟨k, 2, none⟩ = some (.string q) := K2.1 2 _ rfl; have e3 : w2.cell? ⟨k, 3, none⟩ = some (.bool v) := K2.1 3 _ rfl
  clear A1 A2 A3 A5
  refine hK _ _ ?_
  clear hK HW HN
  clear HX
  have HX : Hid (∀ w, Calls Tryd.prog 11 #[.agg #[.int .i64 n, .string p, .string q, .bool v]] w fun e w' => e = .returned (.string T) ∧ Below w.heap.size w w') := HX'
  clear HX'
  rcases hz with hz | ⟨hz, hn⟩
  all_goals
    have tk : True := trivial
    go_wp2_with (first
      | (have _t := tk; clear tk; go_at_call 11; refine (HX.out _).mono ?_; rintro e w3 ⟨rfl, hb⟩; clear e0 e1 e2 e3; replace K2 := K2.up hb KLT; replace KLT := Nat.lt_of_lt_of_le KLT hb.size; clear r0 r1 r2 r3 f0 f1 f2 f3; replace H := H.up hb HLT; replace HLT := Nat.lt_of_lt_of_le HLT hb.size; replace B := B.trans (hb.mono B.size); clear hb; have r0 : w3.cell? ⟨w.heap.size, 0, none⟩ = some (.int .i64 0) := H.1 0 _ rfl; have f0 : w3.frozen? ⟨w.heap.size, 0, none⟩ = false := H.2 0; have r1 : w3.cell? ⟨w.heap.size, 1, none⟩ = some (.string ⟨#[]⟩) := H.1 1 _ rfl; have f1 : w3.frozen? ⟨w.heap.size, 1, none⟩ = false := H.2 1; have r2 : w3.cell? ⟨w.heap.size, 2, none⟩ = some (.string ⟨#[]⟩) := H.1 2 _ rfl; have f2 : w3.frozen? ⟨w.heap.size, 2, none⟩ = false := H.2 2; have r3 : w3.cell? ⟨w.heap.size, 3, none⟩ = some (.bool false) := H.1 3 _ rfl; have f3 : w3.frozen? ⟨w.heap.size, 3, none⟩ = false := H.2 3; have e0 : w3.cell? ⟨k, 0, none⟩ = some (.int .i64 n) := K2.1 0 _ rfl; have e1 : w3.cell? ⟨k, 1, none⟩ = some (.string p) := K2.1 1 _ rfl; have e2 : w3.cell? ⟨k, 2, none⟩ = some (.string q) := K2.1 2 _ rfl; have e3 : w3.cell? ⟨k, 3, none⟩ = some (.bool v) := K2.1 3 _ rfl; clear _t)
      | (go_at_call 11; refine (HX.out _).mono ?_; rintro e w4 ⟨rfl, hb⟩; clear e0 e1 e2 e3; replace K2 := K2.up hb KLT; replace KLT := Nat.lt_of_lt_of_le KLT hb.size; clear r0 r1 r2 r3 f0 f1 f2 f3; replace H := H.up hb HLT; replace HLT := Nat.lt_of_lt_of_le HLT hb.size; replace B := B.trans (hb.mono B.size); clear hb; have r0 : w4.cell? ⟨w.heap.size, 0, none⟩ = some (.int .i64 0) := H.1 0 _ rfl; have f0 : w4.frozen? ⟨w.heap.size, 0, none⟩ = false := H.2 0; have r1 : w4.cell? ⟨w.heap.size, 1, none⟩ = some (.string ⟨#[]⟩) := H.1 1 _ rfl; have f1 : w4.frozen? ⟨w.heap.size, 1, none⟩ = false := H.2 1; have r2 : w4.cell? ⟨w.heap.size, 2, none⟩ = some (.string ⟨#[]⟩) := H.1 2 _ rfl; have f2 : w4.frozen? ⟨w.heap.size, 2, none⟩ = false := H.2 2; have r3 : w4.cell? ⟨w.heap.size, 3, none⟩ = some (.bool false) := H.1 3 _ rfl; have f3 : w4.frozen? ⟨w.heap.size, 3, none⟩ = false := H.2 3; have e0 : w4.cell? ⟨k, 0, none⟩ = some (.int .i64 n) := K2.1 0 _ rfl; have e1 : w4.cell? ⟨k, 1, none⟩ = some (.string p) := K2.1 1 _ rfl; have e2 : w4.cell? ⟨k, 2, none⟩ = some (.string q) := K2.1 2 _ rfl; have e3 : w4.cell? ⟨k, 3, none⟩ = some (.bool v) := K2.1 3 _ rfl))
    have K := ((((H.own 0 (.int .i64 0)).own 1 (.string ⟨#[]⟩)).own 2 (.string ⟨#[]⟩)).own 3 (.bool false))
    have k0 := K.1 0 _ rfl
    have k1 := K.1 1 _ rfl
    have k2 := K.1 2 _ rfl
    have k3 := K.1 3 _ rfl
    refine bodyPost_ret (v := .tuple #[.agg #[.int .i64 0, .string ⟨#[]⟩, .string ⟨#[]⟩, .bool false], .bool false]) (by simp [results, Tryd.results5, go_sem, k0, k1, k2, k3]) rfl ?_
    refine ⟨rfl, ?_⟩
    repeat (refine Below.setCell ?_ (by first | (simp; done) | omega) _)
    exact B
set_option maxRecDepth 100000 in
set_option maxHeartbeats 4000000 in
theorem rdS_few (s : ByteArray) (w : World)
    (HW : Hid (∀ w, Calls Tryd.prog 13 #[.string s] w fun e w' => (∃ g n cap : Nat, e = .returned (.slice (some ⟨g, 0, none⟩) n cap) ∧ n ≠ 4 ∧ n ≤ 201) ∧ Below w.heap.size w w')) :
    Calls Tryd.prog 5 #[.string s] w fun e w' => e = .returned (RuAns none) ∧ Below w.heap.size w w' := by
  obtain ⟨w0, hw0, H, B, HLT⟩ : ∃ w0, w.alloc (.cells #[.int .i64 0, .string ⟨#[]⟩, .string ⟨#[]⟩, .bool false] 23) = w0 ∧ AtC w0 w.heap.size #[.int .i64 0, .string ⟨#[]⟩, .string ⟨#[]⟩, .bool false] ∧ Below w.heap.size w w0 ∧ w.heap.size < w0.heap.size := ⟨_, rfl, atC_new w _ _, (Below.refl _ w).alloc (Nat.le_refl _) _, by simp⟩
  have r0 : w0.cell? ⟨w.heap.size, 0, none⟩ = some (.int .i64 0) := H.1 0 _ rfl; have f0 : w0.frozen? ⟨w.heap.size, 0, none⟩ = false := H.2 0; have r1 : w0.cell? ⟨w.heap.size, 1, none⟩ = some (.string ⟨#[]⟩) := H.1 1 _ rfl; have f1 : w0.frozen? ⟨w.heap.size, 1, none⟩ = false := H.2 1; have r2 : w0.cell? ⟨w.heap.size, 2, none⟩ = some (.string ⟨#[]⟩) := H.1 2 _ rfl; have f2 : w0.frozen? ⟨w.heap.size, 2, none⟩ = false := H.2 2; have r3 : w0.cell? ⟨w.heap.size, 3, none⟩ = some (.bool false) := H.1 3 _ rfl; have f3 : w0.frozen? ⟨w.heap.size, 3, none⟩ = false := H.2 3
  go_enter Tryd.func5, Tryd.ntmps5
  go_wp2_with (go_at_call 13; refine (HW.out _).mono ?_; rintro e w1 ⟨⟨g, n, cap, rfl, hn4, hn⟩, hb⟩; have hne : ((n : Int) != 4) = true := (by simp; omega); clear r0 r1 r2 r3 f0 f1 f2 f3; replace H := H.up hb HLT; replace HLT := Nat.lt_of_lt_of_le HLT hb.size; replace B := B.trans (hb.mono B.size); clear hb; have r0 : w1.cell? ⟨w.heap.size, 0, none⟩ = some (.int .i64 0) := H.1 0 _ rfl; have f0 : w1.frozen? ⟨w.heap.size, 0, none⟩ = false := H.2 0; have r1 : w1.cell? ⟨w.heap.size, 1, none⟩ = some (.string ⟨#[]⟩) := H.1 1 _ rfl; have f1 : w1.frozen? ⟨w.heap.size, 1, none⟩ = false := H.2 1; have r2 : w1.cell? ⟨w.heap.size, 2, none⟩ = some (.string ⟨#[]⟩) := H.1 2 _ rfl; have f2 : w1.frozen? ⟨w.heap.size, 2, none⟩ = false := H.2 2; have r3 : w1.cell? ⟨w.heap.size, 3, none⟩ = some (.bool false) := H.1 3 _ rfl; have f3 : w1.frozen? ⟨w.heap.size, 3, none⟩ = false := H.2 3)
  have K := ((((H.own 0 (.int .i64 0)).own 1 (.string ⟨#[]⟩)).own 2 (.string ⟨#[]⟩)).own 3 (.bool false))
  have k0 := K.1 0 _ rfl
  have k1 := K.1 1 _ rfl
  have k2 := K.1 2 _ rfl
  have k3 := K.1 3 _ rfl
  refine bodyPost_ret (v := .tuple #[.agg #[.int .i64 0, .string ⟨#[]⟩, .string ⟨#[]⟩, .bool false], .bool false]) (by simp [results, Tryd.results5, go_sem, k0, k1, k2, k3]) rfl ?_
  refine ⟨rfl, ?_⟩
  repeat (refine Below.setCell ?_ (by first | (simp; done) | omega) _)
  exact B
end Go.Proofs.YtkgfoimfhlpngaaDoor.W
