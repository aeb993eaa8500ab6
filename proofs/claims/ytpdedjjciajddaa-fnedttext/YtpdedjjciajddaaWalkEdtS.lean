
/-
  EdtRead of the program. Texts of at most 1048576 bytes. (Written by genedtr.py.)
-/
import Derived.Test.YtpdedjjciajddaaWalkEdtR
namespace Go.Proofs.Ytpdedjjciajddaa.W
open Go.RowKit Go.Proofs.Ytpdedjjciajddaa.M
set_option linter.unusedVariables false

set_option maxRecDepth 100000 in
set_option maxHeartbeats 4000000 in
theorem er_at_bad (s p p0 d q T : ByteArray) (w : World) (hs : s.size ≤ 1048576) (HC : Hid (∀ w, Calls Try.prog 17 #[.string s, .string ⟨#[61]⟩] w fun e w' => e = .returned (.tuple #[.string p, .string d, .bool true]) ∧ Below w.heap.size w w')) (HR : Hid (∀ w, Calls Try.prog 18 #[.string d] w fun e w' => e = .returned (.tuple #[.string q, .bool false]) ∧ Below w.heap.size w w')) :
    Calls Try.prog 7 #[.string s] w fun e w' => e = .returned (EdAns (none)) ∧ Below w.heap.size w w' := by
  obtain ⟨w0, hw0, H, B, HLT⟩ : ∃ w0, w.alloc (.cells #[.string ⟨#[]⟩, .string ⟨#[]⟩, .bool false] 24) = w0 ∧ AtC w0 w.heap.size #[.string ⟨#[]⟩, .string ⟨#[]⟩, .bool false] ∧ Below w.heap.size w w0 ∧ w.heap.size < w0.heap.size := ⟨_, rfl, atC_new w _ _, (Below.refl _ w).alloc (Nat.le_refl _) _, by simp⟩
  obtain ⟨r0, r1, r2⟩ : w0.cell? ⟨w.heap.size, 0, none⟩ = some (.string ⟨#[]⟩) ∧ w0.cell? ⟨w.heap.size, 1, none⟩ = some (.string ⟨#[]⟩) ∧ w0.cell? ⟨w.heap.size, 2, none⟩ = some (.bool false) := ⟨H.1 0 _ rfl, H.1 1 _ rfl, H.1 2 _ rfl⟩; obtain ⟨f0, f1, f2⟩ : w0.frozen? ⟨w.heap.size, 0, none⟩ = false ∧ w0.frozen? ⟨w.heap.size, 1, none⟩ = false ∧ w0.frozen? ⟨w.heap.size, 2, none⟩ = false := ⟨H.2 0, H.2 1, H.2 2⟩
  go_enter Try.func7, Try.ntmps7
  go_wp2_with (first
    | (go_at_call 17; refine (HC.out _).mono ?_; rintro e w1 ⟨rfl, hb⟩; clear r0 r1 r2 f0 f1 f2; replace H := H.up hb HLT; replace HLT := Nat.lt_of_lt_of_le HLT hb.size; replace B := B.trans (hb.mono B.size); clear hb; obtain ⟨r0, r1, r2⟩ : w1.cell? ⟨w.heap.size, 0, none⟩ = some (.string ⟨#[]⟩) ∧ w1.cell? ⟨w.heap.size, 1, none⟩ = some (.string ⟨#[]⟩) ∧ w1.cell? ⟨w.heap.size, 2, none⟩ = some (.bool false) := ⟨H.1 0 _ rfl, H.1 1 _ rfl, H.1 2 _ rfl⟩; obtain ⟨f0, f1, f2⟩ : w1.frozen? ⟨w.heap.size, 0, none⟩ = false ∧ w1.frozen? ⟨w.heap.size, 1, none⟩ = false ∧ w1.frozen? ⟨w.heap.size, 2, none⟩ = false := ⟨H.2 0, H.2 1, H.2 2⟩)
    | (go_at_call 18; refine (HR.out _).mono ?_; rintro e w2 ⟨rfl, hb⟩; clear r0 r1 r2 f0 f1 f2; replace H := H.up hb HLT; replace HLT := Nat.lt_of_lt_of_le HLT hb.size; replace B := B.trans (hb.mono B.size); clear hb; obtain ⟨r0, r1, r2⟩ : w2.cell? ⟨w.heap.size, 0, none⟩ = some (.string ⟨#[]⟩) ∧ w2.cell? ⟨w.heap.size, 1, none⟩ = some (.string ⟨#[]⟩) ∧ w2.cell? ⟨w.heap.size, 2, none⟩ = some (.bool false) := ⟨H.1 0 _ rfl, H.1 1 _ rfl, H.1 2 _ rfl⟩; obtain ⟨f0, f1, f2⟩ : w2.frozen? ⟨w.heap.size, 0, none⟩ = false ∧ w2.frozen? ⟨w.heap.size, 1, none⟩ = false ∧ w2.frozen? ⟨w.heap.size, 2, none⟩ = false := ⟨H.2 0, H.2 1, H.2 2⟩))
  have K := (((H.own 0 (.string ⟨#[]⟩)).own 1 (.string ⟨#[]⟩)).own 2 (.bool false)).alloc (by simpa using HLT) (.cells #[.string p, .string q, .bool false] 24)
  have k0 := K.1 0 _ rfl
  have k1 := K.1 1 _ rfl
  have k2 := K.1 2 _ rfl
  refine bodyPost_ret (v := .tuple #[.agg #[.string ⟨#[]⟩, .string ⟨#[]⟩, .bool false], .bool false]) (by simp [results, Try.results7, go_sem, k0, k1, k2]) rfl ?_
  refine ⟨rfl, ?_⟩
  refine Below.alloc ?_ (by simpa using Nat.le_of_lt HLT) _
  repeat (refine Below.setCell ?_ (by first | (simp; done) | omega) _)
  exact B
set_option maxRecDepth 100000 in
set_option maxHeartbeats 4000000 in
theorem er_at_same (s p p0 d q T : ByteArray) (w : World) (hs : s.size ≤ 1048576) (HC : Hid (∀ w, Calls Try.prog 17 #[.string s, .string ⟨#[61]⟩] w fun e w' => e = .returned (.tuple #[.string p, .string d, .bool true]) ∧ Below w.heap.size w w')) (HR : Hid (∀ w, Calls Try.prog 18 #[.string d] w fun e w' => e = .returned (.tuple #[.string q, .bool true]) ∧ Below w.heap.size w w')) (HX : Hid (∀ w, Calls Try.prog 5 #[.agg #[.string p, .string q, .bool false]] w fun e w' => e = .returned (.string s) ∧ Below w.heap.size w w')) :
    Calls Try.prog 7 #[.string s] w fun e w' => e = .returned (EdAns (some ⟨p, q, false⟩)) ∧ Below w.heap.size w w' := by
  obtain ⟨w0, hw0, H, B, HLT⟩ : ∃ w0, w.alloc (.cells #[.string ⟨#[]⟩, .string ⟨#[]⟩, .bool false] 24) = w0 ∧ AtC w0 w.heap.size #[.string ⟨#[]⟩, .string ⟨#[]⟩, .bool false] ∧ Below w.heap.size w w0 ∧ w.heap.size < w0.heap.size := ⟨_, rfl, atC_new w _ _, (Below.refl _ w).alloc (Nat.le_refl _) _, by simp⟩
  obtain ⟨r0, r1, r2⟩ : w0.cell? ⟨w.heap.size, 0, none⟩ = some (.string ⟨#[]⟩) ∧ w0.cell? ⟨w.heap.size, 1, none⟩ = some (.string ⟨#[]⟩) ∧ w0.cell? ⟨w.heap.size, 2, none⟩ = some (.bool false) := ⟨H.1 0 _ rfl, H.1 1 _ rfl, H.1 2 _ rfl⟩; obtain ⟨f0, f1, f2⟩ : w0.frozen? ⟨w.heap.size, 0, none⟩ = false ∧ w0.frozen? ⟨w.heap.size, 1, none⟩ = false ∧ w0.frozen? ⟨w.heap.size, 2, none⟩ = false := ⟨H.2 0, H.2 1, H.2 2⟩
  go_enter Try.func7, Try.ntmps7
  go_wp2_with (first
    | (go_at_call 17; refine (HC.out _).mono ?_; rintro e w1 ⟨rfl, hb⟩; clear r0 r1 r2 f0 f1 f2; replace H := H.up hb HLT; replace HLT := Nat.lt_of_lt_of_le HLT hb.size; replace B := B.trans (hb.mono B.size); clear hb; obtain ⟨r0, r1, r2⟩ : w1.cell? ⟨w.heap.size, 0, none⟩ = some (.string ⟨#[]⟩) ∧ w1.cell? ⟨w.heap.size, 1, none⟩ = some (.string ⟨#[]⟩) ∧ w1.cell? ⟨w.heap.size, 2, none⟩ = some (.bool false) := ⟨H.1 0 _ rfl, H.1 1 _ rfl, H.1 2 _ rfl⟩; obtain ⟨f0, f1, f2⟩ : w1.frozen? ⟨w.heap.size, 0, none⟩ = false ∧ w1.frozen? ⟨w.heap.size, 1, none⟩ = false ∧ w1.frozen? ⟨w.heap.size, 2, none⟩ = false := ⟨H.2 0, H.2 1, H.2 2⟩)
    | (go_at_call 18; refine (HR.out _).mono ?_; rintro e w2 ⟨rfl, hb⟩; clear r0 r1 r2 f0 f1 f2; replace H := H.up hb HLT; replace HLT := Nat.lt_of_lt_of_le HLT hb.size; replace B := B.trans (hb.mono B.size); clear hb; obtain ⟨r0, r1, r2⟩ : w2.cell? ⟨w.heap.size, 0, none⟩ = some (.string ⟨#[]⟩) ∧ w2.cell? ⟨w.heap.size, 1, none⟩ = some (.string ⟨#[]⟩) ∧ w2.cell? ⟨w.heap.size, 2, none⟩ = some (.bool false) := ⟨H.1 0 _ rfl, H.1 1 _ rfl, H.1 2 _ rfl⟩; obtain ⟨f0, f1, f2⟩ : w2.frozen? ⟨w.heap.size, 0, none⟩ = false ∧ w2.frozen? ⟨w.heap.size, 1, none⟩ = false ∧ w2.frozen? ⟨w.heap.size, 2, none⟩ = false := ⟨H.2 0, H.2 1, H.2 2⟩)
    | (go_at_call 5; go_loud (have ba := (Below.refl w2.heap.size w2).alloc (Nat.le_refl _) (.cells #[.string p, .string q, .bool false] 24); have E0 := atC_new w2 #[.string p, .string q, .bool false] 24; refine (HX.out _).mono ?_; rintro e w3 ⟨rfl, hb⟩; replace E0 := E0.up hb (by simp); replace hb := ba.trans (hb.mono ba.size); clear ba; clear r0 r1 r2 f0 f1 f2; replace H := H.up hb HLT; replace HLT := Nat.lt_of_lt_of_le HLT hb.size; replace B := B.trans (hb.mono B.size); clear hb; obtain ⟨r0, r1, r2⟩ : w3.cell? ⟨w.heap.size, 0, none⟩ = some (.string ⟨#[]⟩) ∧ w3.cell? ⟨w.heap.size, 1, none⟩ = some (.string ⟨#[]⟩) ∧ w3.cell? ⟨w.heap.size, 2, none⟩ = some (.bool false) := ⟨H.1 0 _ rfl, H.1 1 _ rfl, H.1 2 _ rfl⟩; obtain ⟨f0, f1, f2⟩ : w3.frozen? ⟨w.heap.size, 0, none⟩ = false ∧ w3.frozen? ⟨w.heap.size, 1, none⟩ = false ∧ w3.frozen? ⟨w.heap.size, 2, none⟩ = false := ⟨H.2 0, H.2 1, H.2 2⟩; have e0 := E0.1 0 _ rfl; have e1 := E0.1 1 _ rfl; have e2 := E0.1 2 _ rfl)))
  have K := (((H.own 0 (.string p)).own 1 (.string q)).own 2 (.bool false))
  have k0 := K.1 0 _ rfl
  have k1 := K.1 1 _ rfl
  have k2 := K.1 2 _ rfl
  refine bodyPost_ret (v := .tuple #[.agg #[.string p, .string q, .bool false], .bool true]) (by simp [results, Try.results7, go_sem, k0, k1, k2]) rfl ?_
  refine ⟨rfl, ?_⟩
  repeat (refine Below.setCell ?_ (by first | (simp; done) | omega) _)
  exact B
set_option maxRecDepth 100000 in
set_option maxHeartbeats 4000000 in
theorem er_at_other (s p p0 d q T : ByteArray) (w : World) (hs : s.size ≤ 1048576) (HC : Hid (∀ w, Calls Try.prog 17 #[.string s, .string ⟨#[61]⟩] w fun e w' => e = .returned (.tuple #[.string p, .string d, .bool true]) ∧ Below w.heap.size w w')) (HR : Hid (∀ w, Calls Try.prog 18 #[.string d] w fun e w' => e = .returned (.tuple #[.string q, .bool true]) ∧ Below w.heap.size w w')) (HX : Hid (∀ w, Calls Try.prog 5 #[.agg #[.string p, .string q, .bool false]] w fun e w' => e = .returned (.string T) ∧ Below w.heap.size w w')) (hn : (T.toList == s.toList) = false) :
    Calls Try.prog 7 #[.string s] w fun e w' => e = .returned (EdAns (none)) ∧ Below w.heap.size w w' := by
  obtain ⟨w0, hw0, H, B, HLT⟩ : ∃ w0, w.alloc (.cells #[.string ⟨#[]⟩, .string ⟨#[]⟩, .bool false] 24) = w0 ∧ AtC w0 w.heap.size #[.string ⟨#[]⟩, .string ⟨#[]⟩, .bool false] ∧ Below w.heap.size w w0 ∧ w.heap.size < w0.heap.size := ⟨_, rfl, atC_new w _ _, (Below.refl _ w).alloc (Nat.le_refl _) _, by simp⟩
  obtain ⟨r0, r1, r2⟩ : w0.cell? ⟨w.heap.size, 0, none⟩ = some (.string ⟨#[]⟩) ∧ w0.cell? ⟨w.heap.size, 1, none⟩ = some (.string ⟨#[]⟩) ∧ w0.cell? ⟨w.heap.size, 2, none⟩ = some (.bool false) := ⟨H.1 0 _ rfl, H.1 1 _ rfl, H.1 2 _ rfl⟩; obtain ⟨f0, f1, f2⟩ : w0.frozen? ⟨w.heap.size, 0, none⟩ = false ∧ w0.frozen? ⟨w.heap.size, 1, none⟩ = false ∧ w0.frozen? ⟨w.heap.size, 2, none⟩ = false := ⟨H.2 0, H.2 1, H.2 2⟩
  go_enter Try.func7, Try.ntmps7
  go_wp2_with (first
    | (go_at_call 17; refine (HC.out _).mono ?_; rintro e w1 ⟨rfl, hb⟩; clear r0 r1 r2 f0 f1 f2; replace H := H.up hb HLT; replace HLT := Nat.lt_of_lt_of_le HLT hb.size; replace B := B.trans (hb.mono B.size); clear hb; obtain ⟨r0, r1, r2⟩ : w1.cell? ⟨w.heap.size, 0, none⟩ = some (.string ⟨#[]⟩) ∧ w1.cell? ⟨w.heap.size, 1, none⟩ = some (.string ⟨#[]⟩) ∧ w1.cell? ⟨w.heap.size, 2, none⟩ = some (.bool false) := ⟨H.1 0 _ rfl, H.1 1 _ rfl, H.1 2 _ rfl⟩; obtain ⟨f0, f1, f2⟩ : w1.frozen? ⟨w.heap.size, 0, none⟩ = false ∧ w1.frozen? ⟨w.heap.size, 1, none⟩ = false ∧ w1.frozen? ⟨w.heap.size, 2, none⟩ = false := ⟨H.2 0, H.2 1, H.2 2⟩)
    | (go_at_call 18; refine (HR.out _).mono ?_; rintro e w2 ⟨rfl, hb⟩; clear r0 r1 r2 f0 f1 f2; replace H := H.up hb HLT; replace HLT := Nat.lt_of_lt_of_le HLT hb.size; replace B := B.trans (hb.mono B.size); clear hb; obtain ⟨r0, r1, r2⟩ : w2.cell? ⟨w.heap.size, 0, none⟩ = some (.string ⟨#[]⟩) ∧ w2.cell? ⟨w.heap.size, 1, none⟩ = some (.string ⟨#[]⟩) ∧ w2.cell? ⟨w.heap.size, 2, none⟩ = some (.bool false) := ⟨H.1 0 _ rfl, H.1 1 _ rfl, H.1 2 _ rfl⟩; obtain ⟨f0, f1, f2⟩ : w2.frozen? ⟨w.heap.size, 0, none⟩ = false ∧ w2.frozen? ⟨w.heap.size, 1, none⟩ = false ∧ w2.frozen? ⟨w.heap.size, 2, none⟩ = false := ⟨H.2 0, H.2 1, H.2 2⟩)
    | (go_at_call 5; go_loud (have ba := (Below.refl w2.heap.size w2).alloc (Nat.le_refl _) (.cells #[.string p, .string q, .bool false] 24); have E0 := atC_new w2 #[.string p, .string q, .bool false] 24; refine (HX.out _).mono ?_; rintro e w3 ⟨rfl, hb⟩; replace E0 := E0.up hb (by simp); replace hb := ba.trans (hb.mono ba.size); clear ba; clear r0 r1 r2 f0 f1 f2; replace H := H.up hb HLT; replace HLT := Nat.lt_of_lt_of_le HLT hb.size; replace B := B.trans (hb.mono B.size); clear hb; obtain ⟨r0, r1, r2⟩ : w3.cell? ⟨w.heap.size, 0, none⟩ = some (.string ⟨#[]⟩) ∧ w3.cell? ⟨w.heap.size, 1, none⟩ = some (.string ⟨#[]⟩) ∧ w3.cell? ⟨w.heap.size, 2, none⟩ = some (.bool false) := ⟨H.1 0 _ rfl, H.1 1 _ rfl, H.1 2 _ rfl⟩; obtain ⟨f0, f1, f2⟩ : w3.frozen? ⟨w.heap.size, 0, none⟩ = false ∧ w3.frozen? ⟨w.heap.size, 1, none⟩ = false ∧ w3.frozen? ⟨w.heap.size, 2, none⟩ = false := ⟨H.2 0, H.2 1, H.2 2⟩; have e0 := E0.1 0 _ rfl; have e1 := E0.1 1 _ rfl; have e2 := E0.1 2 _ rfl)))
  have K := (((H.own 0 (.string ⟨#[]⟩)).own 1 (.string ⟨#[]⟩)).own 2 (.bool false))
  have k0 := K.1 0 _ rfl
  have k1 := K.1 1 _ rfl
  have k2 := K.1 2 _ rfl
  refine bodyPost_ret (v := .tuple #[.agg #[.string ⟨#[]⟩, .string ⟨#[]⟩, .bool false], .bool false]) (by simp [results, Try.results7, go_sem, k0, k1, k2]) rfl ?_
  refine ⟨rfl, ?_⟩
  repeat (refine Below.setCell ?_ (by first | (simp; done) | omega) _)
  exact B
set_option maxRecDepth 100000 in
set_option maxHeartbeats 4000000 in
theorem er_no_bad (s p p0 d q T : ByteArray) (w : World) (hs : s.size ≤ 1048576) (HC : Hid (∀ w, Calls Try.prog 17 #[.string s, .string ⟨#[61]⟩] w fun e w' => e = .returned (.tuple #[.string p0, .string d, .bool false]) ∧ Below w.heap.size w w')) (HR : Hid (∀ w, Calls Try.prog 18 #[.string d] w fun e w' => e = .returned (.tuple #[.string q, .bool true]) ∧ Below w.heap.size w w')) (HS : Hid (∀ w, Calls Try.prog 19 #[.string s, .string ⟨#[33]⟩] w fun e w' => e = .returned (.tuple #[.string p, .bool false]) ∧ w = w')) :
    Calls Try.prog 7 #[.string s] w fun e w' => e = .returned (EdAns (none)) ∧ Below w.heap.size w w' := by
  obtain ⟨w0, hw0, H, B, HLT⟩ : ∃ w0, w.alloc (.cells #[.string ⟨#[]⟩, .string ⟨#[]⟩, .bool false] 24) = w0 ∧ AtC w0 w.heap.size #[.string ⟨#[]⟩, .string ⟨#[]⟩, .bool false] ∧ Below w.heap.size w w0 ∧ w.heap.size < w0.heap.size := ⟨_, rfl, atC_new w _ _, (Below.refl _ w).alloc (Nat.le_refl _) _, by simp⟩
  obtain ⟨r0, r1, r2⟩ : w0.cell? ⟨w.heap.size, 0, none⟩ = some (.string ⟨#[]⟩) ∧ w0.cell? ⟨w.heap.size, 1, none⟩ = some (.string ⟨#[]⟩) ∧ w0.cell? ⟨w.heap.size, 2, none⟩ = some (.bool false) := ⟨H.1 0 _ rfl, H.1 1 _ rfl, H.1 2 _ rfl⟩; obtain ⟨f0, f1, f2⟩ : w0.frozen? ⟨w.heap.size, 0, none⟩ = false ∧ w0.frozen? ⟨w.heap.size, 1, none⟩ = false ∧ w0.frozen? ⟨w.heap.size, 2, none⟩ = false := ⟨H.2 0, H.2 1, H.2 2⟩
  go_enter Try.func7, Try.ntmps7
  go_wp2_with (first
    | (go_at_call 17; refine (HC.out _).mono ?_; rintro e w1 ⟨rfl, hb⟩; clear r0 r1 r2 f0 f1 f2; replace H := H.up hb HLT; replace HLT := Nat.lt_of_lt_of_le HLT hb.size; replace B := B.trans (hb.mono B.size); clear hb; obtain ⟨r0, r1, r2⟩ : w1.cell? ⟨w.heap.size, 0, none⟩ = some (.string ⟨#[]⟩) ∧ w1.cell? ⟨w.heap.size, 1, none⟩ = some (.string ⟨#[]⟩) ∧ w1.cell? ⟨w.heap.size, 2, none⟩ = some (.bool false) := ⟨H.1 0 _ rfl, H.1 1 _ rfl, H.1 2 _ rfl⟩; obtain ⟨f0, f1, f2⟩ : w1.frozen? ⟨w.heap.size, 0, none⟩ = false ∧ w1.frozen? ⟨w.heap.size, 1, none⟩ = false ∧ w1.frozen? ⟨w.heap.size, 2, none⟩ = false := ⟨H.2 0, H.2 1, H.2 2⟩)
    | (go_at_call 18; refine (HR.out _).mono ?_; rintro e w2 ⟨rfl, hb⟩; clear r0 r1 r2 f0 f1 f2; replace H := H.up hb HLT; replace HLT := Nat.lt_of_lt_of_le HLT hb.size; replace B := B.trans (hb.mono B.size); clear hb; obtain ⟨r0, r1, r2⟩ : w2.cell? ⟨w.heap.size, 0, none⟩ = some (.string ⟨#[]⟩) ∧ w2.cell? ⟨w.heap.size, 1, none⟩ = some (.string ⟨#[]⟩) ∧ w2.cell? ⟨w.heap.size, 2, none⟩ = some (.bool false) := ⟨H.1 0 _ rfl, H.1 1 _ rfl, H.1 2 _ rfl⟩; obtain ⟨f0, f1, f2⟩ : w2.frozen? ⟨w.heap.size, 0, none⟩ = false ∧ w2.frozen? ⟨w.heap.size, 1, none⟩ = false ∧ w2.frozen? ⟨w.heap.size, 2, none⟩ = false := ⟨H.2 0, H.2 1, H.2 2⟩)
    | (go_at_call 19; refine (HS.out _).mono ?_; rintro e w' ⟨rfl, rfl⟩))
  have K := (((H.own 0 (.string ⟨#[]⟩)).own 1 (.string ⟨#[]⟩)).own 2 (.bool false)).alloc (by simpa using HLT) (.cells #[.string p, .string q, .bool true] 24)
  have k0 := K.1 0 _ rfl
  have k1 := K.1 1 _ rfl
  have k2 := K.1 2 _ rfl
  refine bodyPost_ret (v := .tuple #[.agg #[.string ⟨#[]⟩, .string ⟨#[]⟩, .bool false], .bool false]) (by simp [results, Try.results7, go_sem, k0, k1, k2]) rfl ?_
  refine ⟨rfl, ?_⟩
  refine Below.alloc ?_ (by simpa using Nat.le_of_lt HLT) _
  repeat (refine Below.setCell ?_ (by first | (simp; done) | omega) _)
  exact B
set_option maxRecDepth 100000 in
set_option maxHeartbeats 4000000 in
theorem er_no_same (s p p0 d q T : ByteArray) (w : World) (hs : s.size ≤ 1048576) (HC : Hid (∀ w, Calls Try.prog 17 #[.string s, .string ⟨#[61]⟩] w fun e w' => e = .returned (.tuple #[.string p0, .string d, .bool false]) ∧ Below w.heap.size w w')) (HR : Hid (∀ w, Calls Try.prog 18 #[.string d] w fun e w' => e = .returned (.tuple #[.string q, .bool true]) ∧ Below w.heap.size w w')) (HS : Hid (∀ w, Calls Try.prog 19 #[.string s, .string ⟨#[33]⟩] w fun e w' => e = .returned (.tuple #[.string p, .bool true]) ∧ w = w')) (HX : Hid (∀ w, Calls Try.prog 5 #[.agg #[.string p, .string q, .bool true]] w fun e w' => e = .returned (.string s) ∧ Below w.heap.size w w')) :
    Calls Try.prog 7 #[.string s] w fun e w' => e = .returned (EdAns (some ⟨p, q, true⟩)) ∧ Below w.heap.size w w' := by
  obtain ⟨w0, hw0, H, B, HLT⟩ : ∃ w0, w.alloc (.cells #[.string ⟨#[]⟩, .string ⟨#[]⟩, .bool false] 24) = w0 ∧ AtC w0 w.heap.size #[.string ⟨#[]⟩, .string ⟨#[]⟩, .bool false] ∧ Below w.heap.size w w0 ∧ w.heap.size < w0.heap.size := ⟨_, rfl, atC_new w _ _, (Below.refl _ w).alloc (Nat.le_refl _) _, by simp⟩
  obtain ⟨r0, r1, r2⟩ : w0.cell? ⟨w.heap.size, 0, none⟩ = some (.string ⟨#[]⟩) ∧ w0.cell? ⟨w.heap.size, 1, none⟩ = some (.string ⟨#[]⟩) ∧ w0.cell? ⟨w.heap.size, 2, none⟩ = some (.bool false) := ⟨H.1 0 _ rfl, H.1 1 _ rfl, H.1 2 _ rfl⟩; obtain ⟨f0, f1, f2⟩ : w0.frozen? ⟨w.heap.size, 0, none⟩ = false ∧ w0.frozen? ⟨w.heap.size, 1, none⟩ = false ∧ w0.frozen? ⟨w.heap.size, 2, none⟩ = false := ⟨H.2 0, H.2 1, H.2 2⟩
  go_enter Try.func7, Try.ntmps7
  go_wp2_with (first
    | (go_at_call 17; refine (HC.out _).mono ?_; rintro e w1 ⟨rfl, hb⟩; clear r0 r1 r2 f0 f1 f2; replace H := H.up hb HLT; replace HLT := Nat.lt_of_lt_of_le HLT hb.size; replace B := B.trans (hb.mono B.size); clear hb; obtain ⟨r0, r1, r2⟩ : w1.cell? ⟨w.heap.size, 0, none⟩ = some (.string ⟨#[]⟩) ∧ w1.cell? ⟨w.heap.size, 1, none⟩ = some (.string ⟨#[]⟩) ∧ w1.cell? ⟨w.heap.size, 2, none⟩ = some (.bool false) := ⟨H.1 0 _ rfl, H.1 1 _ rfl, H.1 2 _ rfl⟩; obtain ⟨f0, f1, f2⟩ : w1.frozen? ⟨w.heap.size, 0, none⟩ = false ∧ w1.frozen? ⟨w.heap.size, 1, none⟩ = false ∧ w1.frozen? ⟨w.heap.size, 2, none⟩ = false := ⟨H.2 0, H.2 1, H.2 2⟩)
    | (go_at_call 18; refine (HR.out _).mono ?_; rintro e w2 ⟨rfl, hb⟩; clear r0 r1 r2 f0 f1 f2; replace H := H.up hb HLT; replace HLT := Nat.lt_of_lt_of_le HLT hb.size; replace B := B.trans (hb.mono B.size); clear hb; obtain ⟨r0, r1, r2⟩ : w2.cell? ⟨w.heap.size, 0, none⟩ = some (.string ⟨#[]⟩) ∧ w2.cell? ⟨w.heap.size, 1, none⟩ = some (.string ⟨#[]⟩) ∧ w2.cell? ⟨w.heap.size, 2, none⟩ = some (.bool false) := ⟨H.1 0 _ rfl, H.1 1 _ rfl, H.1 2 _ rfl⟩; obtain ⟨f0, f1, f2⟩ : w2.frozen? ⟨w.heap.size, 0, none⟩ = false ∧ w2.frozen? ⟨w.heap.size, 1, none⟩ = false ∧ w2.frozen? ⟨w.heap.size, 2, none⟩ = false := ⟨H.2 0, H.2 1, H.2 2⟩)
    | (go_at_call 19; refine (HS.out _).mono ?_; rintro e w' ⟨rfl, rfl⟩)
    | (go_at_call 5; go_loud (have ba := (Below.refl w2.heap.size w2).alloc (Nat.le_refl _) (.cells #[.string p, .string q, .bool true] 24); have E0 := atC_new w2 #[.string p, .string q, .bool true] 24; refine (HX.out _).mono ?_; rintro e w3 ⟨rfl, hb⟩; replace E0 := E0.up hb (by simp); replace hb := ba.trans (hb.mono ba.size); clear ba; clear r0 r1 r2 f0 f1 f2; replace H := H.up hb HLT; replace HLT := Nat.lt_of_lt_of_le HLT hb.size; replace B := B.trans (hb.mono B.size); clear hb; obtain ⟨r0, r1, r2⟩ : w3.cell? ⟨w.heap.size, 0, none⟩ = some (.string ⟨#[]⟩) ∧ w3.cell? ⟨w.heap.size, 1, none⟩ = some (.string ⟨#[]⟩) ∧ w3.cell? ⟨w.heap.size, 2, none⟩ = some (.bool false) := ⟨H.1 0 _ rfl, H.1 1 _ rfl, H.1 2 _ rfl⟩; obtain ⟨f0, f1, f2⟩ : w3.frozen? ⟨w.heap.size, 0, none⟩ = false ∧ w3.frozen? ⟨w.heap.size, 1, none⟩ = false ∧ w3.frozen? ⟨w.heap.size, 2, none⟩ = false := ⟨H.2 0, H.2 1, H.2 2⟩; have e0 := E0.1 0 _ rfl; have e1 := E0.1 1 _ rfl; have e2 := E0.1 2 _ rfl)))
  have K := (((H.own 0 (.string p)).own 1 (.string q)).own 2 (.bool true))
  have k0 := K.1 0 _ rfl
  have k1 := K.1 1 _ rfl
  have k2 := K.1 2 _ rfl
  refine bodyPost_ret (v := .tuple #[.agg #[.string p, .string q, .bool true], .bool true]) (by simp [results, Try.results7, go_sem, k0, k1, k2]) rfl ?_
  refine ⟨rfl, ?_⟩
  repeat (refine Below.setCell ?_ (by first | (simp; done) | omega) _)
  exact B
set_option maxRecDepth 100000 in
set_option maxHeartbeats 4000000 in
theorem er_no_other (s p p0 d q T : ByteArray) (w : World) (hs : s.size ≤ 1048576) (HC : Hid (∀ w, Calls Try.prog 17 #[.string s, .string ⟨#[61]⟩] w fun e w' => e = .returned (.tuple #[.string p0, .string d, .bool false]) ∧ Below w.heap.size w w')) (HR : Hid (∀ w, Calls Try.prog 18 #[.string d] w fun e w' => e = .returned (.tuple #[.string q, .bool true]) ∧ Below w.heap.size w w')) (HS : Hid (∀ w, Calls Try.prog 19 #[.string s, .string ⟨#[33]⟩] w fun e w' => e = .returned (.tuple #[.string p, .bool true]) ∧ w = w')) (HX : Hid (∀ w, Calls Try.prog 5 #[.agg #[.string p, .string q, .bool true]] w fun e w' => e = .returned (.string T) ∧ Below w.heap.size w w')) (hn : (T.toList == s.toList) = false) :
    Calls Try.prog 7 #[.string s] w fun e w' => e = .returned (EdAns (none)) ∧ Below w.heap.size w w' := by
  obtain ⟨w0, hw0, H, B, HLT⟩ : ∃ w0, w.alloc (.cells #[.string ⟨#[]⟩, .string ⟨#[]⟩, .bool false] 24) = w0 ∧ AtC w0 w.heap.size #[.string ⟨#[]⟩, .string ⟨#[]⟩, .bool false] ∧ Below w.heap.size w w0 ∧ w.heap.size < w0.heap.size := ⟨_, rfl, atC_new w _ _, (Below.refl _ w).alloc (Nat.le_refl _) _, by simp⟩
  obtain ⟨r0, r1, r2⟩ : w0.cell? ⟨w.heap.size, 0, none⟩ = some (.string ⟨#[]⟩) ∧ w0.cell? ⟨w.heap.size, 1, none⟩ = some (.string ⟨#[]⟩) ∧ w0.cell? ⟨w.heap.size, 2, none⟩ = some (.bool false) := ⟨H.1 0 _ rfl, H.1 1 _ rfl, H.1 2 _ rfl⟩; obtain ⟨f0, f1, f2⟩ : w0.frozen? ⟨w.heap.size, 0, none⟩ = false ∧ w0.frozen? ⟨w.heap.size, 1, none⟩ = false ∧ w0.frozen? ⟨w.heap.size, 2, none⟩ = false := ⟨H.2 0, H.2 1, H.2 2⟩
  go_enter Try.func7, Try.ntmps7
  go_wp2_with (first
    | (go_at_call 17; refine (HC.out _).mono ?_; rintro e w1 ⟨rfl, hb⟩; clear r0 r1 r2 f0 f1 f2; replace H := H.up hb HLT; replace HLT := Nat.lt_of_lt_of_le HLT hb.size; replace B := B.trans (hb.mono B.size); clear hb; obtain ⟨r0, r1, r2⟩ : w1.cell? ⟨w.heap.size, 0, none⟩ = some (.string ⟨#[]⟩) ∧ w1.cell? ⟨w.heap.size, 1, none⟩ = some (.string ⟨#[]⟩) ∧ w1.cell? ⟨w.heap.size, 2, none⟩ = some (.bool false) := ⟨H.1 0 _ rfl, H.1 1 _ rfl, H.1 2 _ rfl⟩; obtain ⟨f0, f1, f2⟩ : w1.frozen? ⟨w.heap.size, 0, none⟩ = false ∧ w1.frozen? ⟨w.heap.size, 1, none⟩ = false ∧ w1.frozen? ⟨w.heap.size, 2, none⟩ = false := ⟨H.2 0, H.2 1, H.2 2⟩)
    | (go_at_call 18; refine (HR.out _).mono ?_; rintro e w2 ⟨rfl, hb⟩; clear r0 r1 r2 f0 f1 f2; replace H := H.up hb HLT; replace HLT := Nat.lt_of_lt_of_le HLT hb.size; replace B := B.trans (hb.mono B.size); clear hb; obtain ⟨r0, r1, r2⟩ : w2.cell? ⟨w.heap.size, 0, none⟩ = some (.string ⟨#[]⟩) ∧ w2.cell? ⟨w.heap.size, 1, none⟩ = some (.string ⟨#[]⟩) ∧ w2.cell? ⟨w.heap.size, 2, none⟩ = some (.bool false) := ⟨H.1 0 _ rfl, H.1 1 _ rfl, H.1 2 _ rfl⟩; obtain ⟨f0, f1, f2⟩ : w2.frozen? ⟨w.heap.size, 0, none⟩ = false ∧ w2.frozen? ⟨w.heap.size, 1, none⟩ = false ∧ w2.frozen? ⟨w.heap.size, 2, none⟩ = false := ⟨H.2 0, H.2 1, H.2 2⟩)
    | (go_at_call 19; refine (HS.out _).mono ?_; rintro e w' ⟨rfl, rfl⟩)
    | (go_at_call 5; go_loud (have ba := (Below.refl w2.heap.size w2).alloc (Nat.le_refl _) (.cells #[.string p, .string q, .bool true] 24); have E0 := atC_new w2 #[.string p, .string q, .bool true] 24; refine (HX.out _).mono ?_; rintro e w3 ⟨rfl, hb⟩; replace E0 := E0.up hb (by simp); replace hb := ba.trans (hb.mono ba.size); clear ba; clear r0 r1 r2 f0 f1 f2; replace H := H.up hb HLT; replace HLT := Nat.lt_of_lt_of_le HLT hb.size; replace B := B.trans (hb.mono B.size); clear hb; obtain ⟨r0, r1, r2⟩ : w3.cell? ⟨w.heap.size, 0, none⟩ = some (.string ⟨#[]⟩) ∧ w3.cell? ⟨w.heap.size, 1, none⟩ = some (.string ⟨#[]⟩) ∧ w3.cell? ⟨w.heap.size, 2, none⟩ = some (.bool false) := ⟨H.1 0 _ rfl, H.1 1 _ rfl, H.1 2 _ rfl⟩; obtain ⟨f0, f1, f2⟩ : w3.frozen? ⟨w.heap.size, 0, none⟩ = false ∧ w3.frozen? ⟨w.heap.size, 1, none⟩ = false ∧ w3.frozen? ⟨w.heap.size, 2, none⟩ = false := ⟨H.2 0, H.2 1, H.2 2⟩; have e0 := E0.1 0 _ rfl; have e1 := E0.1 1 _ rfl; have e2 := E0.1 2 _ rfl)))
  have K := (((H.own 0 (.string ⟨#[]⟩)).own 1 (.string ⟨#[]⟩)).own 2 (.bool false))
  have k0 := K.1 0 _ rfl
  have k1 := K.1 1 _ rfl
  have k2 := K.1 2 _ rfl
  refine bodyPost_ret (v := .tuple #[.agg #[.string ⟨#[]⟩, .string ⟨#[]⟩, .bool false], .bool false]) (by simp [results, Try.results7, go_sem, k0, k1, k2]) rfl ?_
  refine ⟨rfl, ?_⟩
  repeat (refine Below.setCell ?_ (by first | (simp; done) | omega) _)
  exact B
end Go.Proofs.Ytpdedjjciajddaa.W
