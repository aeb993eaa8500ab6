
/-
  EdtRead of the specification. Texts of at most 1048576 bytes. (Written by genedtr.py.)
-/
import Derived.Test.YtpdedjjciajddaaWalkEdtR
namespace Go.Proofs.Ytpdedjjciajddaa.W
open Go.RowKit Go.Proofs.Ytpdedjjciajddaa.M
set_option linter.unusedVariables false

theorem ne61 (s : ByteArray) (j : Nat) (hj : j < s.size) (h : s.data.toList[j]? ≠ some 61) : (((s[j]).toNat : Int) == 61) = false := by
  rw [beq_eq_false_iff_ne]
  intro e
  apply h
  have e1 : s[j] = 61 := UInt8.toNat.inj (by have : (61 : UInt8).toNat = 61 := rfl; omega)
  have e2 : s.data.toList[j]? = some s[j] := by
    rw [Array.getElem?_toList]; exact Array.getElem?_eq_getElem hj
  rw [e2, e1]
theorem eq61 (s : ByteArray) (j : Nat) (hj : j < s.size) (h : s.data.toList[j]? = some 61) : (((s[j]).toNat : Int) == 61) = true := by
  have e2 : s.data.toList[j]? = some s[j] := by
    rw [Array.getElem?_toList]; exact Array.getElem?_eq_getElem hj
  rw [e2] at h
  rw [Option.some.inj h]; rfl
set_option maxRecDepth 100000 in
set_option maxHeartbeats 4000000 in
theorem sr_no_short (s T : ByteArray) (w : World) (hs : s.size ≤ 1048576) (HN : Hid (∀ j (h : j < s.size), (((s[j]).toNat : Int) == 61) = false)) (HX : Hid (∀ w, Calls Try.prog 9 #[.agg #[.string ⟨#[]⟩, .string ⟨#[]⟩, .bool false]] w fun e w' => e = .returned (.string ⟨#[]⟩) ∧ Below w.heap.size w w')) (h1 : ¬ 1 < s.size) :
    Calls Try.prog 8 #[.string s] w fun e w' => e = .returned (EdAns (none)) ∧ Below w.heap.size w w' := by
  obtain ⟨w0, HW, B, H, G, HLT, GLT⟩ : ∃ w0, Hid ((w.alloc (.cells #[.string ⟨#[]⟩, .string ⟨#[]⟩, .bool false] 24)).alloc (.cells #[.string ⟨#[]⟩, .string ⟨#[]⟩, .bool false] 24) = w0) ∧ Below w.heap.size w w0 ∧ AtC w0 (w.heap.size) #[.string ⟨#[]⟩, .string ⟨#[]⟩, .bool false] ∧ AtC w0 (w.heap.size + 1) #[.string ⟨#[]⟩, .string ⟨#[]⟩, .bool false] ∧ w.heap.size < w0.heap.size ∧ w.heap.size + 1 < w0.heap.size := by
    refine ⟨_, rfl, ((Below.refl _ w).alloc (Nat.le_refl _) _).alloc (by simp) _, (atC_new w _ _).alloc (by simp) _, ?_, by simp; omega, by simp⟩
    have := atC_new (w.alloc (.cells #[.string ⟨#[]⟩, .string ⟨#[]⟩, .bool false] 24)) #[.string ⟨#[]⟩, .string ⟨#[]⟩, .bool false] 24
    simpa using this
  go_enter Try.func8, Try.ntmps8
  go_wp2
  go_loopw [5, 6] (fun ok i wr => ∃ j : Nat, j ≤ s.size ∧ ok = .bool false ∧ i = .int .i64 j ∧ wr = w0) (fun _ i _ => s.size - (intOf i).toNat)
  case atStart => exact ⟨0, by omega, rfl, rfl, HW.out⟩
  case round =>
    obtain ⟨j, hj, rfl, rfl, rfl⟩ := hrel
    by_cases hlt : j < s.size
    · have hne := HN.out j hlt
      go_wp2
      go_roundw
      case rel => exact ⟨j + 1, by omega, rfl, by go_num, by first | rfl | trivial⟩
      case measure => simp [intOf]; omega
    · have tk : True := trivial
      have r0 : wr.cell? ⟨w.heap.size, 0, none⟩ = some (.string ⟨#[]⟩) := H.1 0 _ rfl
      have rf0 : wr.frozen? ⟨w.heap.size, 0, none⟩ = false := H.2 0
      have r1 : wr.cell? ⟨w.heap.size, 1, none⟩ = some (.string ⟨#[]⟩) := H.1 1 _ rfl
      have rf1 : wr.frozen? ⟨w.heap.size, 1, none⟩ = false := H.2 1
      have r2 : wr.cell? ⟨w.heap.size, 2, none⟩ = some (.bool false) := H.1 2 _ rfl
      have rf2 : wr.frozen? ⟨w.heap.size, 2, none⟩ = false := H.2 2
      have e0 : wr.cell? ⟨w.heap.size + 1, 0, none⟩ = some (.string ⟨#[]⟩) := G.1 0 _ rfl
      have ef0 : wr.frozen? ⟨w.heap.size + 1, 0, none⟩ = false := G.2 0
      have e1 : wr.cell? ⟨w.heap.size + 1, 1, none⟩ = some (.string ⟨#[]⟩) := G.1 1 _ rfl
      have ef1 : wr.frozen? ⟨w.heap.size + 1, 1, none⟩ = false := G.2 1
      have e2 : wr.cell? ⟨w.heap.size + 1, 2, none⟩ = some (.bool false) := G.1 2 _ rfl
      have ef2 : wr.frozen? ⟨w.heap.size + 1, 2, none⟩ = false := G.2 2
      go_wp2_with (first
        | (go_at_call 9; have _t := tk; go_loud (refine (HX.out _).mono ?_; rintro e w1 ⟨rfl, hb⟩; clear _t tk; clear r0 rf0 r1 rf1 r2 rf2; clear e0 ef0 e1 ef1 e2 ef2; replace H := H.up hb HLT; replace G := G.up hb GLT; replace HLT := Nat.lt_of_lt_of_le HLT hb.size; replace GLT := Nat.lt_of_lt_of_le GLT hb.size; replace B := B.trans (hb.mono B.size); clear hb; have r0 : w1.cell? ⟨w.heap.size, 0, none⟩ = some (.string ⟨#[]⟩) := H.1 0 _ rfl; have rf0 : w1.frozen? ⟨w.heap.size, 0, none⟩ = false := H.2 0; have r1 : w1.cell? ⟨w.heap.size, 1, none⟩ = some (.string ⟨#[]⟩) := H.1 1 _ rfl; have rf1 : w1.frozen? ⟨w.heap.size, 1, none⟩ = false := H.2 1; have r2 : w1.cell? ⟨w.heap.size, 2, none⟩ = some (.bool false) := H.1 2 _ rfl; have rf2 : w1.frozen? ⟨w.heap.size, 2, none⟩ = false := H.2 2; have e0 : w1.cell? ⟨w.heap.size + 1, 0, none⟩ = some (.string ⟨#[]⟩) := G.1 0 _ rfl; have ef0 : w1.frozen? ⟨w.heap.size + 1, 0, none⟩ = false := G.2 0; have e1 : w1.cell? ⟨w.heap.size + 1, 1, none⟩ = some (.string ⟨#[]⟩) := G.1 1 _ rfl; have ef1 : w1.frozen? ⟨w.heap.size + 1, 1, none⟩ = false := G.2 1; have e2 : w1.cell? ⟨w.heap.size + 1, 2, none⟩ = some (.bool false) := G.1 2 _ rfl; have ef2 : w1.frozen? ⟨w.heap.size + 1, 2, none⟩ = false := G.2 2; ))
        | (go_at_call 9; go_loud (refine (HX.out _).mono ?_; rintro e w2 ⟨rfl, hb⟩; clear r0 rf0 r1 rf1 r2 rf2; clear e0 ef0 e1 ef1 e2 ef2; replace H := H.up hb HLT; replace G := G.up hb GLT; replace HLT := Nat.lt_of_lt_of_le HLT hb.size; replace GLT := Nat.lt_of_lt_of_le GLT hb.size; replace B := B.trans (hb.mono B.size); clear hb; have r0 : w2.cell? ⟨w.heap.size, 0, none⟩ = some (.string ⟨#[]⟩) := H.1 0 _ rfl; have rf0 : w2.frozen? ⟨w.heap.size, 0, none⟩ = false := H.2 0; have r1 : w2.cell? ⟨w.heap.size, 1, none⟩ = some (.string ⟨#[]⟩) := H.1 1 _ rfl; have rf1 : w2.frozen? ⟨w.heap.size, 1, none⟩ = false := H.2 1; have r2 : w2.cell? ⟨w.heap.size, 2, none⟩ = some (.bool false) := H.1 2 _ rfl; have rf2 : w2.frozen? ⟨w.heap.size, 2, none⟩ = false := H.2 2; have e0 : w2.cell? ⟨w.heap.size + 1, 0, none⟩ = some (.string ⟨#[]⟩) := G.1 0 _ rfl; have ef0 : w2.frozen? ⟨w.heap.size + 1, 0, none⟩ = false := G.2 0; have e1 : w2.cell? ⟨w.heap.size + 1, 1, none⟩ = some (.string ⟨#[]⟩) := G.1 1 _ rfl; have ef1 : w2.frozen? ⟨w.heap.size + 1, 1, none⟩ = false := G.2 1; have e2 : w2.cell? ⟨w.heap.size + 1, 2, none⟩ = some (.bool false) := G.1 2 _ rfl; have ef2 : w2.frozen? ⟨w.heap.size + 1, 2, none⟩ = false := G.2 2; )))
      have K := (((H.own 0 (.string ⟨#[]⟩)).own 1 (.string ⟨#[]⟩)).own 2 (.bool false))
      have k0 := K.1 0 _ rfl
      have k1 := K.1 1 _ rfl
      have k2 := K.1 2 _ rfl
      refine bodyPost_ret (v := .tuple #[.agg #[.string ⟨#[]⟩, .string ⟨#[]⟩, .bool false], .bool false]) (by simp [results, Try.results8, go_sem, k0, k1, k2]) rfl ?_
      refine ⟨rfl, ?_⟩
      repeat (refine Below.setCell ?_ (by first | (simp; done) | omega) _)
      exact B
set_option maxRecDepth 100000 in
set_option maxHeartbeats 4000000 in
theorem sr_no_notlast (s T : ByteArray) (w : World) (hs : s.size ≤ 1048576) (HN : Hid (∀ j (h : j < s.size), (((s[j]).toNat : Int) == 61) = false)) (HX : Hid (∀ w, Calls Try.prog 9 #[.agg #[.string ⟨#[]⟩, .string ⟨#[]⟩, .bool false]] w fun e w' => e = .returned (.string ⟨#[]⟩) ∧ Below w.heap.size w w')) (h1 : 1 < s.size) (hl : (((s[s.size - 1]'(by omega)).toNat : Int) == 33) = false) :
    Calls Try.prog 8 #[.string s] w fun e w' => e = .returned (EdAns (none)) ∧ Below w.heap.size w w' := by
  obtain ⟨w0, HW, B, H, G, HLT, GLT⟩ : ∃ w0, Hid ((w.alloc (.cells #[.string ⟨#[]⟩, .string ⟨#[]⟩, .bool false] 24)).alloc (.cells #[.string ⟨#[]⟩, .string ⟨#[]⟩, .bool false] 24) = w0) ∧ Below w.heap.size w w0 ∧ AtC w0 (w.heap.size) #[.string ⟨#[]⟩, .string ⟨#[]⟩, .bool false] ∧ AtC w0 (w.heap.size + 1) #[.string ⟨#[]⟩, .string ⟨#[]⟩, .bool false] ∧ w.heap.size < w0.heap.size ∧ w.heap.size + 1 < w0.heap.size := by
    refine ⟨_, rfl, ((Below.refl _ w).alloc (Nat.le_refl _) _).alloc (by simp) _, (atC_new w _ _).alloc (by simp) _, ?_, by simp; omega, by simp⟩
    have := atC_new (w.alloc (.cells #[.string ⟨#[]⟩, .string ⟨#[]⟩, .bool false] 24)) #[.string ⟨#[]⟩, .string ⟨#[]⟩, .bool false] 24
    simpa using this
  have c1 : (s.size : Int) - 1 = ((s.size - 1 : Nat) : Int) := by omega
  go_enter Try.func8, Try.ntmps8
  go_wp2
  go_loopw [5, 6] (fun ok i wr => ∃ j : Nat, j ≤ s.size ∧ ok = .bool false ∧ i = .int .i64 j ∧ wr = w0) (fun _ i _ => s.size - (intOf i).toNat)
  case atStart => exact ⟨0, by omega, rfl, rfl, HW.out⟩
  case round =>
    obtain ⟨j, hj, rfl, rfl, rfl⟩ := hrel
    by_cases hlt : j < s.size
    · have hne := HN.out j hlt
      go_wp2
      go_roundw
      case rel => exact ⟨j + 1, by omega, rfl, by go_num, by first | rfl | trivial⟩
      case measure => simp [intOf]; omega
    · have tk : True := trivial
      have r0 : wr.cell? ⟨w.heap.size, 0, none⟩ = some (.string ⟨#[]⟩) := H.1 0 _ rfl
      have rf0 : wr.frozen? ⟨w.heap.size, 0, none⟩ = false := H.2 0
      have r1 : wr.cell? ⟨w.heap.size, 1, none⟩ = some (.string ⟨#[]⟩) := H.1 1 _ rfl
      have rf1 : wr.frozen? ⟨w.heap.size, 1, none⟩ = false := H.2 1
      have r2 : wr.cell? ⟨w.heap.size, 2, none⟩ = some (.bool false) := H.1 2 _ rfl
      have rf2 : wr.frozen? ⟨w.heap.size, 2, none⟩ = false := H.2 2
      have e0 : wr.cell? ⟨w.heap.size + 1, 0, none⟩ = some (.string ⟨#[]⟩) := G.1 0 _ rfl
      have ef0 : wr.frozen? ⟨w.heap.size + 1, 0, none⟩ = false := G.2 0
      have e1 : wr.cell? ⟨w.heap.size + 1, 1, none⟩ = some (.string ⟨#[]⟩) := G.1 1 _ rfl
      have ef1 : wr.frozen? ⟨w.heap.size + 1, 1, none⟩ = false := G.2 1
      have e2 : wr.cell? ⟨w.heap.size + 1, 2, none⟩ = some (.bool false) := G.1 2 _ rfl
      have ef2 : wr.frozen? ⟨w.heap.size + 1, 2, none⟩ = false := G.2 2
      go_wp2_with (first
        | (go_at_call 9; have _t := tk; go_loud (refine (HX.out _).mono ?_; rintro e w1 ⟨rfl, hb⟩; clear _t tk; clear r0 rf0 r1 rf1 r2 rf2; clear e0 ef0 e1 ef1 e2 ef2; replace H := H.up hb HLT; replace G := G.up hb GLT; replace HLT := Nat.lt_of_lt_of_le HLT hb.size; replace GLT := Nat.lt_of_lt_of_le GLT hb.size; replace B := B.trans (hb.mono B.size); clear hb; have r0 : w1.cell? ⟨w.heap.size, 0, none⟩ = some (.string ⟨#[]⟩) := H.1 0 _ rfl; have rf0 : w1.frozen? ⟨w.heap.size, 0, none⟩ = false := H.2 0; have r1 : w1.cell? ⟨w.heap.size, 1, none⟩ = some (.string ⟨#[]⟩) := H.1 1 _ rfl; have rf1 : w1.frozen? ⟨w.heap.size, 1, none⟩ = false := H.2 1; have r2 : w1.cell? ⟨w.heap.size, 2, none⟩ = some (.bool false) := H.1 2 _ rfl; have rf2 : w1.frozen? ⟨w.heap.size, 2, none⟩ = false := H.2 2; have e0 : w1.cell? ⟨w.heap.size + 1, 0, none⟩ = some (.string ⟨#[]⟩) := G.1 0 _ rfl; have ef0 : w1.frozen? ⟨w.heap.size + 1, 0, none⟩ = false := G.2 0; have e1 : w1.cell? ⟨w.heap.size + 1, 1, none⟩ = some (.string ⟨#[]⟩) := G.1 1 _ rfl; have ef1 : w1.frozen? ⟨w.heap.size + 1, 1, none⟩ = false := G.2 1; have e2 : w1.cell? ⟨w.heap.size + 1, 2, none⟩ = some (.bool false) := G.1 2 _ rfl; have ef2 : w1.frozen? ⟨w.heap.size + 1, 2, none⟩ = false := G.2 2; ))
        | (go_at_call 9; go_loud (refine (HX.out _).mono ?_; rintro e w2 ⟨rfl, hb⟩; clear r0 rf0 r1 rf1 r2 rf2; clear e0 ef0 e1 ef1 e2 ef2; replace H := H.up hb HLT; replace G := G.up hb GLT; replace HLT := Nat.lt_of_lt_of_le HLT hb.size; replace GLT := Nat.lt_of_lt_of_le GLT hb.size; replace B := B.trans (hb.mono B.size); clear hb; have r0 : w2.cell? ⟨w.heap.size, 0, none⟩ = some (.string ⟨#[]⟩) := H.1 0 _ rfl; have rf0 : w2.frozen? ⟨w.heap.size, 0, none⟩ = false := H.2 0; have r1 : w2.cell? ⟨w.heap.size, 1, none⟩ = some (.string ⟨#[]⟩) := H.1 1 _ rfl; have rf1 : w2.frozen? ⟨w.heap.size, 1, none⟩ = false := H.2 1; have r2 : w2.cell? ⟨w.heap.size, 2, none⟩ = some (.bool false) := H.1 2 _ rfl; have rf2 : w2.frozen? ⟨w.heap.size, 2, none⟩ = false := H.2 2; have e0 : w2.cell? ⟨w.heap.size + 1, 0, none⟩ = some (.string ⟨#[]⟩) := G.1 0 _ rfl; have ef0 : w2.frozen? ⟨w.heap.size + 1, 0, none⟩ = false := G.2 0; have e1 : w2.cell? ⟨w.heap.size + 1, 1, none⟩ = some (.string ⟨#[]⟩) := G.1 1 _ rfl; have ef1 : w2.frozen? ⟨w.heap.size + 1, 1, none⟩ = false := G.2 1; have e2 : w2.cell? ⟨w.heap.size + 1, 2, none⟩ = some (.bool false) := G.1 2 _ rfl; have ef2 : w2.frozen? ⟨w.heap.size + 1, 2, none⟩ = false := G.2 2; )))
      have K := (((H.own 0 (.string ⟨#[]⟩)).own 1 (.string ⟨#[]⟩)).own 2 (.bool false))
      have k0 := K.1 0 _ rfl
      have k1 := K.1 1 _ rfl
      have k2 := K.1 2 _ rfl
      refine bodyPost_ret (v := .tuple #[.agg #[.string ⟨#[]⟩, .string ⟨#[]⟩, .bool false], .bool false]) (by simp [results, Try.results8, go_sem, k0, k1, k2]) rfl ?_
      refine ⟨rfl, ?_⟩
      repeat (refine Below.setCell ?_ (by first | (simp; done) | omega) _)
      exact B
set_option maxRecDepth 100000 in
set_option maxHeartbeats 4000000 in
theorem sr_last_empty (s T : ByteArray) (w : World) (hs : s.size ≤ 1048576) (HN : Hid (∀ j (h : j < s.size), (((s[j]).toNat : Int) == 61) = false)) (HX : Hid (∀ w, Calls Try.prog 9 #[.agg #[.string (initB s), .string ⟨#[]⟩, .bool true]] w fun e w' => e = .returned (.string ⟨#[]⟩) ∧ Below w.heap.size w w')) (h1 : 1 < s.size) (hl : (((s[s.size - 1]'(by omega)).toNat : Int) == 33) = true) :
    Calls Try.prog 8 #[.string s] w fun e w' => e = .returned (EdAns (none)) ∧ Below w.heap.size w w' := by
  obtain ⟨w0, HW, B, H, G, HLT, GLT⟩ : ∃ w0, Hid ((w.alloc (.cells #[.string ⟨#[]⟩, .string ⟨#[]⟩, .bool false] 24)).alloc (.cells #[.string ⟨#[]⟩, .string ⟨#[]⟩, .bool false] 24) = w0) ∧ Below w.heap.size w w0 ∧ AtC w0 (w.heap.size) #[.string ⟨#[]⟩, .string ⟨#[]⟩, .bool false] ∧ AtC w0 (w.heap.size + 1) #[.string ⟨#[]⟩, .string ⟨#[]⟩, .bool false] ∧ w.heap.size < w0.heap.size ∧ w.heap.size + 1 < w0.heap.size := by
    refine ⟨_, rfl, ((Below.refl _ w).alloc (Nat.le_refl _) _).alloc (by simp) _, (atC_new w _ _).alloc (by simp) _, ?_, by simp; omega, by simp⟩
    have := atC_new (w.alloc (.cells #[.string ⟨#[]⟩, .string ⟨#[]⟩, .bool false] 24)) #[.string ⟨#[]⟩, .string ⟨#[]⟩, .bool false] 24
    simpa using this
  have c1 : (s.size : Int) - 1 = ((s.size - 1 : Nat) : Int) := by omega
  unfold initB at *
  go_enter Try.func8, Try.ntmps8
  go_wp2
  go_loopw [5, 6] (fun ok i wr => ∃ j : Nat, j ≤ s.size ∧ ok = .bool false ∧ i = .int .i64 j ∧ wr = w0) (fun _ i _ => s.size - (intOf i).toNat)
  case atStart => exact ⟨0, by omega, rfl, rfl, HW.out⟩
  case round =>
    obtain ⟨j, hj, rfl, rfl, rfl⟩ := hrel
    by_cases hlt : j < s.size
    · have hne := HN.out j hlt
      go_wp2
      go_roundw
      case rel => exact ⟨j + 1, by omega, rfl, by go_num, by first | rfl | trivial⟩
      case measure => simp [intOf]; omega
    · have G1 := ((G.own 0 (.string (s.extract 0 (s.size - 1)))).own 1 (.string ⟨#[]⟩)).own 2 (.bool true)
      have H1 := ((H.set (b' := w.heap.size + 1) (i := 0) (u := .string (s.extract 0 (s.size - 1))) (by omega)).set (b' := w.heap.size + 1) (i := 1) (u := .string ⟨#[]⟩) (by omega)).set (b' := w.heap.size + 1) (i := 2) (u := .bool true) (by omega)
      have B1 := ((B.setCell (p := ⟨w.heap.size + 1, 0, none⟩) (show w.heap.size ≤ w.heap.size + 1 by omega) (.string (s.extract 0 (s.size - 1)))).setCell (p := ⟨w.heap.size + 1, 1, none⟩) (show w.heap.size ≤ w.heap.size + 1 by omega) (.string ⟨#[]⟩)).setCell (p := ⟨w.heap.size + 1, 2, none⟩) (show w.heap.size ≤ w.heap.size + 1 by omega) (.bool true)
      have tk : True := trivial
      have r0 : wr.cell? ⟨w.heap.size, 0, none⟩ = some (.string ⟨#[]⟩) := H.1 0 _ rfl
      have rf0 : wr.frozen? ⟨w.heap.size, 0, none⟩ = false := H.2 0
      have r1 : wr.cell? ⟨w.heap.size, 1, none⟩ = some (.string ⟨#[]⟩) := H.1 1 _ rfl
      have rf1 : wr.frozen? ⟨w.heap.size, 1, none⟩ = false := H.2 1
      have r2 : wr.cell? ⟨w.heap.size, 2, none⟩ = some (.bool false) := H.1 2 _ rfl
      have rf2 : wr.frozen? ⟨w.heap.size, 2, none⟩ = false := H.2 2
      have e0 : wr.cell? ⟨w.heap.size + 1, 0, none⟩ = some (.string ⟨#[]⟩) := G.1 0 _ rfl
      have ef0 : wr.frozen? ⟨w.heap.size + 1, 0, none⟩ = false := G.2 0
      have e1 : wr.cell? ⟨w.heap.size + 1, 1, none⟩ = some (.string ⟨#[]⟩) := G.1 1 _ rfl
      have ef1 : wr.frozen? ⟨w.heap.size + 1, 1, none⟩ = false := G.2 1
      have e2 : wr.cell? ⟨w.heap.size + 1, 2, none⟩ = some (.bool false) := G.1 2 _ rfl
      have ef2 : wr.frozen? ⟨w.heap.size + 1, 2, none⟩ = false := G.2 2
      go_wp2_with (first
        | (go_at_call 9; have _t := tk; go_loud (refine (HX.out _).mono ?_; rintro e w1 ⟨rfl, hb⟩; clear _t tk; clear r0 rf0 r1 rf1 r2 rf2; clear e0 ef0 e1 ef1 e2 ef2; replace H := H1.up hb (by simpa using HLT); replace G := G1.up hb (by simpa using GLT); replace HLT := Nat.lt_of_lt_of_le HLT (by simpa using hb.size); replace GLT := Nat.lt_of_lt_of_le GLT (by simpa using hb.size); replace B := B1.trans (hb.mono B1.size); clear hb H1 G1 B1; have r0 : w1.cell? ⟨w.heap.size, 0, none⟩ = some (.string ⟨#[]⟩) := H.1 0 _ rfl; have rf0 : w1.frozen? ⟨w.heap.size, 0, none⟩ = false := H.2 0; have r1 : w1.cell? ⟨w.heap.size, 1, none⟩ = some (.string ⟨#[]⟩) := H.1 1 _ rfl; have rf1 : w1.frozen? ⟨w.heap.size, 1, none⟩ = false := H.2 1; have r2 : w1.cell? ⟨w.heap.size, 2, none⟩ = some (.bool false) := H.1 2 _ rfl; have rf2 : w1.frozen? ⟨w.heap.size, 2, none⟩ = false := H.2 2; have e0 : w1.cell? ⟨w.heap.size + 1, 0, none⟩ = some (.string (s.extract 0 (s.size - 1))) := G.1 0 _ rfl; have ef0 : w1.frozen? ⟨w.heap.size + 1, 0, none⟩ = false := G.2 0; have e1 : w1.cell? ⟨w.heap.size + 1, 1, none⟩ = some (.string ⟨#[]⟩) := G.1 1 _ rfl; have ef1 : w1.frozen? ⟨w.heap.size + 1, 1, none⟩ = false := G.2 1; have e2 : w1.cell? ⟨w.heap.size + 1, 2, none⟩ = some (.bool true) := G.1 2 _ rfl; have ef2 : w1.frozen? ⟨w.heap.size + 1, 2, none⟩ = false := G.2 2; ))
        | (go_at_call 9; go_loud (refine (HX.out _).mono ?_; rintro e w2 ⟨rfl, hb⟩; clear r0 rf0 r1 rf1 r2 rf2; clear e0 ef0 e1 ef1 e2 ef2; replace H := H.up hb HLT; replace G := G.up hb GLT; replace HLT := Nat.lt_of_lt_of_le HLT hb.size; replace GLT := Nat.lt_of_lt_of_le GLT hb.size; replace B := B.trans (hb.mono B.size); clear hb; have r0 : w2.cell? ⟨w.heap.size, 0, none⟩ = some (.string ⟨#[]⟩) := H.1 0 _ rfl; have rf0 : w2.frozen? ⟨w.heap.size, 0, none⟩ = false := H.2 0; have r1 : w2.cell? ⟨w.heap.size, 1, none⟩ = some (.string ⟨#[]⟩) := H.1 1 _ rfl; have rf1 : w2.frozen? ⟨w.heap.size, 1, none⟩ = false := H.2 1; have r2 : w2.cell? ⟨w.heap.size, 2, none⟩ = some (.bool false) := H.1 2 _ rfl; have rf2 : w2.frozen? ⟨w.heap.size, 2, none⟩ = false := H.2 2; have e0 : w2.cell? ⟨w.heap.size + 1, 0, none⟩ = some (.string (s.extract 0 (s.size - 1))) := G.1 0 _ rfl; have ef0 : w2.frozen? ⟨w.heap.size + 1, 0, none⟩ = false := G.2 0; have e1 : w2.cell? ⟨w.heap.size + 1, 1, none⟩ = some (.string ⟨#[]⟩) := G.1 1 _ rfl; have ef1 : w2.frozen? ⟨w.heap.size + 1, 1, none⟩ = false := G.2 1; have e2 : w2.cell? ⟨w.heap.size + 1, 2, none⟩ = some (.bool true) := G.1 2 _ rfl; have ef2 : w2.frozen? ⟨w.heap.size + 1, 2, none⟩ = false := G.2 2; )))
      have K := (((H.own 0 (.string ⟨#[]⟩)).own 1 (.string ⟨#[]⟩)).own 2 (.bool false))
      have k0 := K.1 0 _ rfl
      have k1 := K.1 1 _ rfl
      have k2 := K.1 2 _ rfl
      refine bodyPost_ret (v := .tuple #[.agg #[.string ⟨#[]⟩, .string ⟨#[]⟩, .bool false], .bool false]) (by simp [results, Try.results8, go_sem, k0, k1, k2]) rfl ?_
      refine ⟨rfl, ?_⟩
      repeat (refine Below.setCell ?_ (by first | (simp; done) | omega) _)
      exact B
set_option maxRecDepth 100000 in
set_option maxHeartbeats 4000000 in
theorem sr_last_same (s T : ByteArray) (w : World) (hs : s.size ≤ 1048576) (HN : Hid (∀ j (h : j < s.size), (((s[j]).toNat : Int) == 61) = false)) (HX : Hid (∀ w, Calls Try.prog 9 #[.agg #[.string (initB s), .string ⟨#[]⟩, .bool true]] w fun e w' => e = .returned (.string s) ∧ Below w.heap.size w w')) (h1 : 1 < s.size) (hl : (((s[s.size - 1]'(by omega)).toNat : Int) == 33) = true) (he : s.toList.isEmpty = false) :
    Calls Try.prog 8 #[.string s] w fun e w' => e = .returned (EdAns (some ⟨initB s, ⟨#[]⟩, true⟩)) ∧ Below w.heap.size w w' := by
  obtain ⟨w0, HW, B, H, G, HLT, GLT⟩ : ∃ w0, Hid ((w.alloc (.cells #[.string ⟨#[]⟩, .string ⟨#[]⟩, .bool false] 24)).alloc (.cells #[.string ⟨#[]⟩, .string ⟨#[]⟩, .bool false] 24) = w0) ∧ Below w.heap.size w w0 ∧ AtC w0 (w.heap.size) #[.string ⟨#[]⟩, .string ⟨#[]⟩, .bool false] ∧ AtC w0 (w.heap.size + 1) #[.string ⟨#[]⟩, .string ⟨#[]⟩, .bool false] ∧ w.heap.size < w0.heap.size ∧ w.heap.size + 1 < w0.heap.size := by
    refine ⟨_, rfl, ((Below.refl _ w).alloc (Nat.le_refl _) _).alloc (by simp) _, (atC_new w _ _).alloc (by simp) _, ?_, by simp; omega, by simp⟩
    have := atC_new (w.alloc (.cells #[.string ⟨#[]⟩, .string ⟨#[]⟩, .bool false] 24)) #[.string ⟨#[]⟩, .string ⟨#[]⟩, .bool false] 24
    simpa using this
  have c1 : (s.size : Int) - 1 = ((s.size - 1 : Nat) : Int) := by omega
  unfold initB at *
  go_enter Try.func8, Try.ntmps8
  go_wp2
  go_loopw [5, 6] (fun ok i wr => ∃ j : Nat, j ≤ s.size ∧ ok = .bool false ∧ i = .int .i64 j ∧ wr = w0) (fun _ i _ => s.size - (intOf i).toNat)
  case atStart => exact ⟨0, by omega, rfl, rfl, HW.out⟩
  case round =>
    obtain ⟨j, hj, rfl, rfl, rfl⟩ := hrel
    by_cases hlt : j < s.size
    · have hne := HN.out j hlt
      go_wp2
      go_roundw
      case rel => exact ⟨j + 1, by omega, rfl, by go_num, by first | rfl | trivial⟩
      case measure => simp [intOf]; omega
    · have G1 := ((G.own 0 (.string (s.extract 0 (s.size - 1)))).own 1 (.string ⟨#[]⟩)).own 2 (.bool true)
      have H1 := ((H.set (b' := w.heap.size + 1) (i := 0) (u := .string (s.extract 0 (s.size - 1))) (by omega)).set (b' := w.heap.size + 1) (i := 1) (u := .string ⟨#[]⟩) (by omega)).set (b' := w.heap.size + 1) (i := 2) (u := .bool true) (by omega)
      have B1 := ((B.setCell (p := ⟨w.heap.size + 1, 0, none⟩) (show w.heap.size ≤ w.heap.size + 1 by omega) (.string (s.extract 0 (s.size - 1)))).setCell (p := ⟨w.heap.size + 1, 1, none⟩) (show w.heap.size ≤ w.heap.size + 1 by omega) (.string ⟨#[]⟩)).setCell (p := ⟨w.heap.size + 1, 2, none⟩) (show w.heap.size ≤ w.heap.size + 1 by omega) (.bool true)
      have tk : True := trivial
      have r0 : wr.cell? ⟨w.heap.size, 0, none⟩ = some (.string ⟨#[]⟩) := H.1 0 _ rfl
      have rf0 : wr.frozen? ⟨w.heap.size, 0, none⟩ = false := H.2 0
      have r1 : wr.cell? ⟨w.heap.size, 1, none⟩ = some (.string ⟨#[]⟩) := H.1 1 _ rfl
      have rf1 : wr.frozen? ⟨w.heap.size, 1, none⟩ = false := H.2 1
      have r2 : wr.cell? ⟨w.heap.size, 2, none⟩ = some (.bool false) := H.1 2 _ rfl
      have rf2 : wr.frozen? ⟨w.heap.size, 2, none⟩ = false := H.2 2
      have e0 : wr.cell? ⟨w.heap.size + 1, 0, none⟩ = some (.string ⟨#[]⟩) := G.1 0 _ rfl
      have ef0 : wr.frozen? ⟨w.heap.size + 1, 0, none⟩ = false := G.2 0
      have e1 : wr.cell? ⟨w.heap.size + 1, 1, none⟩ = some (.string ⟨#[]⟩) := G.1 1 _ rfl
      have ef1 : wr.frozen? ⟨w.heap.size + 1, 1, none⟩ = false := G.2 1
      have e2 : wr.cell? ⟨w.heap.size + 1, 2, none⟩ = some (.bool false) := G.1 2 _ rfl
      have ef2 : wr.frozen? ⟨w.heap.size + 1, 2, none⟩ = false := G.2 2
      go_wp2_with (first
        | (go_at_call 9; have _t := tk; go_loud (refine (HX.out _).mono ?_; rintro e w1 ⟨rfl, hb⟩; clear _t tk; clear r0 rf0 r1 rf1 r2 rf2; clear e0 ef0 e1 ef1 e2 ef2; replace H := H1.up hb (by simpa using HLT); replace G := G1.up hb (by simpa using GLT); replace HLT := Nat.lt_of_lt_of_le HLT (by simpa using hb.size); replace GLT := Nat.lt_of_lt_of_le GLT (by simpa using hb.size); replace B := B1.trans (hb.mono B1.size); clear hb H1 G1 B1; have r0 : w1.cell? ⟨w.heap.size, 0, none⟩ = some (.string ⟨#[]⟩) := H.1 0 _ rfl; have rf0 : w1.frozen? ⟨w.heap.size, 0, none⟩ = false := H.2 0; have r1 : w1.cell? ⟨w.heap.size, 1, none⟩ = some (.string ⟨#[]⟩) := H.1 1 _ rfl; have rf1 : w1.frozen? ⟨w.heap.size, 1, none⟩ = false := H.2 1; have r2 : w1.cell? ⟨w.heap.size, 2, none⟩ = some (.bool false) := H.1 2 _ rfl; have rf2 : w1.frozen? ⟨w.heap.size, 2, none⟩ = false := H.2 2; have e0 : w1.cell? ⟨w.heap.size + 1, 0, none⟩ = some (.string (s.extract 0 (s.size - 1))) := G.1 0 _ rfl; have ef0 : w1.frozen? ⟨w.heap.size + 1, 0, none⟩ = false := G.2 0; have e1 : w1.cell? ⟨w.heap.size + 1, 1, none⟩ = some (.string ⟨#[]⟩) := G.1 1 _ rfl; have ef1 : w1.frozen? ⟨w.heap.size + 1, 1, none⟩ = false := G.2 1; have e2 : w1.cell? ⟨w.heap.size + 1, 2, none⟩ = some (.bool true) := G.1 2 _ rfl; have ef2 : w1.frozen? ⟨w.heap.size + 1, 2, none⟩ = false := G.2 2; ))
        | (go_at_call 9; go_loud (refine (HX.out _).mono ?_; rintro e w2 ⟨rfl, hb⟩; clear r0 rf0 r1 rf1 r2 rf2; clear e0 ef0 e1 ef1 e2 ef2; replace H := H.up hb HLT; replace G := G.up hb GLT; replace HLT := Nat.lt_of_lt_of_le HLT hb.size; replace GLT := Nat.lt_of_lt_of_le GLT hb.size; replace B := B.trans (hb.mono B.size); clear hb; have r0 : w2.cell? ⟨w.heap.size, 0, none⟩ = some (.string ⟨#[]⟩) := H.1 0 _ rfl; have rf0 : w2.frozen? ⟨w.heap.size, 0, none⟩ = false := H.2 0; have r1 : w2.cell? ⟨w.heap.size, 1, none⟩ = some (.string ⟨#[]⟩) := H.1 1 _ rfl; have rf1 : w2.frozen? ⟨w.heap.size, 1, none⟩ = false := H.2 1; have r2 : w2.cell? ⟨w.heap.size, 2, none⟩ = some (.bool false) := H.1 2 _ rfl; have rf2 : w2.frozen? ⟨w.heap.size, 2, none⟩ = false := H.2 2; have e0 : w2.cell? ⟨w.heap.size + 1, 0, none⟩ = some (.string (s.extract 0 (s.size - 1))) := G.1 0 _ rfl; have ef0 : w2.frozen? ⟨w.heap.size + 1, 0, none⟩ = false := G.2 0; have e1 : w2.cell? ⟨w.heap.size + 1, 1, none⟩ = some (.string ⟨#[]⟩) := G.1 1 _ rfl; have ef1 : w2.frozen? ⟨w.heap.size + 1, 1, none⟩ = false := G.2 1; have e2 : w2.cell? ⟨w.heap.size + 1, 2, none⟩ = some (.bool true) := G.1 2 _ rfl; have ef2 : w2.frozen? ⟨w.heap.size + 1, 2, none⟩ = false := G.2 2; )))
      have K := (((H.own 0 (.string (s.extract 0 (s.size - 1)))).own 1 (.string ⟨#[]⟩)).own 2 (.bool true))
      have k0 := K.1 0 _ rfl
      have k1 := K.1 1 _ rfl
      have k2 := K.1 2 _ rfl
      refine bodyPost_ret (v := .tuple #[.agg #[.string (s.extract 0 (s.size - 1)), .string ⟨#[]⟩, .bool true], .bool true]) (by simp [results, Try.results8, go_sem, k0, k1, k2]) rfl ?_
      refine ⟨rfl, ?_⟩
      repeat (refine Below.setCell ?_ (by first | (simp; done) | omega) _)
      exact B
set_option maxRecDepth 100000 in
set_option maxHeartbeats 4000000 in
theorem sr_last_other (s T : ByteArray) (w : World) (hs : s.size ≤ 1048576) (HN : Hid (∀ j (h : j < s.size), (((s[j]).toNat : Int) == 61) = false)) (HX : Hid (∀ w, Calls Try.prog 9 #[.agg #[.string (initB s), .string ⟨#[]⟩, .bool true]] w fun e w' => e = .returned (.string T) ∧ Below w.heap.size w w')) (h1 : 1 < s.size) (hl : (((s[s.size - 1]'(by omega)).toNat : Int) == 33) = true) (he : T.toList.isEmpty = false) (hn : (T.toList == s.toList) = false) :
    Calls Try.prog 8 #[.string s] w fun e w' => e = .returned (EdAns (none)) ∧ Below w.heap.size w w' := by
  obtain ⟨w0, HW, B, H, G, HLT, GLT⟩ : ∃ w0, Hid ((w.alloc (.cells #[.string ⟨#[]⟩, .string ⟨#[]⟩, .bool false] 24)).alloc (.cells #[.string ⟨#[]⟩, .string ⟨#[]⟩, .bool false] 24) = w0) ∧ Below w.heap.size w w0 ∧ AtC w0 (w.heap.size) #[.string ⟨#[]⟩, .string ⟨#[]⟩, .bool false] ∧ AtC w0 (w.heap.size + 1) #[.string ⟨#[]⟩, .string ⟨#[]⟩, .bool false] ∧ w.heap.size < w0.heap.size ∧ w.heap.size + 1 < w0.heap.size := by
    refine ⟨_, rfl, ((Below.refl _ w).alloc (Nat.le_refl _) _).alloc (by simp) _, (atC_new w _ _).alloc (by simp) _, ?_, by simp; omega, by simp⟩
    have := atC_new (w.alloc (.cells #[.string ⟨#[]⟩, .string ⟨#[]⟩, .bool false] 24)) #[.string ⟨#[]⟩, .string ⟨#[]⟩, .bool false] 24
    simpa using this
  have c1 : (s.size : Int) - 1 = ((s.size - 1 : Nat) : Int) := by omega
  unfold initB at *
  go_enter Try.func8, Try.ntmps8
  go_wp2
  go_loopw [5, 6] (fun ok i wr => ∃ j : Nat, j ≤ s.size ∧ ok = .bool false ∧ i = .int .i64 j ∧ wr = w0) (fun _ i _ => s.size - (intOf i).toNat)
  case atStart => exact ⟨0, by omega, rfl, rfl, HW.out⟩
  case round =>
    obtain ⟨j, hj, rfl, rfl, rfl⟩ := hrel
    by_cases hlt : j < s.size
    · have hne := HN.out j hlt
      go_wp2
      go_roundw
      case rel => exact ⟨j + 1, by omega, rfl, by go_num, by first | rfl | trivial⟩
      case measure => simp [intOf]; omega
    · have G1 := ((G.own 0 (.string (s.extract 0 (s.size - 1)))).own 1 (.string ⟨#[]⟩)).own 2 (.bool true)
      have H1 := ((H.set (b' := w.heap.size + 1) (i := 0) (u := .string (s.extract 0 (s.size - 1))) (by omega)).set (b' := w.heap.size + 1) (i := 1) (u := .string ⟨#[]⟩) (by omega)).set (b' := w.heap.size + 1) (i := 2) (u := .bool true) (by omega)
      have B1 := ((B.setCell (p := ⟨w.heap.size + 1, 0, none⟩) (show w.heap.size ≤ w.heap.size + 1 by omega) (.string (s.extract 0 (s.size - 1)))).setCell (p := ⟨w.heap.size + 1, 1, none⟩) (show w.heap.size ≤ w.heap.size + 1 by omega) (.string ⟨#[]⟩)).setCell (p := ⟨w.heap.size + 1, 2, none⟩) (show w.heap.size ≤ w.heap.size + 1 by omega) (.bool true)
      have tk : True := trivial
      have r0 : wr.cell? ⟨w.heap.size, 0, none⟩ = some (.string ⟨#[]⟩) := H.1 0 _ rfl
      have rf0 : wr.frozen? ⟨w.heap.size, 0, none⟩ = false := H.2 0
      have r1 : wr.cell? ⟨w.heap.size, 1, none⟩ = some (.string ⟨#[]⟩) := H.1 1 _ rfl
      have rf1 : wr.frozen? ⟨w.heap.size, 1, none⟩ = false := H.2 1
      have r2 : wr.cell? ⟨w.heap.size, 2, none⟩ = some (.bool false) := H.1 2 _ rfl
      have rf2 : wr.frozen? ⟨w.heap.size, 2, none⟩ = false := H.2 2
      have e0 : wr.cell? ⟨w.heap.size + 1, 0, none⟩ = some (.string ⟨#[]⟩) := G.1 0 _ rfl
      have ef0 : wr.frozen? ⟨w.heap.size + 1, 0, none⟩ = false := G.2 0
      have e1 : wr.cell? ⟨w.heap.size + 1, 1, none⟩ = some (.string ⟨#[]⟩) := G.1 1 _ rfl
      have ef1 : wr.frozen? ⟨w.heap.size + 1, 1, none⟩ = false := G.2 1
      have e2 : wr.cell? ⟨w.heap.size + 1, 2, none⟩ = some (.bool false) := G.1 2 _ rfl
      have ef2 : wr.frozen? ⟨w.heap.size + 1, 2, none⟩ = false := G.2 2
      go_wp2_with (first
        | (go_at_call 9; have _t := tk; go_loud (refine (HX.out _).mono ?_; rintro e w1 ⟨rfl, hb⟩; clear _t tk; clear r0 rf0 r1 rf1 r2 rf2; clear e0 ef0 e1 ef1 e2 ef2; replace H := H1.up hb (by simpa using HLT); replace G := G1.up hb (by simpa using GLT); replace HLT := Nat.lt_of_lt_of_le HLT (by simpa using hb.size); replace GLT := Nat.lt_of_lt_of_le GLT (by simpa using hb.size); replace B := B1.trans (hb.mono B1.size); clear hb H1 G1 B1; have r0 : w1.cell? ⟨w.heap.size, 0, none⟩ = some (.string ⟨#[]⟩) := H.1 0 _ rfl; have rf0 : w1.frozen? ⟨w.heap.size, 0, none⟩ = false := H.2 0; have r1 : w1.cell? ⟨w.heap.size, 1, none⟩ = some (.string ⟨#[]⟩) := H.1 1 _ rfl; have rf1 : w1.frozen? ⟨w.heap.size, 1, none⟩ = false := H.2 1; have r2 : w1.cell? ⟨w.heap.size, 2, none⟩ = some (.bool false) := H.1 2 _ rfl; have rf2 : w1.frozen? ⟨w.heap.size, 2, none⟩ = false := H.2 2; have e0 : w1.cell? ⟨w.heap.size + 1, 0, none⟩ = some (.string (s.extract 0 (s.size - 1))) := G.1 0 _ rfl; have ef0 : w1.frozen? ⟨w.heap.size + 1, 0, none⟩ = false := G.2 0; have e1 : w1.cell? ⟨w.heap.size + 1, 1, none⟩ = some (.string ⟨#[]⟩) := G.1 1 _ rfl; have ef1 : w1.frozen? ⟨w.heap.size + 1, 1, none⟩ = false := G.2 1; have e2 : w1.cell? ⟨w.heap.size + 1, 2, none⟩ = some (.bool true) := G.1 2 _ rfl; have ef2 : w1.frozen? ⟨w.heap.size + 1, 2, none⟩ = false := G.2 2; ))
        | (go_at_call 9; go_loud (refine (HX.out _).mono ?_; rintro e w2 ⟨rfl, hb⟩; clear r0 rf0 r1 rf1 r2 rf2; clear e0 ef0 e1 ef1 e2 ef2; replace H := H.up hb HLT; replace G := G.up hb GLT; replace HLT := Nat.lt_of_lt_of_le HLT hb.size; replace GLT := Nat.lt_of_lt_of_le GLT hb.size; replace B := B.trans (hb.mono B.size); clear hb; have r0 : w2.cell? ⟨w.heap.size, 0, none⟩ = some (.string ⟨#[]⟩) := H.1 0 _ rfl; have rf0 : w2.frozen? ⟨w.heap.size, 0, none⟩ = false := H.2 0; have r1 : w2.cell? ⟨w.heap.size, 1, none⟩ = some (.string ⟨#[]⟩) := H.1 1 _ rfl; have rf1 : w2.frozen? ⟨w.heap.size, 1, none⟩ = false := H.2 1; have r2 : w2.cell? ⟨w.heap.size, 2, none⟩ = some (.bool false) := H.1 2 _ rfl; have rf2 : w2.frozen? ⟨w.heap.size, 2, none⟩ = false := H.2 2; have e0 : w2.cell? ⟨w.heap.size + 1, 0, none⟩ = some (.string (s.extract 0 (s.size - 1))) := G.1 0 _ rfl; have ef0 : w2.frozen? ⟨w.heap.size + 1, 0, none⟩ = false := G.2 0; have e1 : w2.cell? ⟨w.heap.size + 1, 1, none⟩ = some (.string ⟨#[]⟩) := G.1 1 _ rfl; have ef1 : w2.frozen? ⟨w.heap.size + 1, 1, none⟩ = false := G.2 1; have e2 : w2.cell? ⟨w.heap.size + 1, 2, none⟩ = some (.bool true) := G.1 2 _ rfl; have ef2 : w2.frozen? ⟨w.heap.size + 1, 2, none⟩ = false := G.2 2; )))
      have K := (((H.own 0 (.string ⟨#[]⟩)).own 1 (.string ⟨#[]⟩)).own 2 (.bool false))
      have k0 := K.1 0 _ rfl
      have k1 := K.1 1 _ rfl
      have k2 := K.1 2 _ rfl
      refine bodyPost_ret (v := .tuple #[.agg #[.string ⟨#[]⟩, .string ⟨#[]⟩, .bool false], .bool false]) (by simp [results, Try.results8, go_sem, k0, k1, k2]) rfl ?_
      refine ⟨rfl, ?_⟩
      repeat (refine Below.setCell ?_ (by first | (simp; done) | omega) _)
      exact B
end Go.Proofs.Ytpdedjjciajddaa.W
