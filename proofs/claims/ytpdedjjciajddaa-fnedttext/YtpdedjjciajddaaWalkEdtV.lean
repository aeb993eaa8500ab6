
/-
  EdtRead of the specification, where there is a mark. Texts of at most 1048576 bytes. (Written by genedtr.py.)
-/
import Derived.Test.YtpdedjjciajddaaWalkEdtU
namespace Go.Proofs.Ytpdedjjciajddaa.W
open Go.RowKit Go.Proofs.Ytpdedjjciajddaa.M
set_option linter.unusedVariables false

set_option maxRecDepth 100000 in
set_option maxHeartbeats 4000000 in
theorem sr_at_bad (s T q : ByteArray) (k : Nat) (w : World) (hs : s.size ≤ 1048576) (hk : k < s.size) (HN : Hid (∀ j (h : j < s.size), j < k → (((s[j]).toNat : Int) == 61) = false)) (HE : Hid ((((s[k]).toNat : Int) == 61) = true)) (HR : Hid (∀ w, Calls Try.prog 20 #[.string (s.extract (k + 1) s.size)] w fun e w' => e = .returned (.tuple #[.string q, .bool false]) ∧ Below w.heap.size w w')) :
    Calls Try.prog 8 #[.string s] w fun e w' => e = .returned (EdAns (none)) ∧ Below w.heap.size w w' := by
  obtain ⟨w0, HW, B, H, G, HLT, GLT⟩ : ∃ w0, Hid ((w.alloc (.cells #[.string ⟨#[]⟩, .string ⟨#[]⟩, .bool false] 24)).alloc (.cells #[.string ⟨#[]⟩, .string ⟨#[]⟩, .bool false] 24) = w0) ∧ Below w.heap.size w w0 ∧ AtC w0 (w.heap.size) #[.string ⟨#[]⟩, .string ⟨#[]⟩, .bool false] ∧ AtC w0 (w.heap.size + 1) #[.string ⟨#[]⟩, .string ⟨#[]⟩, .bool false] ∧ w.heap.size < w0.heap.size ∧ w.heap.size + 1 < w0.heap.size := by
    refine ⟨_, rfl, ((Below.refl _ w).alloc (Nat.le_refl _) _).alloc (by simp) _, (atC_new w _ _).alloc (by simp) _, ?_, by simp; omega, by simp⟩
    have := atC_new (w.alloc (.cells #[.string ⟨#[]⟩, .string ⟨#[]⟩, .bool false] 24)) #[.string ⟨#[]⟩, .string ⟨#[]⟩, .bool false] 24
    simpa using this
  go_enter Try.func8, Try.ntmps8
  go_wp2
  go_loopw [5, 6] (fun ok i wr => (∃ j : Nat, j ≤ k ∧ ok = .bool false ∧ i = .int .i64 j ∧ wr = w0)) (fun _ i _ => s.size + 1 - (intOf i).toNat)
  case atStart => exact ⟨0, by omega, rfl, rfl, HW.out⟩
  case round =>
    obtain ⟨j, hj, rfl, rfl, rfl⟩ := hrel
    by_cases hlt : j < k
    · have hne := HN.out j (by omega) hlt
      go_wp2
      go_roundw
      case rel => exact ⟨j + 1, by omega, rfl, by go_num, by first | rfl | trivial⟩
      case measure => simp [intOf]; omega
    · obtain rfl : j = k := by omega
      have hq := HE.out
      have r0 : wr.cell? ⟨w.heap.size, 0, none⟩ = some (.string ⟨#[]⟩) := H.1 0 _ rfl
      have rf0 : wr.frozen? ⟨w.heap.size, 0, none⟩ = false := H.2 0
      have r1 : wr.cell? ⟨w.heap.size, 1, none⟩ = some (.string ⟨#[]⟩) := H.1 1 _ rfl
      have rf1 : wr.frozen? ⟨w.heap.size, 1, none⟩ = false := H.2 1
      have r2 : wr.cell? ⟨w.heap.size, 2, none⟩ = some (.bool false) := H.1 2 _ rfl
      have rf2 : wr.frozen? ⟨w.heap.size, 2, none⟩ = false := H.2 2
      have e0 : wr.cell? ⟨w.heap.size + 1, 0, none⟩ = some (.string ⟨#[]⟩) := G.1 0 _ rfl
      have ef0 : wr.frozen? ⟨w.heap.size + 1, 0, none⟩ = false := G.2 0
      have e1 : wr.cell? ⟨w.heap.size + 1, 1, none⟩ = some (.string ⟨#[]⟩) := G.1 1 _ rfl
      have ef1 : wr.frozen? ⟨w.heap.size + 1, 1, none⟩ = false := G.2 1
      have e2 : wr.cell? ⟨w.heap.size + 1, 2, none⟩ = some (.bool false) := G.1 2 _ rfl
      have ef2 : wr.frozen? ⟨w.heap.size + 1, 2, none⟩ = false := G.2 2
      go_wp2_with (go_at_call 20; go_loud (refine (HR.out _).mono ?_; rintro e w1 ⟨rfl, hb⟩; clear r0 rf0 r1 rf1 r2 rf2; clear e0 ef0 e1 ef1 e2 ef2; replace H := H.up hb HLT; replace G := G.up hb GLT; replace HLT := Nat.lt_of_lt_of_le HLT hb.size; replace GLT := Nat.lt_of_lt_of_le GLT hb.size; replace B := B.trans (hb.mono B.size); clear hb; have r0 : w1.cell? ⟨w.heap.size, 0, none⟩ = some (.string ⟨#[]⟩) := H.1 0 _ rfl; have rf0 : w1.frozen? ⟨w.heap.size, 0, none⟩ = false := H.2 0; have r1 : w1.cell? ⟨w.heap.size, 1, none⟩ = some (.string ⟨#[]⟩) := H.1 1 _ rfl; have rf1 : w1.frozen? ⟨w.heap.size, 1, none⟩ = false := H.2 1; have r2 : w1.cell? ⟨w.heap.size, 2, none⟩ = some (.bool false) := H.1 2 _ rfl; have rf2 : w1.frozen? ⟨w.heap.size, 2, none⟩ = false := H.2 2; have e0 : w1.cell? ⟨w.heap.size + 1, 0, none⟩ = some (.string ⟨#[]⟩) := G.1 0 _ rfl; have ef0 : w1.frozen? ⟨w.heap.size + 1, 0, none⟩ = false := G.2 0; have e1 : w1.cell? ⟨w.heap.size + 1, 1, none⟩ = some (.string ⟨#[]⟩) := G.1 1 _ rfl; have ef1 : w1.frozen? ⟨w.heap.size + 1, 1, none⟩ = false := G.2 1; have e2 : w1.cell? ⟨w.heap.size + 1, 2, none⟩ = some (.bool false) := G.1 2 _ rfl; have ef2 : w1.frozen? ⟨w.heap.size + 1, 2, none⟩ = false := G.2 2; ))
      have K := (((H.own 0 (.string ⟨#[]⟩)).own 1 (.string ⟨#[]⟩)).own 2 (.bool false))
      have k0 := K.1 0 _ rfl
      have k1 := K.1 1 _ rfl
      have k2 := K.1 2 _ rfl
      refine bodyPost_ret (v := .tuple #[.agg #[.string ⟨#[]⟩, .string ⟨#[]⟩, .bool false], .bool false]) (by simp [results, Try.results8, go_sem, k0, k1, k2]) rfl ?_
      refine ⟨rfl, ?_⟩
      repeat (refine Below.setCell ?_ (by first | (simp; done) | omega) _)
      exact B
set_option maxRecDepth 100000 in
set_option maxHeartbeats 4000000 in
theorem sr_at_empty (s T q : ByteArray) (k : Nat) (w : World) (hs : s.size ≤ 1048576) (hk : k < s.size) (HN : Hid (∀ j (h : j < s.size), j < k → (((s[j]).toNat : Int) == 61) = false)) (HE : Hid ((((s[k]).toNat : Int) == 61) = true)) (HR : Hid (∀ w, Calls Try.prog 20 #[.string (s.extract (k + 1) s.size)] w fun e w' => e = .returned (.tuple #[.string q, .bool true]) ∧ Below w.heap.size w w')) (HX : Hid (∀ w, Calls Try.prog 9 #[.agg #[.string (s.extract 0 k), .string q, .bool false]] w fun e w' => e = .returned (.string ⟨#[]⟩) ∧ Below w.heap.size w w')) :
    Calls Try.prog 8 #[.string s] w fun e w' => e = .returned (EdAns (none)) ∧ Below w.heap.size w w' := by
  obtain ⟨w0, HW, B, H, G, HLT, GLT⟩ : ∃ w0, Hid ((w.alloc (.cells #[.string ⟨#[]⟩, .string ⟨#[]⟩, .bool false] 24)).alloc (.cells #[.string ⟨#[]⟩, .string ⟨#[]⟩, .bool false] 24) = w0) ∧ Below w.heap.size w w0 ∧ AtC w0 (w.heap.size) #[.string ⟨#[]⟩, .string ⟨#[]⟩, .bool false] ∧ AtC w0 (w.heap.size + 1) #[.string ⟨#[]⟩, .string ⟨#[]⟩, .bool false] ∧ w.heap.size < w0.heap.size ∧ w.heap.size + 1 < w0.heap.size := by
    refine ⟨_, rfl, ((Below.refl _ w).alloc (Nat.le_refl _) _).alloc (by simp) _, (atC_new w _ _).alloc (by simp) _, ?_, by simp; omega, by simp⟩
    have := atC_new (w.alloc (.cells #[.string ⟨#[]⟩, .string ⟨#[]⟩, .bool false] 24)) #[.string ⟨#[]⟩, .string ⟨#[]⟩, .bool false] 24
    simpa using this
  go_enter Try.func8, Try.ntmps8
  go_wp2
  go_loopw [5, 6] (fun ok i wr => (∃ j : Nat, j ≤ k ∧ ok = .bool false ∧ i = .int .i64 j ∧ wr = w0) ∨ (ok = .bool true ∧ i = .int .i64 ((k + 1 : Nat) : Int) ∧ AtC wr w.heap.size #[.string ⟨#[]⟩, .string ⟨#[]⟩, .bool false] ∧ AtC wr (w.heap.size + 1) #[.string (s.extract 0 k), .string q, .bool false] ∧ w.heap.size + 1 < wr.heap.size ∧ Below w.heap.size w wr)) (fun _ i _ => s.size + 1 - (intOf i).toNat)
  case atStart => exact .inl ⟨0, by omega, rfl, rfl, HW.out⟩
  case round =>
    rcases hrel with ⟨j, hj, rfl, rfl, rfl⟩ | ⟨rfl, rfl, H, G, GLT, B⟩
    · by_cases hlt : j < k
      · have hne := HN.out j (by omega) hlt
        go_wp2
        go_roundw
        case rel => exact .inl ⟨j + 1, by omega, rfl, by go_num, by first | rfl | trivial⟩
        case measure => simp [intOf]; omega
      · obtain rfl : j = k := by omega
        have hq := HE.out
        have r0 : wr.cell? ⟨w.heap.size, 0, none⟩ = some (.string ⟨#[]⟩) := H.1 0 _ rfl
        have rf0 : wr.frozen? ⟨w.heap.size, 0, none⟩ = false := H.2 0
        have r1 : wr.cell? ⟨w.heap.size, 1, none⟩ = some (.string ⟨#[]⟩) := H.1 1 _ rfl
        have rf1 : wr.frozen? ⟨w.heap.size, 1, none⟩ = false := H.2 1
        have r2 : wr.cell? ⟨w.heap.size, 2, none⟩ = some (.bool false) := H.1 2 _ rfl
        have rf2 : wr.frozen? ⟨w.heap.size, 2, none⟩ = false := H.2 2
        have e0 : wr.cell? ⟨w.heap.size + 1, 0, none⟩ = some (.string ⟨#[]⟩) := G.1 0 _ rfl
        have ef0 : wr.frozen? ⟨w.heap.size + 1, 0, none⟩ = false := G.2 0
        have e1 : wr.cell? ⟨w.heap.size + 1, 1, none⟩ = some (.string ⟨#[]⟩) := G.1 1 _ rfl
        have ef1 : wr.frozen? ⟨w.heap.size + 1, 1, none⟩ = false := G.2 1
        have e2 : wr.cell? ⟨w.heap.size + 1, 2, none⟩ = some (.bool false) := G.1 2 _ rfl
        have ef2 : wr.frozen? ⟨w.heap.size + 1, 2, none⟩ = false := G.2 2
        go_wp2_with (go_at_call 20; go_loud (refine (HR.out _).mono ?_; rintro e w1 ⟨rfl, hb⟩; clear r0 rf0 r1 rf1 r2 rf2; clear e0 ef0 e1 ef1 e2 ef2; replace H := H.up hb HLT; replace G := G.up hb GLT; replace HLT := Nat.lt_of_lt_of_le HLT hb.size; replace GLT := Nat.lt_of_lt_of_le GLT hb.size; replace B := B.trans (hb.mono B.size); clear hb; have r0 : w1.cell? ⟨w.heap.size, 0, none⟩ = some (.string ⟨#[]⟩) := H.1 0 _ rfl; have rf0 : w1.frozen? ⟨w.heap.size, 0, none⟩ = false := H.2 0; have r1 : w1.cell? ⟨w.heap.size, 1, none⟩ = some (.string ⟨#[]⟩) := H.1 1 _ rfl; have rf1 : w1.frozen? ⟨w.heap.size, 1, none⟩ = false := H.2 1; have r2 : w1.cell? ⟨w.heap.size, 2, none⟩ = some (.bool false) := H.1 2 _ rfl; have rf2 : w1.frozen? ⟨w.heap.size, 2, none⟩ = false := H.2 2; have e0 : w1.cell? ⟨w.heap.size + 1, 0, none⟩ = some (.string ⟨#[]⟩) := G.1 0 _ rfl; have ef0 : w1.frozen? ⟨w.heap.size + 1, 0, none⟩ = false := G.2 0; have e1 : w1.cell? ⟨w.heap.size + 1, 1, none⟩ = some (.string ⟨#[]⟩) := G.1 1 _ rfl; have ef1 : w1.frozen? ⟨w.heap.size + 1, 1, none⟩ = false := G.2 1; have e2 : w1.cell? ⟨w.heap.size + 1, 2, none⟩ = some (.bool false) := G.1 2 _ rfl; have ef2 : w1.frozen? ⟨w.heap.size + 1, 2, none⟩ = false := G.2 2; ))
        go_roundw
        case rel =>
          refine .inr ⟨rfl, by go_num, ?_, ?_, by simpa using GLT, ?_⟩
          · exact ((H.set (by omega)).set (by omega)).set (by omega)
          · exact ((G.own 0 _).own 1 _).own 2 _
          · repeat (refine Below.setCell ?_ (by first | (simp; done) | omega) _)
            exact B
        case measure => simp [intOf]; omega
    · have HLT : w.heap.size < wr.heap.size := by omega
      have tk : True := trivial
      have r0 : wr.cell? ⟨w.heap.size, 0, none⟩ = some (.string ⟨#[]⟩) := H.1 0 _ rfl
      have rf0 : wr.frozen? ⟨w.heap.size, 0, none⟩ = false := H.2 0
      have r1 : wr.cell? ⟨w.heap.size, 1, none⟩ = some (.string ⟨#[]⟩) := H.1 1 _ rfl
      have rf1 : wr.frozen? ⟨w.heap.size, 1, none⟩ = false := H.2 1
      have r2 : wr.cell? ⟨w.heap.size, 2, none⟩ = some (.bool false) := H.1 2 _ rfl
      have rf2 : wr.frozen? ⟨w.heap.size, 2, none⟩ = false := H.2 2
      have e0 : wr.cell? ⟨w.heap.size + 1, 0, none⟩ = some (.string (s.extract 0 k)) := G.1 0 _ rfl
      have ef0 : wr.frozen? ⟨w.heap.size + 1, 0, none⟩ = false := G.2 0
      have e1 : wr.cell? ⟨w.heap.size + 1, 1, none⟩ = some (.string q) := G.1 1 _ rfl
      have ef1 : wr.frozen? ⟨w.heap.size + 1, 1, none⟩ = false := G.2 1
      have e2 : wr.cell? ⟨w.heap.size + 1, 2, none⟩ = some (.bool false) := G.1 2 _ rfl
      have ef2 : wr.frozen? ⟨w.heap.size + 1, 2, none⟩ = false := G.2 2
      by_cases hk1 : k + 1 < s.size
      all_goals
        go_wp2_with (first
          | (go_at_call 9; have _t := tk; go_loud (refine (HX.out _).mono ?_; rintro e w2 ⟨rfl, hb⟩; clear _t tk; clear r0 rf0 r1 rf1 r2 rf2; clear e0 ef0 e1 ef1 e2 ef2; replace H := H.up hb HLT; replace G := G.up hb GLT; replace HLT := Nat.lt_of_lt_of_le HLT hb.size; replace GLT := Nat.lt_of_lt_of_le GLT hb.size; replace B := B.trans (hb.mono B.size); clear hb; have r0 : w2.cell? ⟨w.heap.size, 0, none⟩ = some (.string ⟨#[]⟩) := H.1 0 _ rfl; have rf0 : w2.frozen? ⟨w.heap.size, 0, none⟩ = false := H.2 0; have r1 : w2.cell? ⟨w.heap.size, 1, none⟩ = some (.string ⟨#[]⟩) := H.1 1 _ rfl; have rf1 : w2.frozen? ⟨w.heap.size, 1, none⟩ = false := H.2 1; have r2 : w2.cell? ⟨w.heap.size, 2, none⟩ = some (.bool false) := H.1 2 _ rfl; have rf2 : w2.frozen? ⟨w.heap.size, 2, none⟩ = false := H.2 2; have e0 : w2.cell? ⟨w.heap.size + 1, 0, none⟩ = some (.string (s.extract 0 k)) := G.1 0 _ rfl; have ef0 : w2.frozen? ⟨w.heap.size + 1, 0, none⟩ = false := G.2 0; have e1 : w2.cell? ⟨w.heap.size + 1, 1, none⟩ = some (.string q) := G.1 1 _ rfl; have ef1 : w2.frozen? ⟨w.heap.size + 1, 1, none⟩ = false := G.2 1; have e2 : w2.cell? ⟨w.heap.size + 1, 2, none⟩ = some (.bool false) := G.1 2 _ rfl; have ef2 : w2.frozen? ⟨w.heap.size + 1, 2, none⟩ = false := G.2 2; ))
          | (go_at_call 9; go_loud (refine (HX.out _).mono ?_; rintro e w3 ⟨rfl, hb⟩; clear r0 rf0 r1 rf1 r2 rf2; clear e0 ef0 e1 ef1 e2 ef2; replace H := H.up hb HLT; replace G := G.up hb GLT; replace HLT := Nat.lt_of_lt_of_le HLT hb.size; replace GLT := Nat.lt_of_lt_of_le GLT hb.size; replace B := B.trans (hb.mono B.size); clear hb; have r0 : w3.cell? ⟨w.heap.size, 0, none⟩ = some (.string ⟨#[]⟩) := H.1 0 _ rfl; have rf0 : w3.frozen? ⟨w.heap.size, 0, none⟩ = false := H.2 0; have r1 : w3.cell? ⟨w.heap.size, 1, none⟩ = some (.string ⟨#[]⟩) := H.1 1 _ rfl; have rf1 : w3.frozen? ⟨w.heap.size, 1, none⟩ = false := H.2 1; have r2 : w3.cell? ⟨w.heap.size, 2, none⟩ = some (.bool false) := H.1 2 _ rfl; have rf2 : w3.frozen? ⟨w.heap.size, 2, none⟩ = false := H.2 2; have e0 : w3.cell? ⟨w.heap.size + 1, 0, none⟩ = some (.string (s.extract 0 k)) := G.1 0 _ rfl; have ef0 : w3.frozen? ⟨w.heap.size + 1, 0, none⟩ = false := G.2 0; have e1 : w3.cell? ⟨w.heap.size + 1, 1, none⟩ = some (.string q) := G.1 1 _ rfl; have ef1 : w3.frozen? ⟨w.heap.size + 1, 1, none⟩ = false := G.2 1; have e2 : w3.cell? ⟨w.heap.size + 1, 2, none⟩ = some (.bool false) := G.1 2 _ rfl; have ef2 : w3.frozen? ⟨w.heap.size + 1, 2, none⟩ = false := G.2 2; )))
        have K := (((H.own 0 (.string ⟨#[]⟩)).own 1 (.string ⟨#[]⟩)).own 2 (.bool false))
        have k0 := K.1 0 _ rfl
        have k1 := K.1 1 _ rfl
        have k2 := K.1 2 _ rfl
        refine bodyPost_ret (v := .tuple #[.agg #[.string ⟨#[]⟩, .string ⟨#[]⟩, .bool false], .bool false]) (by simp [results, Try.results8, go_sem, k0, k1, k2]) rfl ?_
        refine ⟨rfl, ?_⟩
        repeat (refine Below.setCell ?_ (by first | (simp; done) | omega) _)
        exact B
set_option maxRecDepth 100000 in
set_option maxHeartbeats 4000000 in
theorem sr_at_same (s T q : ByteArray) (k : Nat) (w : World) (hs : s.size ≤ 1048576) (hk : k < s.size) (HN : Hid (∀ j (h : j < s.size), j < k → (((s[j]).toNat : Int) == 61) = false)) (HE : Hid ((((s[k]).toNat : Int) == 61) = true)) (HR : Hid (∀ w, Calls Try.prog 20 #[.string (s.extract (k + 1) s.size)] w fun e w' => e = .returned (.tuple #[.string q, .bool true]) ∧ Below w.heap.size w w')) (HX : Hid (∀ w, Calls Try.prog 9 #[.agg #[.string (s.extract 0 k), .string q, .bool false]] w fun e w' => e = .returned (.string s) ∧ Below w.heap.size w w')) (he : s.toList.isEmpty = false) :
    Calls Try.prog 8 #[.string s] w fun e w' => e = .returned (EdAns (some ⟨s.extract 0 k, q, false⟩)) ∧ Below w.heap.size w w' := by
  obtain ⟨w0, HW, B, H, G, HLT, GLT⟩ : ∃ w0, Hid ((w.alloc (.cells #[.string ⟨#[]⟩, .string ⟨#[]⟩, .bool false] 24)).alloc (.cells #[.string ⟨#[]⟩, .string ⟨#[]⟩, .bool false] 24) = w0) ∧ Below w.heap.size w w0 ∧ AtC w0 (w.heap.size) #[.string ⟨#[]⟩, .string ⟨#[]⟩, .bool false] ∧ AtC w0 (w.heap.size + 1) #[.string ⟨#[]⟩, .string ⟨#[]⟩, .bool false] ∧ w.heap.size < w0.heap.size ∧ w.heap.size + 1 < w0.heap.size := by
    refine ⟨_, rfl, ((Below.refl _ w).alloc (Nat.le_refl _) _).alloc (by simp) _, (atC_new w _ _).alloc (by simp) _, ?_, by simp; omega, by simp⟩
    have := atC_new (w.alloc (.cells #[.string ⟨#[]⟩, .string ⟨#[]⟩, .bool false] 24)) #[.string ⟨#[]⟩, .string ⟨#[]⟩, .bool false] 24
    simpa using this
  go_enter Try.func8, Try.ntmps8
  go_wp2
  go_loopw [5, 6] (fun ok i wr => (∃ j : Nat, j ≤ k ∧ ok = .bool false ∧ i = .int .i64 j ∧ wr = w0) ∨ (ok = .bool true ∧ i = .int .i64 ((k + 1 : Nat) : Int) ∧ AtC wr w.heap.size #[.string ⟨#[]⟩, .string ⟨#[]⟩, .bool false] ∧ AtC wr (w.heap.size + 1) #[.string (s.extract 0 k), .string q, .bool false] ∧ w.heap.size + 1 < wr.heap.size ∧ Below w.heap.size w wr)) (fun _ i _ => s.size + 1 - (intOf i).toNat)
  case atStart => exact .inl ⟨0, by omega, rfl, rfl, HW.out⟩
  case round =>
    rcases hrel with ⟨j, hj, rfl, rfl, rfl⟩ | ⟨rfl, rfl, H, G, GLT, B⟩
    · by_cases hlt : j < k
      · have hne := HN.out j (by omega) hlt
        go_wp2
        go_roundw
        case rel => exact .inl ⟨j + 1, by omega, rfl, by go_num, by first | rfl | trivial⟩
        case measure => simp [intOf]; omega
      · obtain rfl : j = k := by omega
        have hq := HE.out
        have r0 : wr.cell? ⟨w.heap.size, 0, none⟩ = some (.string ⟨#[]⟩) := H.1 0 _ rfl
        have rf0 : wr.frozen? ⟨w.heap.size, 0, none⟩ = false := H.2 0
        have r1 : wr.cell? ⟨w.heap.size, 1, none⟩ = some (.string ⟨#[]⟩) := H.1 1 _ rfl
        have rf1 : wr.frozen? ⟨w.heap.size, 1, none⟩ = false := H.2 1
        have r2 : wr.cell? ⟨w.heap.size, 2, none⟩ = some (.bool false) := H.1 2 _ rfl
        have rf2 : wr.frozen? ⟨w.heap.size, 2, none⟩ = false := H.2 2
        have e0 : wr.cell? ⟨w.heap.size + 1, 0, none⟩ = some (.string ⟨#[]⟩) := G.1 0 _ rfl
        have ef0 : wr.frozen? ⟨w.heap.size + 1, 0, none⟩ = false := G.2 0
        have e1 : wr.cell? ⟨w.heap.size + 1, 1, none⟩ = some (.string ⟨#[]⟩) := G.1 1 _ rfl
        have ef1 : wr.frozen? ⟨w.heap.size + 1, 1, none⟩ = false := G.2 1
        have e2 : wr.cell? ⟨w.heap.size + 1, 2, none⟩ = some (.bool false) := G.1 2 _ rfl
        have ef2 : wr.frozen? ⟨w.heap.size + 1, 2, none⟩ = false := G.2 2
        go_wp2_with (go_at_call 20; go_loud (refine (HR.out _).mono ?_; rintro e w1 ⟨rfl, hb⟩; clear r0 rf0 r1 rf1 r2 rf2; clear e0 ef0 e1 ef1 e2 ef2; replace H := H.up hb HLT; replace G := G.up hb GLT; replace HLT := Nat.lt_of_lt_of_le HLT hb.size; replace GLT := Nat.lt_of_lt_of_le GLT hb.size; replace B := B.trans (hb.mono B.size); clear hb; have r0 : w1.cell? ⟨w.heap.size, 0, none⟩ = some (.string ⟨#[]⟩) := H.1 0 _ rfl; have rf0 : w1.frozen? ⟨w.heap.size, 0, none⟩ = false := H.2 0; have r1 : w1.cell? ⟨w.heap.size, 1, none⟩ = some (.string ⟨#[]⟩) := H.1 1 _ rfl; have rf1 : w1.frozen? ⟨w.heap.size, 1, none⟩ = false := H.2 1; have r2 : w1.cell? ⟨w.heap.size, 2, none⟩ = some (.bool false) := H.1 2 _ rfl; have rf2 : w1.frozen? ⟨w.heap.size, 2, none⟩ = false := H.2 2; have e0 : w1.cell? ⟨w.heap.size + 1, 0, none⟩ = some (.string ⟨#[]⟩) := G.1 0 _ rfl; have ef0 : w1.frozen? ⟨w.heap.size + 1, 0, none⟩ = false := G.2 0; have e1 : w1.cell? ⟨w.heap.size + 1, 1, none⟩ = some (.string ⟨#[]⟩) := G.1 1 _ rfl; have ef1 : w1.frozen? ⟨w.heap.size + 1, 1, none⟩ = false := G.2 1; have e2 : w1.cell? ⟨w.heap.size + 1, 2, none⟩ = some (.bool false) := G.1 2 _ rfl; have ef2 : w1.frozen? ⟨w.heap.size + 1, 2, none⟩ = false := G.2 2; ))
        go_roundw
        case rel =>
          refine .inr ⟨rfl, by go_num, ?_, ?_, by simpa using GLT, ?_⟩
          · exact ((H.set (by omega)).set (by omega)).set (by omega)
          · exact ((G.own 0 _).own 1 _).own 2 _
          · repeat (refine Below.setCell ?_ (by first | (simp; done) | omega) _)
            exact B
        case measure => simp [intOf]; omega
    · have HLT : w.heap.size < wr.heap.size := by omega
      have tk : True := trivial
      have r0 : wr.cell? ⟨w.heap.size, 0, none⟩ = some (.string ⟨#[]⟩) := H.1 0 _ rfl
      have rf0 : wr.frozen? ⟨w.heap.size, 0, none⟩ = false := H.2 0
      have r1 : wr.cell? ⟨w.heap.size, 1, none⟩ = some (.string ⟨#[]⟩) := H.1 1 _ rfl
      have rf1 : wr.frozen? ⟨w.heap.size, 1, none⟩ = false := H.2 1
      have r2 : wr.cell? ⟨w.heap.size, 2, none⟩ = some (.bool false) := H.1 2 _ rfl
      have rf2 : wr.frozen? ⟨w.heap.size, 2, none⟩ = false := H.2 2
      have e0 : wr.cell? ⟨w.heap.size + 1, 0, none⟩ = some (.string (s.extract 0 k)) := G.1 0 _ rfl
      have ef0 : wr.frozen? ⟨w.heap.size + 1, 0, none⟩ = false := G.2 0
      have e1 : wr.cell? ⟨w.heap.size + 1, 1, none⟩ = some (.string q) := G.1 1 _ rfl
      have ef1 : wr.frozen? ⟨w.heap.size + 1, 1, none⟩ = false := G.2 1
      have e2 : wr.cell? ⟨w.heap.size + 1, 2, none⟩ = some (.bool false) := G.1 2 _ rfl
      have ef2 : wr.frozen? ⟨w.heap.size + 1, 2, none⟩ = false := G.2 2
      by_cases hk1 : k + 1 < s.size
      all_goals
        go_wp2_with (first
          | (go_at_call 9; have _t := tk; go_loud (refine (HX.out _).mono ?_; rintro e w2 ⟨rfl, hb⟩; clear _t tk; clear r0 rf0 r1 rf1 r2 rf2; clear e0 ef0 e1 ef1 e2 ef2; replace H := H.up hb HLT; replace G := G.up hb GLT; replace HLT := Nat.lt_of_lt_of_le HLT hb.size; replace GLT := Nat.lt_of_lt_of_le GLT hb.size; replace B := B.trans (hb.mono B.size); clear hb; have r0 : w2.cell? ⟨w.heap.size, 0, none⟩ = some (.string ⟨#[]⟩) := H.1 0 _ rfl; have rf0 : w2.frozen? ⟨w.heap.size, 0, none⟩ = false := H.2 0; have r1 : w2.cell? ⟨w.heap.size, 1, none⟩ = some (.string ⟨#[]⟩) := H.1 1 _ rfl; have rf1 : w2.frozen? ⟨w.heap.size, 1, none⟩ = false := H.2 1; have r2 : w2.cell? ⟨w.heap.size, 2, none⟩ = some (.bool false) := H.1 2 _ rfl; have rf2 : w2.frozen? ⟨w.heap.size, 2, none⟩ = false := H.2 2; have e0 : w2.cell? ⟨w.heap.size + 1, 0, none⟩ = some (.string (s.extract 0 k)) := G.1 0 _ rfl; have ef0 : w2.frozen? ⟨w.heap.size + 1, 0, none⟩ = false := G.2 0; have e1 : w2.cell? ⟨w.heap.size + 1, 1, none⟩ = some (.string q) := G.1 1 _ rfl; have ef1 : w2.frozen? ⟨w.heap.size + 1, 1, none⟩ = false := G.2 1; have e2 : w2.cell? ⟨w.heap.size + 1, 2, none⟩ = some (.bool false) := G.1 2 _ rfl; have ef2 : w2.frozen? ⟨w.heap.size + 1, 2, none⟩ = false := G.2 2; ))
          | (go_at_call 9; go_loud (refine (HX.out _).mono ?_; rintro e w3 ⟨rfl, hb⟩; clear r0 rf0 r1 rf1 r2 rf2; clear e0 ef0 e1 ef1 e2 ef2; replace H := H.up hb HLT; replace G := G.up hb GLT; replace HLT := Nat.lt_of_lt_of_le HLT hb.size; replace GLT := Nat.lt_of_lt_of_le GLT hb.size; replace B := B.trans (hb.mono B.size); clear hb; have r0 : w3.cell? ⟨w.heap.size, 0, none⟩ = some (.string ⟨#[]⟩) := H.1 0 _ rfl; have rf0 : w3.frozen? ⟨w.heap.size, 0, none⟩ = false := H.2 0; have r1 : w3.cell? ⟨w.heap.size, 1, none⟩ = some (.string ⟨#[]⟩) := H.1 1 _ rfl; have rf1 : w3.frozen? ⟨w.heap.size, 1, none⟩ = false := H.2 1; have r2 : w3.cell? ⟨w.heap.size, 2, none⟩ = some (.bool false) := H.1 2 _ rfl; have rf2 : w3.frozen? ⟨w.heap.size, 2, none⟩ = false := H.2 2; have e0 : w3.cell? ⟨w.heap.size + 1, 0, none⟩ = some (.string (s.extract 0 k)) := G.1 0 _ rfl; have ef0 : w3.frozen? ⟨w.heap.size + 1, 0, none⟩ = false := G.2 0; have e1 : w3.cell? ⟨w.heap.size + 1, 1, none⟩ = some (.string q) := G.1 1 _ rfl; have ef1 : w3.frozen? ⟨w.heap.size + 1, 1, none⟩ = false := G.2 1; have e2 : w3.cell? ⟨w.heap.size + 1, 2, none⟩ = some (.bool false) := G.1 2 _ rfl; have ef2 : w3.frozen? ⟨w.heap.size + 1, 2, none⟩ = false := G.2 2; )))
        have K := (((H.own 0 (.string (s.extract 0 k))).own 1 (.string q)).own 2 (.bool false))
        have k0 := K.1 0 _ rfl
        have k1 := K.1 1 _ rfl
        have k2 := K.1 2 _ rfl
        refine bodyPost_ret (v := .tuple #[.agg #[.string (s.extract 0 k), .string q, .bool false], .bool true]) (by simp [results, Try.results8, go_sem, k0, k1, k2]) rfl ?_
        refine ⟨rfl, ?_⟩
        repeat (refine Below.setCell ?_ (by first | (simp; done) | omega) _)
        exact B
set_option maxRecDepth 100000 in
set_option maxHeartbeats 4000000 in
theorem sr_at_other (s T q : ByteArray) (k : Nat) (w : World) (hs : s.size ≤ 1048576) (hk : k < s.size) (HN : Hid (∀ j (h : j < s.size), j < k → (((s[j]).toNat : Int) == 61) = false)) (HE : Hid ((((s[k]).toNat : Int) == 61) = true)) (HR : Hid (∀ w, Calls Try.prog 20 #[.string (s.extract (k + 1) s.size)] w fun e w' => e = .returned (.tuple #[.string q, .bool true]) ∧ Below w.heap.size w w')) (HX : Hid (∀ w, Calls Try.prog 9 #[.agg #[.string (s.extract 0 k), .string q, .bool false]] w fun e w' => e = .returned (.string T) ∧ Below w.heap.size w w')) (he : T.toList.isEmpty = false) (hn : (T.toList == s.toList) = false) :
    Calls Try.prog 8 #[.string s] w fun e w' => e = .returned (EdAns (none)) ∧ Below w.heap.size w w' := by
  obtain ⟨w0, HW, B, H, G, HLT, GLT⟩ : ∃ w0, Hid ((w.alloc (.cells #[.string ⟨#[]⟩, .string ⟨#[]⟩, .bool false] 24)).alloc (.cells #[.string ⟨#[]⟩, .string ⟨#[]⟩, .bool false] 24) = w0) ∧ Below w.heap.size w w0 ∧ AtC w0 (w.heap.size) #[.string ⟨#[]⟩, .string ⟨#[]⟩, .bool false] ∧ AtC w0 (w.heap.size + 1) #[.string ⟨#[]⟩, .string ⟨#[]⟩, .bool false] ∧ w.heap.size < w0.heap.size ∧ w.heap.size + 1 < w0.heap.size := by
    refine ⟨_, rfl, ((Below.refl _ w).alloc (Nat.le_refl _) _).alloc (by simp) _, (atC_new w _ _).alloc (by simp) _, ?_, by simp; omega, by simp⟩
    have := atC_new (w.alloc (.cells #[.string ⟨#[]⟩, .string ⟨#[]⟩, .bool false] 24)) #[.string ⟨#[]⟩, .string ⟨#[]⟩, .bool false] 24
    simpa using this
  go_enter Try.func8, Try.ntmps8
  go_wp2
  go_loopw [5, 6] (fun ok i wr => (∃ j : Nat, j ≤ k ∧ ok = .bool false ∧ i = .int .i64 j ∧ wr = w0) ∨ (ok = .bool true ∧ i = .int .i64 ((k + 1 : Nat) : Int) ∧ AtC wr w.heap.size #[.string ⟨#[]⟩, .string ⟨#[]⟩, .bool false] ∧ AtC wr (w.heap.size + 1) #[.string (s.extract 0 k), .string q, .bool false] ∧ w.heap.size + 1 < wr.heap.size ∧ Below w.heap.size w wr)) (fun _ i _ => s.size + 1 - (intOf i).toNat)
  case atStart => exact .inl ⟨0, by omega, rfl, rfl, HW.out⟩
  case round =>
    rcases hrel with ⟨j, hj, rfl, rfl, rfl⟩ | ⟨rfl, rfl, H, G, GLT, B⟩
    · by_cases hlt : j < k
      · have hne := HN.out j (by omega) hlt
        go_wp2
        go_roundw
        case rel => exact .inl ⟨j + 1, by omega, rfl, by go_num, by first | rfl | trivial⟩
        case measure => simp [intOf]; omega
      · obtain rfl : j = k := by omega
        have hq := HE.out
        have r0 : wr.cell? ⟨w.heap.size, 0, none⟩ = some (.string ⟨#[]⟩) := H.1 0 _ rfl
        have rf0 : wr.frozen? ⟨w.heap.size, 0, none⟩ = false := H.2 0
        have r1 : wr.cell? ⟨w.heap.size, 1, none⟩ = some (.string ⟨#[]⟩) := H.1 1 _ rfl
        have rf1 : wr.frozen? ⟨w.heap.size, 1, none⟩ = false := H.2 1
        have r2 : wr.cell? ⟨w.heap.size, 2, none⟩ = some (.bool false) := H.1 2 _ rfl
        have rf2 : wr.frozen? ⟨w.heap.size, 2, none⟩ = false := H.2 2
        have e0 : wr.cell? ⟨w.heap.size + 1, 0, none⟩ = some (.string ⟨#[]⟩) := G.1 0 _ rfl
        have ef0 : wr.frozen? ⟨w.heap.size + 1, 0, none⟩ = false := G.2 0
        have e1 : wr.cell? ⟨w.heap.size + 1, 1, none⟩ = some (.string ⟨#[]⟩) := G.1 1 _ rfl
        have ef1 : wr.frozen? ⟨w.heap.size + 1, 1, none⟩ = false := G.2 1
        have e2 : wr.cell? ⟨w.heap.size + 1, 2, none⟩ = some (.bool false) := G.1 2 _ rfl
        have ef2 : wr.frozen? ⟨w.heap.size + 1, 2, none⟩ = false := G.2 2
        go_wp2_with (go_at_call 20; go_loud (refine (HR.out _).mono ?_; rintro e w1 ⟨rfl, hb⟩; clear r0 rf0 r1 rf1 r2 rf2; clear e0 ef0 e1 ef1 e2 ef2; replace H := H.up hb HLT; replace G := G.up hb GLT; replace HLT := Nat.lt_of_lt_of_le HLT hb.size; replace GLT := Nat.lt_of_lt_of_le GLT hb.size; replace B := B.trans (hb.mono B.size); clear hb; have r0 : w1.cell? ⟨w.heap.size, 0, none⟩ = some (.string ⟨#[]⟩) := H.1 0 _ rfl; have rf0 : w1.frozen? ⟨w.heap.size, 0, none⟩ = false := H.2 0; have r1 : w1.cell? ⟨w.heap.size, 1, none⟩ = some (.string ⟨#[]⟩) := H.1 1 _ rfl; have rf1 : w1.frozen? ⟨w.heap.size, 1, none⟩ = false := H.2 1; have r2 : w1.cell? ⟨w.heap.size, 2, none⟩ = some (.bool false) := H.1 2 _ rfl; have rf2 : w1.frozen? ⟨w.heap.size, 2, none⟩ = false := H.2 2; have e0 : w1.cell? ⟨w.heap.size + 1, 0, none⟩ = some (.string ⟨#[]⟩) := G.1 0 _ rfl; have ef0 : w1.frozen? ⟨w.heap.size + 1, 0, none⟩ = false := G.2 0; have e1 : w1.cell? ⟨w.heap.size + 1, 1, none⟩ = some (.string ⟨#[]⟩) := G.1 1 _ rfl; have ef1 : w1.frozen? ⟨w.heap.size + 1, 1, none⟩ = false := G.2 1; have e2 : w1.cell? ⟨w.heap.size + 1, 2, none⟩ = some (.bool false) := G.1 2 _ rfl; have ef2 : w1.frozen? ⟨w.heap.size + 1, 2, none⟩ = false := G.2 2; ))
        go_roundw
        case rel =>
          refine .inr ⟨rfl, by go_num, ?_, ?_, by simpa using GLT, ?_⟩
          · exact ((H.set (by omega)).set (by omega)).set (by omega)
          · exact ((G.own 0 _).own 1 _).own 2 _
          · repeat (refine Below.setCell ?_ (by first | (simp; done) | omega) _)
            exact B
        case measure => simp [intOf]; omega
    · have HLT : w.heap.size < wr.heap.size := by omega
      have tk : True := trivial
      have r0 : wr.cell? ⟨w.heap.size, 0, none⟩ = some (.string ⟨#[]⟩) := H.1 0 _ rfl
      have rf0 : wr.frozen? ⟨w.heap.size, 0, none⟩ = false := H.2 0
      have r1 : wr.cell? ⟨w.heap.size, 1, none⟩ = some (.string ⟨#[]⟩) := H.1 1 _ rfl
      have rf1 : wr.frozen? ⟨w.heap.size, 1, none⟩ = false := H.2 1
      have r2 : wr.cell? ⟨w.heap.size, 2, none⟩ = some (.bool false) := H.1 2 _ rfl
      have rf2 : wr.frozen? ⟨w.heap.size, 2, none⟩ = false := H.2 2
      have e0 : wr.cell? ⟨w.heap.size + 1, 0, none⟩ = some (.string (s.extract 0 k)) := G.1 0 _ rfl
      have ef0 : wr.frozen? ⟨w.heap.size + 1, 0, none⟩ = false := G.2 0
      have e1 : wr.cell? ⟨w.heap.size + 1, 1, none⟩ = some (.string q) := G.1 1 _ rfl
      have ef1 : wr.frozen? ⟨w.heap.size + 1, 1, none⟩ = false := G.2 1
      have e2 : wr.cell? ⟨w.heap.size + 1, 2, none⟩ = some (.bool false) := G.1 2 _ rfl
      have ef2 : wr.frozen? ⟨w.heap.size + 1, 2, none⟩ = false := G.2 2
      by_cases hk1 : k + 1 < s.size
      all_goals
        go_wp2_with (first
          | (go_at_call 9; have _t := tk; go_loud (refine (HX.out _).mono ?_; rintro e w2 ⟨rfl, hb⟩; clear _t tk; clear r0 rf0 r1 rf1 r2 rf2; clear e0 ef0 e1 ef1 e2 ef2; replace H := H.up hb HLT; replace G := G.up hb GLT; replace HLT := Nat.lt_of_lt_of_le HLT hb.size; replace GLT := Nat.lt_of_lt_of_le GLT hb.size; replace B := B.trans (hb.mono B.size); clear hb; have r0 : w2.cell? ⟨w.heap.size, 0, none⟩ = some (.string ⟨#[]⟩) := H.1 0 _ rfl; have rf0 : w2.frozen? ⟨w.heap.size, 0, none⟩ = false := H.2 0; have r1 : w2.cell? ⟨w.heap.size, 1, none⟩ = some (.string ⟨#[]⟩) := H.1 1 _ rfl; have rf1 : w2.frozen? ⟨w.heap.size, 1, none⟩ = false := H.2 1; have r2 : w2.cell? ⟨w.heap.size, 2, none⟩ = some (.bool false) := H.1 2 _ rfl; have rf2 : w2.frozen? ⟨w.heap.size, 2, none⟩ = false := H.2 2; have e0 : w2.cell? ⟨w.heap.size + 1, 0, none⟩ = some (.string (s.extract 0 k)) := G.1 0 _ rfl; have ef0 : w2.frozen? ⟨w.heap.size + 1, 0, none⟩ = false := G.2 0; have e1 : w2.cell? ⟨w.heap.size + 1, 1, none⟩ = some (.string q) := G.1 1 _ rfl; have ef1 : w2.frozen? ⟨w.heap.size + 1, 1, none⟩ = false := G.2 1; have e2 : w2.cell? ⟨w.heap.size + 1, 2, none⟩ = some (.bool false) := G.1 2 _ rfl; have ef2 : w2.frozen? ⟨w.heap.size + 1, 2, none⟩ = false := G.2 2; ))
          | (go_at_call 9; go_loud (refine (HX.out _).mono ?_; rintro e w3 ⟨rfl, hb⟩; clear r0 rf0 r1 rf1 r2 rf2; clear e0 ef0 e1 ef1 e2 ef2; replace H := H.up hb HLT; replace G := G.up hb GLT; replace HLT := Nat.lt_of_lt_of_le HLT hb.size; replace GLT := Nat.lt_of_lt_of_le GLT hb.size; replace B := B.trans (hb.mono B.size); clear hb; have r0 : w3.cell? ⟨w.heap.size, 0, none⟩ = some (.string ⟨#[]⟩) := H.1 0 _ rfl; have rf0 : w3.frozen? ⟨w.heap.size, 0, none⟩ = false := H.2 0; have r1 : w3.cell? ⟨w.heap.size, 1, none⟩ = some (.string ⟨#[]⟩) := H.1 1 _ rfl; have rf1 : w3.frozen? ⟨w.heap.size, 1, none⟩ = false := H.2 1; have r2 : w3.cell? ⟨w.heap.size, 2, none⟩ = some (.bool false) := H.1 2 _ rfl; have rf2 : w3.frozen? ⟨w.heap.size, 2, none⟩ = false := H.2 2; have e0 : w3.cell? ⟨w.heap.size + 1, 0, none⟩ = some (.string (s.extract 0 k)) := G.1 0 _ rfl; have ef0 : w3.frozen? ⟨w.heap.size + 1, 0, none⟩ = false := G.2 0; have e1 : w3.cell? ⟨w.heap.size + 1, 1, none⟩ = some (.string q) := G.1 1 _ rfl; have ef1 : w3.frozen? ⟨w.heap.size + 1, 1, none⟩ = false := G.2 1; have e2 : w3.cell? ⟨w.heap.size + 1, 2, none⟩ = some (.bool false) := G.1 2 _ rfl; have ef2 : w3.frozen? ⟨w.heap.size + 1, 2, none⟩ = false := G.2 2; )))
        have K := (((H.own 0 (.string ⟨#[]⟩)).own 1 (.string ⟨#[]⟩)).own 2 (.bool false))
        have k0 := K.1 0 _ rfl
        have k1 := K.1 1 _ rfl
        have k2 := K.1 2 _ rfl
        refine bodyPost_ret (v := .tuple #[.agg #[.string ⟨#[]⟩, .string ⟨#[]⟩, .bool false], .bool false]) (by simp [results, Try.results8, go_sem, k0, k1, k2]) rfl ?_
        refine ⟨rfl, ?_⟩
        repeat (refine Below.setCell ?_ (by first | (simp; done) | omega) _)
        exact B
end Go.Proofs.Ytpdedjjciajddaa.W
