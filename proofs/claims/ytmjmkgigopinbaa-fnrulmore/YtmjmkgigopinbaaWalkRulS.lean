
/-
  The walks of RulSees and RulMay of the specification. At most 1048576 rules, texts of at most 1048576 bytes.
-/
import Derived.Test.YtmjmkgigopinbaaWalkRulT
namespace Go.Proofs.Ytmjmkgigopinbaa.W
open Go.RowKit Go.Proofs.Ytmjmkgigopinbaa.M

theorem any_stepS {α : Type} (L : List α) (P : α → Bool) (j : Nat) (h : j < L.length) : (L.drop j).any P = (P L[j] || (L.drop (j + 1)).any P) := by
  rw [List.drop_eq_getElem_cons h]; rfl

set_option maxHeartbeats 1000000 in
theorem rulSees_spec (A : Option Addr) (c : Nat) (L : List RR) (u : Int) (q : ByteArray) (w : World) (hL : RdR w.heap.size w A L) (hn : L.length ≤ 1048576) (ht : ∀ j (h : j < L.length), (L[j]).ref.size ≤ 1048576 ∧ (L[j]).path.size ≤ 1048576) :
    Calls Try.prog 26 #[.slice A L.length c, .int .i64 u, .string q] w fun e w' => e = .returned (.bool (L.any fun x => seesB x u q)) ∧ Below w.heap.size w w' := by
  have HL : Hid (RdR w.heap.size w A L) := hL
  have HT : Hid (∀ j (h : j < L.length), (L[j]).ref.size ≤ 1048576 ∧ (L[j]).path.size ≤ 1048576) := ht
  generalize hres : (L.any fun x => seesB x u q) = res
  have HR : Hid ((L.any fun x => seesB x u q) = res) := hres
  clear hL ht hres
  go_enter Try.func26, Try.ntmps26
  go_wp2
  go_loopw [7] (fun iv wr => ∃ j : Nat, j ≤ L.length ∧ iv = .int .i64 j ∧ Hid (res = (L.drop j).any fun x => seesB x u q) ∧ Below w.heap.size w wr) (fun i _ => L.length - (intOf i).toNat)
  case atStart => exact ⟨0, Nat.zero_le _, rfl, HR.out.symm, Below.refl _ _⟩
  case round =>
    obtain ⟨j, hj, rfl, HS, hb⟩ := hrel
    have hsz := hb.size
    by_cases hlt : j < L.length
    · obtain ⟨b, o, rfl, hbl, c1, c2, c3, c4⟩ := (HL.out.below hb (Nat.le_refl _)) j hlt
      obtain ⟨hxr, hxp⟩ := HT.out j hlt
      have est := HS.out.trans (any_stepS L _ j hlt)
      obtain ⟨x, hx⟩ : ∃ x, L[j] = x := ⟨_, rfl⟩
      rw [hx] at est c1 c2 c3 c4 hxr hxp
      clear hx HS HR
      cases q0 : seesB x u q
      · have HX : Hid (res = (L.drop (j + 1)).any fun x => seesB x u q) := by have := est; rwa [q0, Bool.false_or] at this
        have E0 : Hid (seesB x u q = false) := q0
        clear est q0
        go_wp2_with (go_at_call 33; refine (l5For_any x u q _ hxr hxp).mono ?_; rw [E0.out]; rintro e w1 ⟨rfl, hb1⟩)
        go_roundw
        case rel => exact ⟨j + 1, by omega, by go_num, HX, hb.trans (hb1.mono (by omega))⟩
        case measure => simp [intOf]; omega
      · have HX : Hid (res = true) := by have := est; rwa [q0, Bool.true_or] at this
        have E0 : Hid (seesB x u q = true) := q0
        clear est q0
        go_wp2_with (go_at_call 33; refine (l5For_any x u q _ hxr hxp).mono ?_; rw [E0.out]; rintro e w1 ⟨rfl, hb1⟩)
        go_ret
        exact ⟨ret_bool HX.out.symm, hb.trans (hb1.mono (by omega))⟩
    · go_wp2
      go_ret
      obtain rfl : j = L.length := by omega
      have e := HS.out
      rw [List.drop_length] at e
      exact ⟨ret_bool e.symm, hb⟩
set_option maxHeartbeats 1000000 in
theorem rulMay_spec (A : Option Addr) (c : Nat) (L : List RR) (u : Int) (q p : ByteArray) (wt : Bool) (w : World) (hL : RdR w.heap.size w A L) (hn : L.length ≤ 1048576) (hpp : p.size ≤ 1048576) (ht : ∀ j (h : j < L.length), (L[j]).ref.size ≤ 1048576 ∧ (L[j]).path.size ≤ 1048576) :
    Calls Try.prog 10 #[.slice A L.length c, .int .i64 u, .string q, .string p, .bool wt] w fun e w' => e = .returned (.bool (L.any fun x => mayB x u q p wt)) ∧ Below w.heap.size w w' := by
  have HL : Hid (RdR w.heap.size w A L) := hL
  have HT : Hid (∀ j (h : j < L.length), (L[j]).ref.size ≤ 1048576 ∧ (L[j]).path.size ≤ 1048576) := ht
  generalize hres : (L.any fun x => mayB x u q p wt) = res
  have HR : Hid ((L.any fun x => mayB x u q p wt) = res) := hres
  clear hL ht hres
  go_enter Try.func10, Try.ntmps10
  go_wp2
  go_loopw [11] (fun iv wr => ∃ j : Nat, j ≤ L.length ∧ iv = .int .i64 j ∧ Hid (res = (L.drop j).any fun x => mayB x u q p wt) ∧ Below w.heap.size w wr) (fun i _ => L.length - (intOf i).toNat)
  case atStart => exact ⟨0, Nat.zero_le _, rfl, HR.out.symm, Below.refl _ _⟩
  case round =>
    obtain ⟨j, hj, rfl, HS, hb⟩ := hrel
    have hsz := hb.size
    by_cases hlt : j < L.length
    · obtain ⟨b, o, rfl, hbl, c1, c2, c3, c4⟩ := (HL.out.below hb (Nat.le_refl _)) j hlt
      obtain ⟨hxr, hxp⟩ := HT.out j hlt
      have est := HS.out.trans (any_stepS L _ j hlt)
      obtain ⟨x, hx⟩ : ∃ x, L[j] = x := ⟨_, rfl⟩
      rw [hx] at est c1 c2 c3 c4 hxr hxp
      clear hx HS HR
      cases q0 : seesB x u q
      · have HX : Hid (res = (L.drop (j + 1)).any fun x => mayB x u q p wt) := by have := est; rwa [show mayB x u q p wt = false by unfold mayB; rw [q0]; rfl, Bool.false_or] at this
        have E0 : Hid (seesB x u q = false) := q0
        clear est q0
        go_wp2_with (first | (go_at_call 33; refine (l5For_any x u q _ hxr hxp).mono ?_; rw [E0.out]; rintro e w1 ⟨rfl, hb1⟩; have c3' := (hb1.cell (p := ⟨b, o + j * 4 + 2, none⟩) (by show b < _; omega)).trans c3; have c4' := (hb1.cell (p := ⟨b, o + j * 4 + 3, none⟩) (by show b < _; omega)).trans c4; have hs1 := hb1.size))
        go_roundw
        case rel => exact ⟨j + 1, by omega, by go_num, HX, hb.trans (hb1.mono (by omega))⟩
        case measure => simp [intOf]; omega
      have E0 : Hid (seesB x u q = true) := q0
      cases q1 : undB x.path.data.toList p.data.toList
      · have HX : Hid (res = (L.drop (j + 1)).any fun x => mayB x u q p wt) := by have := est; rwa [show mayB x u q p wt = false by unfold mayB; rw [q1]; simp, Bool.false_or] at this
        have E1 : Hid (undB x.path.data.toList p.data.toList = false) := q1
        clear est q0 q1
        go_wp2_with (first | (go_at_call 33; refine (l5For_any x u q _ hxr hxp).mono ?_; rw [E0.out]; rintro e w1 ⟨rfl, hb1⟩; have c3' := (hb1.cell (p := ⟨b, o + j * 4 + 2, none⟩) (by show b < _; omega)).trans c3; have c4' := (hb1.cell (p := ⟨b, o + j * 4 + 3, none⟩) (by show b < _; omega)).trans c4; have hs1 := hb1.size) | (go_at_call 34; refine (under_spec x.path p _ hxp hpp).mono ?_; rw [E1.out]; rintro e w2 ⟨rfl, hb2⟩; have c4'' := (hb2.cell (p := ⟨b, o + j * 4 + 3, none⟩) (by show b < _; omega)).trans c4'))
        have hb1 := hb1.trans (hb2.mono hb1.size)
        go_roundw
        case rel => exact ⟨j + 1, by omega, by go_num, HX, hb.trans (hb1.mono (by omega))⟩
        case measure => simp [intOf]; omega
      have E1 : Hid (undB x.path.data.toList p.data.toList = true) := q1
      by_cases q2 : x.write = true
      · have HX : Hid (res = true) := by have := est; rwa [show mayB x u q p wt = true by unfold mayB; rw [q0, q1, q2]; rfl, Bool.true_or] at this
        rw [q2] at c4
        have q2' : Hid (x.write = true) := q2
        clear est q0 q1 q2
        have hl := fun w => l5For_any x u q w hxr hxp
        rw [q2'.out, E0.out] at hl
        have HLF : Hid (∀ w, Calls Try.prog 33 #[.agg #[.int .i64 x.user, .string x.ref, .string x.path, .bool true], .int .i64 u, .string q] w fun e w' => e = .returned (.bool true) ∧ Below w.heap.size w w') := hl
        clear hl
        go_wp2_with (first | (go_at_call 33; refine (HLF.out _).mono ?_; rintro e w1 ⟨rfl, hb1⟩; have c3' := (hb1.cell (p := ⟨b, o + j * 4 + 2, none⟩) (by show b < _; omega)).trans c3; have c4' := (hb1.cell (p := ⟨b, o + j * 4 + 3, none⟩) (by show b < _; omega)).trans c4; have hs1 := hb1.size) | (go_at_call 34; refine (under_spec x.path p _ hxp hpp).mono ?_; rw [E1.out]; rintro e w2 ⟨rfl, hb2⟩; have c4'' := (hb2.cell (p := ⟨b, o + j * 4 + 3, none⟩) (by show b < _; omega)).trans c4'))
        have hb1 := hb1.trans (hb2.mono hb1.size)
        go_ret
        exact ⟨ret_bool HX.out.symm, hb.trans (hb1.mono (by omega))⟩
      have q2 : x.write = false := by simpa using q2
      rw [q2] at c4
      have hl := fun w => l5For_any x u q w hxr hxp
      rw [q2, q0] at hl
      have HLF : Hid (∀ w, Calls Try.prog 33 #[.agg #[.int .i64 x.user, .string x.ref, .string x.path, .bool false], .int .i64 u, .string q] w fun e w' => e = .returned (.bool true) ∧ Below w.heap.size w w') := hl
      clear hl
      cases wt
      · have HX : Hid (res = true) := by have := est; rwa [show mayB x u q p false = true by unfold mayB; rw [q0, q1]; simp, Bool.true_or] at this
        clear est q0 q1 q2
        go_wp2_with (first | (go_at_call 33; refine (HLF.out _).mono ?_; rintro e w1 ⟨rfl, hb1⟩; have c3' := (hb1.cell (p := ⟨b, o + j * 4 + 2, none⟩) (by show b < _; omega)).trans c3; have c4' := (hb1.cell (p := ⟨b, o + j * 4 + 3, none⟩) (by show b < _; omega)).trans c4; have hs1 := hb1.size) | (go_at_call 34; refine (under_spec x.path p _ hxp hpp).mono ?_; rw [E1.out]; rintro e w2 ⟨rfl, hb2⟩; have c4'' := (hb2.cell (p := ⟨b, o + j * 4 + 3, none⟩) (by show b < _; omega)).trans c4'))
        have hb1 := hb1.trans (hb2.mono hb1.size)
        go_ret
        exact ⟨ret_bool HX.out.symm, hb.trans (hb1.mono (by omega))⟩
      · have HX : Hid (res = (L.drop (j + 1)).any fun x => mayB x u q p true) := by have := est; rwa [show mayB x u q p true = false by unfold mayB; rw [q2]; simp, Bool.false_or] at this
        clear est q0 q1 q2
        go_wp2_with (first | (go_at_call 33; refine (HLF.out _).mono ?_; rintro e w1 ⟨rfl, hb1⟩; have c3' := (hb1.cell (p := ⟨b, o + j * 4 + 2, none⟩) (by show b < _; omega)).trans c3; have c4' := (hb1.cell (p := ⟨b, o + j * 4 + 3, none⟩) (by show b < _; omega)).trans c4; have hs1 := hb1.size) | (go_at_call 34; refine (under_spec x.path p _ hxp hpp).mono ?_; rw [E1.out]; rintro e w2 ⟨rfl, hb2⟩; have c4'' := (hb2.cell (p := ⟨b, o + j * 4 + 3, none⟩) (by show b < _; omega)).trans c4'))
        have hb1 := hb1.trans (hb2.mono hb1.size)
        go_roundw
        case rel => exact ⟨j + 1, by omega, by go_num, HX, hb.trans (hb1.mono (by omega))⟩
        case measure => simp [intOf]; omega
    · go_wp2
      go_ret
      obtain rfl : j = L.length := by omega
      have e := HS.out
      rw [List.drop_length] at e
      exact ⟨ret_bool e.symm, hb⟩
end Go.Proofs.Ytmjmkgigopinbaa.W
