/-
  Of every code: a drawn rule for user 0 lets each user what it lets; a rule for a user lets nobody else, a rule for a ref nothing in another one; the program answers as the specification; the code reads as it did. No condition.
-/
import Derived.Test.YtmjmkgigopinbaaRows
import Derived.Test.YtmjmkgigopinbaaWalkDrawR
import Derived.Test.YtmjmkgigopinbaaMathMay
import Derived.WalkKit
import Derived.ProofKit
import Derived.OpenShut
import Derived.ShutString
import Derived.ChangeOld
import Derived.Below
namespace Go.Proofs.Ytmjmkgigopinbaa.fnRulAll
open Go.ChangeShapes Go.WideShapes Go.ChangeAt Go.RowKit
open Go.ChangeMaps (open_string shut_string)
set_option linter.unusedVariables false

theorem own : ownKnob Try.prog.godebug = none := by kernel_rfl
theorem laidOut : laidOutB Try.prog = true := by kernel_rfl

/-- WHAT THE WALK IS TOLD OF A SLICE OF INTEGERS THAT CAME IN: it is nil; or it leads to a row of 'cap' cells, the numbers 'zs' (the first 'len' are its elements, the rest its spare room), each fitting its kind. -/
def IsRow (k : IntKind) (w : World) (a : Option Addr) (len cap : Nat) (zs : List Int) : Prop :=
  (a = none ∧ len = 0 ∧ cap = 0 ∧ zs = []) ∨
  ∃ x, a = some x ∧ len ≤ cap ∧ cap ≤ maxLen ∧ zs.length = cap ∧ (∀ i, i < zs.length → w.cell? (x.add i) = some (.int k (zs.getD i 0))) ∧ ∀ n ∈ zs, (Lit.int k n).wf = true

open Go.Proofs.Ytmjmkgigopinbaa.W Go.Proofs.Ytmjmkgigopinbaa.M in
set_option maxRecDepth 100000 in
set_option maxHeartbeats 4000000 in
theorem walk (a0 : Option Addr) (len0 cap0 : Nat) (z0 : List Int) (w : World) (w0 : IsRow .u8 w a0 len0 cap0 z0) :
    Calls Try.prog 7 #[.slice a0 len0 cap0] w fun e w' => e = .returned (.bool true) ∧ Below w.heap.size w w' := by
  have HS : Hid (W.Src w a0 len0 cap0 (fun i => z0.getD i 0)) := src_of w a0 len0 cap0 z0 w0
  clear w0
  by_cases h : 1048576 < len0
  · go_enter Try.func7, Try.ntmps7
    go_wp2
    go_ret
    exact ⟨rfl, Below.refl _ _⟩
  go_enter Try.func7, Try.ntmps7
  go_wp2_with (first
    | (go_at_call 8; refine (drawRulMay_any _ _ _ _ _ HS.out).mono ?_; rintro e w1 ⟨v, L, u, ref, path, wt, rfl, h1, h2, h3, h4, hu, hr, hp, B⟩; obtain ⟨A, c, rfl, rd, hc⟩ := rdR_own_cap h4; clear HS h4 h1; have HT : Hid (∀ j (h : j < L.length), (L[j]).ref.size ≤ 1048576 ∧ (L[j]).path.size ≤ 1048576) := h3.at; have HZ : Hid (SmR L) := h3; have HD : Hid (RdR w1.heap.size w1 A L) := rd; clear rd h3; obtain ⟨k, HK⟩ : ∃ k, Hid ((L.any fun x => mayB x u ref path wt) = k) := ⟨_, rfl⟩)
    | (go_at_call 9; refine (rulMay_impl A c L u ref path wt _ HD.out (by omega) (by omega) HT.out).mono ?_; rw [HK.out]; rintro e w2 ⟨rfl, hb2⟩; have HD2 : Hid (RdR w2.heap.size w2 A L) := HD.out.up hb2; clear HD; have B2 := B.trans (hb2.mono B.size); clear B hb2)
    | (go_at_call 10; refine (rulMay_spec A c L u ref path wt _ HD2.out (by omega) (by omega) HT.out).mono ?_; rw [HK.out]; rintro e w3 ⟨rfl, hb3⟩; have HD3 : Hid (RdR w3.heap.size w3 A L) := HD2.out.up hb3; clear HD2; have B3 := B2.trans (hb3.mono B2.size); clear B2 hb3))
  have hs3 := B3.size
  go_loopw [8] (fun iv wr => ∃ j : Nat, j ≤ L.length ∧ iv = .int .i64 j ∧ Below w3.heap.size w3 wr) (fun i _ => L.length - (intOf i).toNat)
  case atStart => exact ⟨0, by omega, rfl, Below.refl _ _⟩
  case round =>
    obtain ⟨j, hj, rfl, hb⟩ := hrel
    have hsz := hb.size
    have HDr : Hid (RdR wr.heap.size wr A L) := HD3.out.up hb
    by_cases hlt : j < L.length
    · obtain ⟨bb, o, rfl, hbl, c1, c2, c3, c4⟩ := HDr.out j hlt
      obtain ⟨hxr, hxp⟩ := HZ.out _ (List.getElem_mem hlt)
      obtain ⟨x, hx⟩ : ∃ x, L[j] = x := ⟨_, rfl⟩
      have HX : Hid (x ∈ L) := hx ▸ List.getElem_mem hlt
      rw [hx] at c1 c2 c3 c4 hxr hxp
      clear hx
      obtain ⟨a, r, p, b'⟩ := x
      simp only at c1 c2 c3 c4 hxr hxp
      cases h0 : mayB ⟨a, r, p, b'⟩ u ref path wt
      · have H0 : Hid (mayB ⟨a, r, p, b'⟩ u ref path wt = false) := h0
        clear h0
        have hu3 : a = 0 ∨ (a ≠ 0 ∧ a = u) ∨ (a ≠ 0 ∧ a ≠ u) := by omega
        have hr3 : r.toList.isEmpty = true ∨ (r.toList.isEmpty = false ∧ r = ref) ∨ (r.toList.isEmpty = false ∧ (r.toList == ref.toList) = false) := by
          cases z1 : r.toList.isEmpty
          · by_cases h2 : r = ref
            · exact .inr (.inl ⟨rfl, h2⟩)
            · exact .inr (.inr ⟨rfl, bytes_ne h2⟩)
          · exact .inl rfl
        rcases hu3 with rfl | ⟨h3, rfl⟩ | ⟨h3, h4⟩
        · rcases hr3 with z1 | ⟨z1, rfl⟩ | ⟨z1, z2⟩
          · go_wp2_with (go_at_call 9; refine (mayOne' (wr.alloc (.cells #[.int .i64 0, .string r, .string p, .bool b'] 32)) (wr.heap.size + 1) (by simp) ⟨0, r, p, b'⟩ 32 u ref path wt hxr hxp (by omega)).mono ?_; rw [H0.out]; rintro e w4 ⟨rfl, hb4⟩; have d0 := (hb4.cell (p := ⟨wr.heap.size, 0, none⟩) (by simp)); have d1 := (hb4.cell (p := ⟨wr.heap.size, 1, none⟩) (by simp)); have f0 := (hb4.frozen (p := ⟨wr.heap.size, 0, none⟩) (by simp)); simp at d0 d1 f0; have s4 := hb4.size; simp only [World.size_alloc] at s4)
            go_roundw
            case rel => exact ⟨j + 1, by omega, by go_num, ((hb.alloc (by omega) _).trans (hb4.mono (by first | omega | (simp; omega)))).setCell (p := ⟨wr.heap.size, 0, none⟩) (by show w3.heap.size ≤ wr.heap.size; omega) _⟩
            case measure => simp [intOf]; omega
          · go_wp2_with (go_at_call 9; refine (mayOne' (wr.alloc (.cells #[.int .i64 0, .string r, .string p, .bool b'] 32)) (wr.heap.size + 1) (by simp) ⟨0, r, p, b'⟩ 32 u r path wt hxr hxp (by omega)).mono ?_; rw [H0.out]; rintro e w4 ⟨rfl, hb4⟩; have d0 := (hb4.cell (p := ⟨wr.heap.size, 0, none⟩) (by simp)); have d1 := (hb4.cell (p := ⟨wr.heap.size, 1, none⟩) (by simp)); have f0 := (hb4.frozen (p := ⟨wr.heap.size, 0, none⟩) (by simp)); simp at d0 d1 f0; have s4 := hb4.size; simp only [World.size_alloc] at s4)
            go_roundw
            case rel => exact ⟨j + 1, by omega, by go_num, ((hb.alloc (by omega) _).trans (hb4.mono (by first | omega | (simp; omega)))).setCell (p := ⟨wr.heap.size, 0, none⟩) (by show w3.heap.size ≤ wr.heap.size; omega) _⟩
            case measure => simp [intOf]; omega
          · go_wp2_with (go_at_call 9; refine (mayOne' (wr.alloc (.cells #[.int .i64 0, .string r, .string p, .bool b'] 32)) (wr.heap.size + 1) (by simp) ⟨0, r, p, b'⟩ 32 u ref path wt hxr hxp (by omega)).mono ?_; rw [H0.out]; rintro e w4 ⟨rfl, hb4⟩; have d0 := (hb4.cell (p := ⟨wr.heap.size, 0, none⟩) (by simp)); have d1 := (hb4.cell (p := ⟨wr.heap.size, 1, none⟩) (by simp)); have f0 := (hb4.frozen (p := ⟨wr.heap.size, 0, none⟩) (by simp)); simp at d0 d1 f0; have s4 := hb4.size; simp only [World.size_alloc] at s4)
            go_roundw
            case rel => exact ⟨j + 1, by omega, by go_num, ((hb.alloc (by omega) _).trans (hb4.mono (by first | omega | (simp; omega)))).setCell (p := ⟨wr.heap.size, 0, none⟩) (by show w3.heap.size ≤ wr.heap.size; omega) _⟩
            case measure => simp [intOf]; omega
        · rcases hr3 with z1 | ⟨z1, rfl⟩ | ⟨z1, z2⟩
          · go_wp2_with (go_at_call 9; refine (mayOne' (wr.alloc (.cells #[.int .i64 u, .string r, .string p, .bool b'] 32)) (wr.heap.size + 1) (by simp) ⟨u, r, p, b'⟩ 32 u ref path wt hxr hxp (by omega)).mono ?_; rw [H0.out]; rintro e w4 ⟨rfl, hb4⟩; have d0 := (hb4.cell (p := ⟨wr.heap.size, 0, none⟩) (by simp)); have d1 := (hb4.cell (p := ⟨wr.heap.size, 1, none⟩) (by simp)); have f0 := (hb4.frozen (p := ⟨wr.heap.size, 0, none⟩) (by simp)); simp at d0 d1 f0; have s4 := hb4.size; simp only [World.size_alloc] at s4)
            go_roundw
            case rel => exact ⟨j + 1, by omega, by go_num, ((hb.alloc (by omega) _).trans (hb4.mono (by first | omega | (simp; omega)))).setCell (p := ⟨wr.heap.size, 0, none⟩) (by show w3.heap.size ≤ wr.heap.size; omega) _⟩
            case measure => simp [intOf]; omega
          · go_wp2_with (go_at_call 9; refine (mayOne' (wr.alloc (.cells #[.int .i64 u, .string r, .string p, .bool b'] 32)) (wr.heap.size + 1) (by simp) ⟨u, r, p, b'⟩ 32 u r path wt hxr hxp (by omega)).mono ?_; rw [H0.out]; rintro e w4 ⟨rfl, hb4⟩; have d0 := (hb4.cell (p := ⟨wr.heap.size, 0, none⟩) (by simp)); have d1 := (hb4.cell (p := ⟨wr.heap.size, 1, none⟩) (by simp)); have f0 := (hb4.frozen (p := ⟨wr.heap.size, 0, none⟩) (by simp)); simp at d0 d1 f0; have s4 := hb4.size; simp only [World.size_alloc] at s4)
            go_roundw
            case rel => exact ⟨j + 1, by omega, by go_num, ((hb.alloc (by omega) _).trans (hb4.mono (by first | omega | (simp; omega)))).setCell (p := ⟨wr.heap.size, 0, none⟩) (by show w3.heap.size ≤ wr.heap.size; omega) _⟩
            case measure => simp [intOf]; omega
          · go_wp2_with (go_at_call 9; refine (mayOne' (wr.alloc (.cells #[.int .i64 u, .string r, .string p, .bool b'] 32)) (wr.heap.size + 1) (by simp) ⟨u, r, p, b'⟩ 32 u ref path wt hxr hxp (by omega)).mono ?_; rw [H0.out]; rintro e w4 ⟨rfl, hb4⟩; have d0 := (hb4.cell (p := ⟨wr.heap.size, 0, none⟩) (by simp)); have d1 := (hb4.cell (p := ⟨wr.heap.size, 1, none⟩) (by simp)); have f0 := (hb4.frozen (p := ⟨wr.heap.size, 0, none⟩) (by simp)); simp at d0 d1 f0; have s4 := hb4.size; simp only [World.size_alloc] at s4)
            go_roundw
            case rel => exact ⟨j + 1, by omega, by go_num, ((hb.alloc (by omega) _).trans (hb4.mono (by first | omega | (simp; omega)))).setCell (p := ⟨wr.heap.size, 0, none⟩) (by show w3.heap.size ≤ wr.heap.size; omega) _⟩
            case measure => simp [intOf]; omega
        · rcases hr3 with z1 | ⟨z1, rfl⟩ | ⟨z1, z2⟩
          · go_wp2_with (go_at_call 9; refine (mayOne' (wr.alloc (.cells #[.int .i64 a, .string r, .string p, .bool b'] 32)) (wr.heap.size + 1) (by simp) ⟨a, r, p, b'⟩ 32 u ref path wt hxr hxp (by omega)).mono ?_; rw [H0.out]; rintro e w4 ⟨rfl, hb4⟩; have d0 := (hb4.cell (p := ⟨wr.heap.size, 0, none⟩) (by simp)); have d1 := (hb4.cell (p := ⟨wr.heap.size, 1, none⟩) (by simp)); have f0 := (hb4.frozen (p := ⟨wr.heap.size, 0, none⟩) (by simp)); simp at d0 d1 f0; have s4 := hb4.size; simp only [World.size_alloc] at s4)
            go_roundw
            case rel => exact ⟨j + 1, by omega, by go_num, ((hb.alloc (by omega) _).trans (hb4.mono (by first | omega | (simp; omega)))).setCell (p := ⟨wr.heap.size, 0, none⟩) (by show w3.heap.size ≤ wr.heap.size; omega) _⟩
            case measure => simp [intOf]; omega
          · go_wp2_with (go_at_call 9; refine (mayOne' (wr.alloc (.cells #[.int .i64 a, .string r, .string p, .bool b'] 32)) (wr.heap.size + 1) (by simp) ⟨a, r, p, b'⟩ 32 u r path wt hxr hxp (by omega)).mono ?_; rw [H0.out]; rintro e w4 ⟨rfl, hb4⟩; have d0 := (hb4.cell (p := ⟨wr.heap.size, 0, none⟩) (by simp)); have d1 := (hb4.cell (p := ⟨wr.heap.size, 1, none⟩) (by simp)); have f0 := (hb4.frozen (p := ⟨wr.heap.size, 0, none⟩) (by simp)); simp at d0 d1 f0; have s4 := hb4.size; simp only [World.size_alloc] at s4)
            go_roundw
            case rel => exact ⟨j + 1, by omega, by go_num, ((hb.alloc (by omega) _).trans (hb4.mono (by first | omega | (simp; omega)))).setCell (p := ⟨wr.heap.size, 0, none⟩) (by show w3.heap.size ≤ wr.heap.size; omega) _⟩
            case measure => simp [intOf]; omega
          · go_wp2_with (go_at_call 9; refine (mayOne' (wr.alloc (.cells #[.int .i64 a, .string r, .string p, .bool b'] 32)) (wr.heap.size + 1) (by simp) ⟨a, r, p, b'⟩ 32 u ref path wt hxr hxp (by omega)).mono ?_; rw [H0.out]; rintro e w4 ⟨rfl, hb4⟩; have d0 := (hb4.cell (p := ⟨wr.heap.size, 0, none⟩) (by simp)); have d1 := (hb4.cell (p := ⟨wr.heap.size, 1, none⟩) (by simp)); have f0 := (hb4.frozen (p := ⟨wr.heap.size, 0, none⟩) (by simp)); simp at d0 d1 f0; have s4 := hb4.size; simp only [World.size_alloc] at s4)
            go_roundw
            case rel => exact ⟨j + 1, by omega, by go_num, ((hb.alloc (by omega) _).trans (hb4.mono (by first | omega | (simp; omega)))).setCell (p := ⟨wr.heap.size, 0, none⟩) (by show w3.heap.size ≤ wr.heap.size; omega) _⟩
            case measure => simp [intOf]; omega
      · have H0 : Hid (mayB ⟨a, r, p, b'⟩ u ref path wt = true) := h0
        have HK2 : Hid ((L.any fun x => mayB x u ref path wt) = true) := may_of HX.out h0
        have HA : Hid (mayB ⟨0, r, p, b'⟩ u ref path wt = true) := may_all h0
        have hu3 : a = 0 ∨ (a ≠ 0 ∧ a = u) := by have : a = 0 ∨ a = u := may_user h0; omega
        have hr3 : r.toList.isEmpty = true ∨ (r.toList.isEmpty = false ∧ r = ref) := by
          cases z1 : r.toList.isEmpty
          · rcases may_ref h0 with h2 | h2
            · rw [empty_t _ h2] at z1; cases z1
            · exact .inr ⟨rfl, h2⟩
          · exact .inl rfl
        clear h0
        have tk : True := trivial
        rcases hu3 with rfl | ⟨h3, rfl⟩
        · rcases hr3 with z1 | ⟨z1, rfl⟩
          · go_wp2_with (first
              | (go_at_call_of 9 (Value.slice (some ⟨bb, o, none⟩) L.length c); refine (rulMay_impl (some ⟨bb, o, none⟩) c L u ref path wt w4 (HDr.out.up (((Below.refl _ _).alloc (Nat.le_refl _) _).trans (hb4.mono (by simp)))) (by omega) (by omega) HT.out).mono ?_; rw [HK2.out]; rintro e w5 ⟨rfl, hb5⟩; have e0 := (hb5.cell (p := ⟨wr.heap.size, 0, none⟩) (by show wr.heap.size < _; omega)).trans d0; have e1 := (hb5.cell (p := ⟨wr.heap.size, 1, none⟩) (by show wr.heap.size < _; omega)).trans d1; have e2 := (hb5.cell (p := ⟨wr.heap.size, 2, none⟩) (by show wr.heap.size < _; omega)).trans d2; have e3 := (hb5.cell (p := ⟨wr.heap.size, 3, none⟩) (by show wr.heap.size < _; omega)).trans d3; have g0 := (hb5.frozen (p := ⟨wr.heap.size, 0, none⟩) (by show wr.heap.size < _; omega)).trans f0; have s5 := hb5.size)
              | (go_at_call 9; have _t := tk; refine (mayOne' (wr.alloc (.cells #[.int .i64 0, .string r, .string p, .bool b'] 32)) (wr.heap.size + 1) (by simp) ⟨0, r, p, b'⟩ 32 u ref path wt hxr hxp (by omega)).mono ?_; rw [H0.out]; rintro e w4 ⟨rfl, hb4⟩; clear tk _t; have d0 := (hb4.cell (p := ⟨wr.heap.size, 0, none⟩) (by simp)); have d1 := (hb4.cell (p := ⟨wr.heap.size, 1, none⟩) (by simp)); have d2 := (hb4.cell (p := ⟨wr.heap.size, 2, none⟩) (by simp)); have d3 := (hb4.cell (p := ⟨wr.heap.size, 3, none⟩) (by simp)); have f0 := (hb4.frozen (p := ⟨wr.heap.size, 0, none⟩) (by simp)); simp at d0 d1 d2 d3 f0; have s4 := hb4.size; simp only [World.size_alloc] at s4)
              | (go_at_call 9; refine (mayOne' (w5.setCell ⟨wr.heap.size, 0, none⟩ (.int .i64 0)) w5.heap.size (by simp) ⟨0, r, p, b'⟩ 32 u ref path wt hxr hxp (by omega)).mono ?_; rw [HA.out]; rintro e w6 ⟨rfl, hb6⟩))
            go_roundw
            case rel => exact ⟨j + 1, by omega, by go_num, ((((hb.alloc (by omega) _).trans (hb4.mono (by first | omega | (simp; omega)))).trans (hb5.mono (by omega))).setCell (p := ⟨wr.heap.size, 0, none⟩) (by show w3.heap.size ≤ wr.heap.size; omega) _).trans (hb6.mono (by first | omega | (simp; omega)))⟩
            case measure => simp [intOf]; omega
          · go_wp2_with (first
              | (go_at_call_of 9 (Value.slice (some ⟨bb, o, none⟩) L.length c); refine (rulMay_impl (some ⟨bb, o, none⟩) c L u r path wt w4 (HDr.out.up (((Below.refl _ _).alloc (Nat.le_refl _) _).trans (hb4.mono (by simp)))) (by omega) (by omega) HT.out).mono ?_; rw [HK2.out]; rintro e w5 ⟨rfl, hb5⟩; have e0 := (hb5.cell (p := ⟨wr.heap.size, 0, none⟩) (by show wr.heap.size < _; omega)).trans d0; have e1 := (hb5.cell (p := ⟨wr.heap.size, 1, none⟩) (by show wr.heap.size < _; omega)).trans d1; have e2 := (hb5.cell (p := ⟨wr.heap.size, 2, none⟩) (by show wr.heap.size < _; omega)).trans d2; have e3 := (hb5.cell (p := ⟨wr.heap.size, 3, none⟩) (by show wr.heap.size < _; omega)).trans d3; have g0 := (hb5.frozen (p := ⟨wr.heap.size, 0, none⟩) (by show wr.heap.size < _; omega)).trans f0; have s5 := hb5.size)
              | (go_at_call 9; have _t := tk; refine (mayOne' (wr.alloc (.cells #[.int .i64 0, .string r, .string p, .bool b'] 32)) (wr.heap.size + 1) (by simp) ⟨0, r, p, b'⟩ 32 u r path wt hxr hxp (by omega)).mono ?_; rw [H0.out]; rintro e w4 ⟨rfl, hb4⟩; clear tk _t; have d0 := (hb4.cell (p := ⟨wr.heap.size, 0, none⟩) (by simp)); have d1 := (hb4.cell (p := ⟨wr.heap.size, 1, none⟩) (by simp)); have d2 := (hb4.cell (p := ⟨wr.heap.size, 2, none⟩) (by simp)); have d3 := (hb4.cell (p := ⟨wr.heap.size, 3, none⟩) (by simp)); have f0 := (hb4.frozen (p := ⟨wr.heap.size, 0, none⟩) (by simp)); simp at d0 d1 d2 d3 f0; have s4 := hb4.size; simp only [World.size_alloc] at s4)
              | (go_at_call 9; refine (mayOne' (w5.setCell ⟨wr.heap.size, 0, none⟩ (.int .i64 0)) w5.heap.size (by simp) ⟨0, r, p, b'⟩ 32 u r path wt hxr hxp (by omega)).mono ?_; rw [HA.out]; rintro e w6 ⟨rfl, hb6⟩))
            go_roundw
            case rel => exact ⟨j + 1, by omega, by go_num, ((((hb.alloc (by omega) _).trans (hb4.mono (by first | omega | (simp; omega)))).trans (hb5.mono (by omega))).setCell (p := ⟨wr.heap.size, 0, none⟩) (by show w3.heap.size ≤ wr.heap.size; omega) _).trans (hb6.mono (by first | omega | (simp; omega)))⟩
            case measure => simp [intOf]; omega
        · rcases hr3 with z1 | ⟨z1, rfl⟩
          · go_wp2_with (first
              | (go_at_call_of 9 (Value.slice (some ⟨bb, o, none⟩) L.length c); refine (rulMay_impl (some ⟨bb, o, none⟩) c L u ref path wt w4 (HDr.out.up (((Below.refl _ _).alloc (Nat.le_refl _) _).trans (hb4.mono (by simp)))) (by omega) (by omega) HT.out).mono ?_; rw [HK2.out]; rintro e w5 ⟨rfl, hb5⟩; have e0 := (hb5.cell (p := ⟨wr.heap.size, 0, none⟩) (by show wr.heap.size < _; omega)).trans d0; have e1 := (hb5.cell (p := ⟨wr.heap.size, 1, none⟩) (by show wr.heap.size < _; omega)).trans d1; have e2 := (hb5.cell (p := ⟨wr.heap.size, 2, none⟩) (by show wr.heap.size < _; omega)).trans d2; have e3 := (hb5.cell (p := ⟨wr.heap.size, 3, none⟩) (by show wr.heap.size < _; omega)).trans d3; have g0 := (hb5.frozen (p := ⟨wr.heap.size, 0, none⟩) (by show wr.heap.size < _; omega)).trans f0; have s5 := hb5.size)
              | (go_at_call 9; have _t := tk; refine (mayOne' (wr.alloc (.cells #[.int .i64 u, .string r, .string p, .bool b'] 32)) (wr.heap.size + 1) (by simp) ⟨u, r, p, b'⟩ 32 u ref path wt hxr hxp (by omega)).mono ?_; rw [H0.out]; rintro e w4 ⟨rfl, hb4⟩; clear tk _t; have d0 := (hb4.cell (p := ⟨wr.heap.size, 0, none⟩) (by simp)); have d1 := (hb4.cell (p := ⟨wr.heap.size, 1, none⟩) (by simp)); have d2 := (hb4.cell (p := ⟨wr.heap.size, 2, none⟩) (by simp)); have d3 := (hb4.cell (p := ⟨wr.heap.size, 3, none⟩) (by simp)); have f0 := (hb4.frozen (p := ⟨wr.heap.size, 0, none⟩) (by simp)); simp at d0 d1 d2 d3 f0; have s4 := hb4.size; simp only [World.size_alloc] at s4)
              | (go_at_call 9; refine (mayOne' (w5.setCell ⟨wr.heap.size, 0, none⟩ (.int .i64 0)) w5.heap.size (by simp) ⟨0, r, p, b'⟩ 32 u ref path wt hxr hxp (by omega)).mono ?_; rw [HA.out]; rintro e w6 ⟨rfl, hb6⟩))
            go_roundw
            case rel => exact ⟨j + 1, by omega, by go_num, ((((hb.alloc (by omega) _).trans (hb4.mono (by first | omega | (simp; omega)))).trans (hb5.mono (by omega))).setCell (p := ⟨wr.heap.size, 0, none⟩) (by show w3.heap.size ≤ wr.heap.size; omega) _).trans (hb6.mono (by first | omega | (simp; omega)))⟩
            case measure => simp [intOf]; omega
          · go_wp2_with (first
              | (go_at_call_of 9 (Value.slice (some ⟨bb, o, none⟩) L.length c); refine (rulMay_impl (some ⟨bb, o, none⟩) c L u r path wt w4 (HDr.out.up (((Below.refl _ _).alloc (Nat.le_refl _) _).trans (hb4.mono (by simp)))) (by omega) (by omega) HT.out).mono ?_; rw [HK2.out]; rintro e w5 ⟨rfl, hb5⟩; have e0 := (hb5.cell (p := ⟨wr.heap.size, 0, none⟩) (by show wr.heap.size < _; omega)).trans d0; have e1 := (hb5.cell (p := ⟨wr.heap.size, 1, none⟩) (by show wr.heap.size < _; omega)).trans d1; have e2 := (hb5.cell (p := ⟨wr.heap.size, 2, none⟩) (by show wr.heap.size < _; omega)).trans d2; have e3 := (hb5.cell (p := ⟨wr.heap.size, 3, none⟩) (by show wr.heap.size < _; omega)).trans d3; have g0 := (hb5.frozen (p := ⟨wr.heap.size, 0, none⟩) (by show wr.heap.size < _; omega)).trans f0; have s5 := hb5.size)
              | (go_at_call 9; have _t := tk; refine (mayOne' (wr.alloc (.cells #[.int .i64 u, .string r, .string p, .bool b'] 32)) (wr.heap.size + 1) (by simp) ⟨u, r, p, b'⟩ 32 u r path wt hxr hxp (by omega)).mono ?_; rw [H0.out]; rintro e w4 ⟨rfl, hb4⟩; clear tk _t; have d0 := (hb4.cell (p := ⟨wr.heap.size, 0, none⟩) (by simp)); have d1 := (hb4.cell (p := ⟨wr.heap.size, 1, none⟩) (by simp)); have d2 := (hb4.cell (p := ⟨wr.heap.size, 2, none⟩) (by simp)); have d3 := (hb4.cell (p := ⟨wr.heap.size, 3, none⟩) (by simp)); have f0 := (hb4.frozen (p := ⟨wr.heap.size, 0, none⟩) (by simp)); simp at d0 d1 d2 d3 f0; have s4 := hb4.size; simp only [World.size_alloc] at s4)
              | (go_at_call 9; refine (mayOne' (w5.setCell ⟨wr.heap.size, 0, none⟩ (.int .i64 0)) w5.heap.size (by simp) ⟨0, r, p, b'⟩ 32 u r path wt hxr hxp (by omega)).mono ?_; rw [HA.out]; rintro e w6 ⟨rfl, hb6⟩))
            go_roundw
            case rel => exact ⟨j + 1, by omega, by go_num, ((((hb.alloc (by omega) _).trans (hb4.mono (by first | omega | (simp; omega)))).trans (hb5.mono (by omega))).setCell (p := ⟨wr.heap.size, 0, none⟩) (by show w3.heap.size ≤ wr.heap.size; omega) _).trans (hb6.mono (by first | omega | (simp; omega)))⟩
            case measure => simp [intOf]; omega
    · obtain rfl : j = L.length := by omega
      have Br := B3.trans (hb.mono hs3)
      have hsr := Br.size
      go_wp2_with (first
        | (go_at_call 9; refine (mayOne wr ⟨0, ⟨#[]⟩, ⟨#[97]⟩, false⟩ _ 2 ⟨#[98]⟩ ⟨#[97, 47, 99]⟩ false (by decide) (by decide) (by decide)).mono ?_; rw [may_lit2]; rintro e w5 ⟨rfl, hb5⟩)
        | (go_at_call 18; refine (chOk_any _).mono ?_; rintro e w6 ⟨rfl, rfl⟩))
      go_ret
      exact ⟨rfl, Br.trans (hb5.mono hsr)⟩

set_option maxRecDepth 100000 in
theorem lifted (os : Os) (started : os.Started) (H : Type) (enc : TypeId × Value → H) :
    ReturnsInHanded {} Try.checked os 7 .any (Rows.fnRulAllSpec.pre6 enc Try.prog Try.f7 Rows.fnRulAllRow.domain false) (Rows.fnRulAllSpec.post enc Try.prog Try.f7 false true false false) := by
  refine returnsInHanded_of_change (C := Try.checked) own started (by kernel_rfl) Try.func7
    (ChangeSpec.witness6 (enc := enc) (C := Try.checked) false ⟨#[], #[.slice none 0 0], []⟩ 8 (by kernel_rfl) (by kernel_rfl) (by kernel_rfl) (by kernel_rfl)) ?_
  intro W base args ds gs before hval0 hW hcnd _
  have hval : ∀ (j : Nat) t v, Try.f7.params[j]? = some t → args[j]? = some v → Value.okWide Try.prog W .any base t v := hval0
  have hW' := hW
  obtain ⟨p, q, hA0, hV, rfl, hfz, hnd⟩ := hW
  have hA : DataW.TrodAll enc Try.prog W 0 (fun _ => true) true Try.f7.params.toList args.toList ds p := hA0
  rw [Try.params7] at hA hval
  obtain ⟨v0, vs0, d0, ds0, p0, q0, hargs, rfl, rfl, h0, r0⟩ := trodAll_cons hA
  obtain ⟨rfl, rfl, rfl⟩ := trodAll_nil r0
  obtain rfl : args = #[v0] := by cases args; simp_all
  obtain ⟨rfl, rfl⟩ := trodVars_none hV
  obtain ⟨a0, len0, cap0, rfl⟩ := okWide_slice Try.underlying22 (hval 0 22 v0 rfl rfl)
  have k0 := h0
  have lt0 : ∀ x ∈ p0, x.block < W.heap.size := by obtain ⟨m, hm⟩ := k0; exact DataW.trod_lt m _ _ _ hm
  obtain ⟨z0, w0⟩ : ∃ zs, IsRow .u8 W a0 len0 cap0 zs := by
    obtain ⟨fuel, hf⟩ := h0
    rcases open_ints Try.underlying22 Try.underlying5 (by kernel_rfl) hf with ⟨hcs, _⟩ | ⟨x, l, c, zs, hcs, _, hl, hm, hz, _, hcell, hwz⟩
    · simp [Value.cells] at hcs
      obtain ⟨rfl, rfl, rfl⟩ := hcs
      exact ⟨[], .inl ⟨rfl, rfl, rfl, rfl⟩⟩
    · simp [Value.cells] at hcs
      obtain ⟨rfl, rfl, rfl⟩ := hcs
      exact ⟨zs, .inr ⟨_, rfl, hl, hm, by simpa using hz, hcell, hwz⟩⟩
  clear hA0 hval0
  refine (walk a0 len0 cap0 z0 W w0).mono fun e W' ⟨he, bel⟩ => ?_
  subst he
  exact ⟨_, rfl, _, _, _, [], _, [], hW', trodAll_mk1 (shut_bool Try.underlying4 _), (trodAll_cons_mk (Below.trod laidOut (by kernel_rfl) (of_decide_eq_true (by kernel_rfl)) k0 bel lt0) trodAll_mk0), rfl, bel.frame _, fun h => by cases h⟩

theorem over : Rows.fnRulAllRow.holds Try.pinned (OpenSpec.ofChange Rows.fnRulAllSpec) :=
  OpenClaim.holds_of_wide 7 Try.f7 rfl rfl rfl rfl rfl rfl rfl ⟨rfl, rfl, rfl, rfl, rfl⟩ rfl rfl rfl rfl rfl (by kernel_rfl) Try.func7 (by kernel_rfl)
    (of_decide_eq_true (by kernel_rfl)) (by unfold Func.isWrapper; first | (rw [if_pos (by decide +kernel)]; kernel_rfl) | (rw [if_neg (by decide +kernel)]; exact ⟨rfl, rfl⟩))
    (fun os started H enc _ => lifted os started H enc)

theorem proved : Rows.FnRulAllSaid := over
#print axioms proved
end Go.Proofs.Ytmjmkgigopinbaa.fnRulAll
