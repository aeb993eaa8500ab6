/-
  Of every code: what the drawn rules let a user at a path they let at each path under it; who may write there may read there, and sees the ref; the program answers as the specification; the code reads as it did. No condition.
-/
import Derived.Test.YtmjmkgigopinbaaRows
import Derived.Test.YtmjmkgigopinbaaWalkDrawR
import Derived.Test.YtmjmkgigopinbaaMathMay
import Derived.Test.YtmjmkgigopinbaaWalkJoin
import Derived.WalkKit
import Derived.ProofKit
import Derived.OpenShut
import Derived.ShutString
import Derived.ChangeOld
import Derived.Below
namespace Go.Proofs.Ytmjmkgigopinbaa.fnRulMay
open Go.ChangeShapes Go.WideShapes Go.ChangeAt Go.RowKit
open Go.ChangeMaps (open_string shut_string)
set_option linter.unusedVariables false

theorem own : ownKnob Try.prog.godebug = none := by kernel_rfl
theorem laidOut : laidOutB Try.prog = true := by kernel_rfl

/-- WHAT THE WALK IS TOLD OF A SLICE OF INTEGERS THAT CAME IN: it is nil; or it leads to a row of 'cap' cells, the numbers 'zs' (the first 'len' are its elements, the rest its spare room), each fitting its kind. -/
def IsRow (k : IntKind) (w : World) (a : Option Addr) (len cap : Nat) (zs : List Int) : Prop :=
  (a = none ∧ len = 0 ∧ cap = 0 ∧ zs = []) ∨
  ∃ x, a = some x ∧ len ≤ cap ∧ cap ≤ maxLen ∧ zs.length = cap ∧ (∀ i, i < zs.length → w.cell? (x.add i) = some (.int k (zs.getD i 0))) ∧ ∀ n ∈ zs, (Lit.int k n).wf = true

open Go.Proofs.Ytmjmkgigopinbaa.W Go.Proofs.Ytmjmkgigopinbaa.M in
set_option maxHeartbeats 2000000 in
theorem walk (a0 : Option Addr) (len0 cap0 : Nat) (z0 : List Int) (w : World) (w0 : IsRow .u8 w a0 len0 cap0 z0) :
    Calls Try.prog 3 #[.slice a0 len0 cap0] w fun e w' => e = .returned (.bool true) ∧ Below w.heap.size w w' := by
  have HS : Hid (W.Src w a0 len0 cap0 (fun i => z0.getD i 0)) := src_of w a0 len0 cap0 z0 w0
  clear w0
  by_cases h : 1048576 < len0
  · go_enter Try.func3, Try.ntmps3
    go_wp2
    go_ret
    exact ⟨rfl, Below.refl _ _⟩
  go_enter Try.func3, Try.ntmps3
  go_wp2_with (first
    | (go_at_call 8; refine (drawRulMay_any _ _ _ _ _ HS.out).mono ?_; rintro e w1 ⟨v, L, u, ref, path, wt, rfl, h1, h2, h3, h4, hu, hr, hp, B⟩; obtain ⟨A, c, rfl, rd, hc⟩ := rdR_own_cap h4; clear HS h4 h1; have HT : Hid (∀ j (h : j < L.length), (L[j]).ref.size ≤ 1048576 ∧ (L[j]).path.size ≤ 1048576) := h3.at; have HD : Hid (RdR w1.heap.size w1 A L) := rd; clear rd h3; obtain ⟨k, HK⟩ : ∃ k, Hid ((L.any fun x => mayB x u ref path wt) = k) := ⟨_, rfl⟩)
    | (go_at_call 9; refine (rulMay_impl A c L u ref path wt _ HD.out (by omega) (by omega) HT.out).mono ?_; rw [HK.out]; rintro e w2 ⟨rfl, hb2⟩; have HD2 : Hid (RdR w2.heap.size w2 A L) := HD.out.up hb2; clear HD; have B2 := B.trans (hb2.mono B.size); clear B hb2)
    | (go_at_call 10; refine (rulMay_spec A c L u ref path wt _ HD2.out (by omega) (by omega) HT.out).mono ?_; rw [HK.out]; rintro e w3 ⟨rfl, hb3⟩; have HD3 : Hid (RdR w3.heap.size w3 A L) := HD2.out.up hb3; clear HD2; have B3 := B2.trans (hb3.mono B2.size); clear B2 hb3))
  have hs3 := B3.size
  go_loopw [10] (fun iv wr => ∃ j : Nat, j ≤ 3 ∧ iv = .int .i64 j ∧ Below (w3.heap.size + 1) (w3.alloc (.cells #[.string ⟨#[97]⟩, .string ⟨#[98]⟩, .string ⟨#[122, 122]⟩] 9)) wr) (fun i _ => 3 - (intOf i).toNat)
  case atStart => exact ⟨0, by omega, rfl, Below.refl _ _⟩
  case round =>
    obtain ⟨j, hj, rfl, hb⟩ := hrel
    have hsz := hb.size
    simp only [World.size_alloc] at hsz
    have hbw : Below w3.heap.size w3 wr := ((Below.refl _ w3).alloc (Nat.le_refl _) _).trans (hb.mono (by omega))
    have HDr : Hid (RdR wr.heap.size wr A L) := HD3.out.up hbw
    by_cases hlt : j < 3
    · obtain ⟨t, hcell, htz⟩ : ∃ t : ByteArray, wr.cell? ⟨w3.heap.size, j, none⟩ = some (.string t) ∧ t.size ≤ 64 := by
        rw [hb.cell (p := ⟨w3.heap.size, j, none⟩) (Nat.lt_succ_self _)]
        rcases (show j = 0 ∨ j = 1 ∨ j = 2 from by omega) with rfl | rfl | rfl <;> exact ⟨_, by simp; rfl, by decide⟩
      have hjs := joinB_size path t
      cases k
      · have _t := trivial
        go_wp2_with (go_at_call 11; refine (join_impl _ _ _ (by omega) (by omega)).mono ?_; rintro e w4 ⟨rfl, hb4⟩)
        go_roundw
        case rel => exact ⟨j + 1, by omega, by go_num, hb.trans (hb4.mono (by omega))⟩
        case measure => simp [intOf]; omega
      · cases hE : (joinB path t).toList.isEmpty
        · have hU := joinB_und path t hE
          have HU : Hid (undB path.data.toList (joinB path t).data.toList = true) := hU
          have HM : Hid ((L.any fun x => mayB x u ref (joinB path t) wt) = true) := may_under hU HK.out
          clear hU
          go_wp2_with (first
            | (go_at_call 11; refine (join_impl _ _ _ (by omega) (by omega)).mono ?_; rintro e w4 ⟨rfl, hb4⟩; have HD4 : Hid (RdR w4.heap.size w4 A L) := HDr.out.up hb4; clear HDr; have s4 := hb4.size)
            | (go_at_call 12; refine (under_impl _ _ _ (by omega) (by omega)).mono ?_; rw [HU.out]; rintro e w5 ⟨rfl, hb5⟩; have HD5 : Hid (RdR w5.heap.size w5 A L) := HD4.out.up hb5; clear HD4; have s5 := hb5.size)
            | (go_at_call 9; refine (rulMay_impl A c L u ref (joinB path t) wt _ HD5.out (by omega) (by omega) HT.out).mono ?_; rw [HM.out]; rintro e w6 ⟨rfl, hb6⟩; clear HD5))
          go_roundw
          case rel => exact ⟨j + 1, by omega, by go_num, ((hb.trans (hb4.mono (by omega))).trans (hb5.mono (by omega))).trans (hb6.mono (by omega))⟩
          case measure => simp [intOf]; omega
        · go_wp2_with (go_at_call 11; refine (join_impl _ _ _ (by omega) (by omega)).mono ?_; rintro e w4 ⟨rfl, hb4⟩)
          go_roundw
          case rel => exact ⟨j + 1, by omega, by go_num, hb.trans (hb4.mono (by omega))⟩
          case measure => simp [intOf]; omega
    · obtain rfl : j = 3 := by omega
      have Br := B3.trans (hbw.mono hs3)
      have hsr := Br.size
      clear hb hbw hsz HD3 B3
      cases k
      · have _t := trivial
        go_wp2_with (go_at_call 9; refine (mayOne wr ⟨0, ⟨#[]⟩, ⟨#[]⟩, true⟩ _ 3 ⟨#[98]⟩ ⟨#[97, 47, 98]⟩ true (by decide) (by decide) (by decide)).mono ?_; rw [may_lit1]; rintro e w5 ⟨rfl, hb5⟩)
        go_ret
        exact ⟨rfl, Br.trans (hb5.mono hsr)⟩
      · have HM : Hid ((L.any fun x => mayB x u ref path false) = true) := may_read HK.out
        have HN : Hid ((L.any fun x => seesB x u ref) = true) := may_sees HK.out
        go_wp2_with (first
          | (go_at_call_of 9 (Value.slice A L.length c); refine (rulMay_impl A c L u ref path false _ HDr.out (by omega) (by omega) HT.out).mono ?_; rw [HM.out]; rintro e w4 ⟨rfl, hb4⟩; have HD4 : Hid (RdR w4.heap.size w4 A L) := HDr.out.up hb4; clear HDr; have s4 := hb4.size)
          | (go_at_call 13; refine (rulSees_impl A c L u ref _ HD4.out (by omega) HT.out).mono ?_; rw [HN.out]; rintro e w5 ⟨rfl, hb5⟩; clear HD4; have s5 := hb5.size)
          | (go_at_call 9; refine (mayOne w5 ⟨0, ⟨#[]⟩, ⟨#[]⟩, true⟩ _ 3 ⟨#[98]⟩ ⟨#[97, 47, 98]⟩ true (by decide) (by decide) (by decide)).mono ?_; rw [may_lit1]; rintro e w6 ⟨rfl, hb6⟩))
        go_ret
        exact ⟨rfl, ((Br.trans (hb4.mono hsr)).trans (hb5.mono (by omega))).trans (hb6.mono (by omega))⟩

set_option maxRecDepth 100000 in
theorem lifted (os : Os) (started : os.Started) (H : Type) (enc : TypeId × Value → H) :
    ReturnsInHanded {} Try.checked os 3 .any (Rows.fnRulMaySpec.pre6 enc Try.prog Try.f3 Rows.fnRulMayRow.domain false) (Rows.fnRulMaySpec.post enc Try.prog Try.f3 false true false false) := by
  refine returnsInHanded_of_change (C := Try.checked) own started (by kernel_rfl) Try.func3
    (ChangeSpec.witness6 (enc := enc) (C := Try.checked) false ⟨#[], #[.slice none 0 0], []⟩ 8 (by kernel_rfl) (by kernel_rfl) (by kernel_rfl) (by kernel_rfl)) ?_
  intro W base args ds gs before hval0 hW hcnd _
  have hval : ∀ (j : Nat) t v, Try.f3.params[j]? = some t → args[j]? = some v → Value.okWide Try.prog W .any base t v := hval0
  have hW' := hW
  obtain ⟨p, q, hA0, hV, rfl, hfz, hnd⟩ := hW
  have hA : DataW.TrodAll enc Try.prog W 0 (fun _ => true) true Try.f3.params.toList args.toList ds p := hA0
  rw [Try.params3] at hA hval
  obtain ⟨v0, vs0, d0, ds0, p0, q0, hargs, rfl, rfl, h0, r0⟩ := trodAll_cons hA
  obtain ⟨rfl, rfl, rfl⟩ := trodAll_nil r0
  obtain rfl : args = #[v0] := by cases args; simp_all
  obtain ⟨rfl, rfl⟩ := trodVars_none hV
  obtain ⟨a0, len0, cap0, rfl⟩ := okWide_slice Try.underlying22 (hval 0 22 v0 rfl rfl)
  have k0 := h0
  have lt0 : ∀ x ∈ p0, x.block < W.heap.size := by obtain ⟨m, hm⟩ := k0; exact DataW.trod_lt m _ _ _ hm
  obtain ⟨z0, w0⟩ : ∃ zs, IsRow .u8 W a0 len0 cap0 zs := by
    obtain ⟨fuel, hf⟩ := h0
    rcases open_ints Try.underlying22 Try.underlying5 (by kernel_rfl) hf with ⟨hcs, _⟩ | ⟨x, l, c, zs, hcs, _, hl, hm, hz, _, hcell, hwz⟩
    · simp [Value.cells] at hcs
      obtain ⟨rfl, rfl, rfl⟩ := hcs
      exact ⟨[], .inl ⟨rfl, rfl, rfl, rfl⟩⟩
    · simp [Value.cells] at hcs
      obtain ⟨rfl, rfl, rfl⟩ := hcs
      exact ⟨zs, .inr ⟨_, rfl, hl, hm, by simpa using hz, hcell, hwz⟩⟩
  clear hA0 hval0
  refine (walk a0 len0 cap0 z0 W w0).mono fun e W' ⟨he, bel⟩ => ?_
  subst he
  exact ⟨_, rfl, _, _, _, [], _, [], hW', trodAll_mk1 (shut_bool Try.underlying4 _), (trodAll_cons_mk (Below.trod laidOut (by kernel_rfl) (of_decide_eq_true (by kernel_rfl)) k0 bel lt0) trodAll_mk0), rfl, bel.frame _, fun h => by cases h⟩

theorem over : Rows.fnRulMayRow.holds Try.pinned (OpenSpec.ofChange Rows.fnRulMaySpec) :=
  OpenClaim.holds_of_wide 3 Try.f3 rfl rfl rfl rfl rfl rfl rfl ⟨rfl, rfl, rfl, rfl, rfl⟩ rfl rfl rfl rfl rfl (by kernel_rfl) Try.func3 (by kernel_rfl)
    (of_decide_eq_true (by kernel_rfl)) (by unfold Func.isWrapper; first | (rw [if_pos (by decide +kernel)]; kernel_rfl) | (rw [if_neg (by decide +kernel)]; exact ⟨rfl, rfl⟩))
    (fun os started H enc _ => lifted os started H enc)

theorem proved : Rows.FnRulMaySaid := over
#print axioms proved
end Go.Proofs.Ytmjmkgigopinbaa.fnRulMay
