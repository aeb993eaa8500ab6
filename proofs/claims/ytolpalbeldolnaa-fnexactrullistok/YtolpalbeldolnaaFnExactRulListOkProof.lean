/-
  At every list of rules RulListOk of the program answers as the specification's RulListOk; the list reads as it did. No condition.
-/
import Derived.Test.YtolpalbeldolnaaRows
import Derived.Test.YtolpalbeldolnaaOpenR
import Derived.Test.YtolpalbeldolnaaWalkRulL
import Derived.Test.YtolpalbeldolnaaWalkRulC
import Derived.WalkKit
import Derived.ProofKit
import Derived.OpenShut
import Derived.ShutString
import Derived.Below
import Derived.Carry
namespace Go.Proofs.Ytolpalbeldolnaa.fnExactRulListOk
open Go.ChangeShapes Go.WideShapes Go.ChangeAt Go.RowKit
open Go.ChangeMaps (open_string shut_string)
set_option linter.unusedVariables false

theorem own : ownKnob Try.prog.godebug = none := by kernel_rfl
theorem laidOut : laidOutB Try.prog = true := by kernel_rfl

open Go.Proofs.Ytolpalbeldolnaa.W in
theorem each_le (L : List RR) (j : Nat) (h : j < L.length) : (L[j]).ref.size ≤ szR L ∧ (L[j]).path.size ≤ szR L := by
  have h1 := szR_snoc L j h
  have h2 := szR_le L (j + 1)
  omega
open Go.Proofs.Ytolpalbeldolnaa.W in
set_option maxHeartbeats 1000000 in
theorem walk (A0 : Option Addr) (c0 : Nat) (L0 : List Go.Proofs.Ytolpalbeldolnaa.W.RR) (w : World) (rd0 : Go.Proofs.Ytolpalbeldolnaa.W.RdR w.heap.size w A0 L0) (n0 : L0.length ≤ maxLen) (t0 : ∀ j (h : j < L0.length), (L0[j]).ref.size ≤ maxLen ∧ (L0[j]).path.size ≤ maxLen) :
    Calls Try.prog 4 #[.slice A0 L0.length c0] w fun e w' => e = .returned (.bool true) ∧ Below w.heap.size w w' := by
  have ht : L0.length + szR L0 ≤ 1048576 → ∀ j (h : j < L0.length), (L0[j]).ref.size ≤ 1048576 ∧ (L0[j]).path.size ≤ 1048576 := fun hz j h => by have := each_le L0 j h; omega
  generalize hk : okR L0 = k
  have HK : Hid (okR L0 = k) := hk
  clear hk
  have tk1 : True := trivial
  have tk2 : True := trivial
  go_enter Try.func4, Try.ntmps4
  go_wp2_with (first
    | (go_at_call 13; refine (szRS_any A0 c0 L0 _ rd0 n0 t0).mono ?_; rintro e w1 ⟨⟨r, rfl, hr | ⟨hr, hz⟩⟩, B⟩; rotate_left; replace rd0 := rd0.up B)
    | (go_at_call 15; have _t := tk1; refine (toRS_any A0 c0 L0 _ rd0 (by omega)).mono ?_; rintro e w2 ⟨⟨v, rfl, o1⟩, hb⟩; clear _t tk1; obtain ⟨A1, c1, rfl, rd1, k1⟩ := rdR_own_cap o1; clear o1; replace rd0 := rd0.up hb; replace B := B.trans (hb.mono B.size); clear hb)
    | (go_at_call 14; refine (rulListOk_spec A1 c1 L0 _ rd1 (by omega) k1 (ht hz)).mono ?_; rw [HK.out]; rintro e w3 ⟨rfl, hb⟩; replace rd0 := rd0.up hb; replace B := B.trans (hb.mono B.size); clear hb rd1)
    | (go_at_call 15; have _t := tk2; refine (toRS_any A0 c0 L0 _ rd0 (by omega)).mono ?_; rintro e w4 ⟨⟨v, rfl, o2⟩, hb⟩; clear _t tk2; obtain ⟨A2, c2, rfl, rd2, k2⟩ := rdR_own_cap o2; clear o2; replace rd0 := rd0.up hb; replace B := B.trans (hb.mono B.size); clear hb)
    | (go_at_call 16; refine (rulListOk_impl A2 c2 L0 _ rd2 (by omega) k2 (ht hz)).mono ?_; rw [HK.out]; rintro e w5 ⟨rfl, hb⟩; replace rd0 := rd0.up hb; replace rd2 := rd2.up hb; replace B := B.trans (hb.mono B.size); clear hb)
    | (go_at_call 15; refine (toRS_any A0 c0 L0 _ rd0 (by omega)).mono ?_; rintro e w6 ⟨⟨v, rfl, o3⟩, hb⟩; obtain ⟨A3, c3, rfl, rd3⟩ := rdR_of_own o3; clear o3; replace rd2 := rd2.up hb; replace B := B.trans (hb.mono B.size); clear hb)
    | (go_at_call 17; refine (eqRS_same A2 A3 c2 c3 L0 _ rd2 rd3 n0).mono ?_; rintro e w7 ⟨rfl, hb⟩; replace B := B.trans (hb.mono B.size); clear hb))
  all_goals
    go_ret
    exact ⟨rfl, B⟩

set_option maxRecDepth 100000 in
theorem lifted (os : Os) (started : os.Started) (H : Type) (enc : TypeId × Value → H) :
    ReturnsInHanded {} Try.checked os 4 .any (Rows.fnExactRulListOkSpec.pre6 enc Try.prog Try.f4 Rows.fnExactRulListOkRow.domain false) (Rows.fnExactRulListOkSpec.post enc Try.prog Try.f4 false true false false) := by
  refine returnsInHanded_of_change (C := Try.checked) own started (by kernel_rfl) Try.func4
    (ChangeSpec.witness6 (enc := enc) (C := Try.checked) false ⟨#[], #[.slice none 0 0], []⟩ 8 (by kernel_rfl) (by kernel_rfl) (by kernel_rfl) (by kernel_rfl)) ?_
  intro W base args ds gs before hval0 hW hcnd _
  have hval : ∀ (j : Nat) t v, Try.f4.params[j]? = some t → args[j]? = some v → Value.okWide Try.prog W .any base t v := hval0
  have hW' := hW
  obtain ⟨p, q, hA0, hV, rfl, hfz, hnd⟩ := hW
  have hA : DataW.TrodAll enc Try.prog W 0 (fun _ => true) true Try.f4.params.toList args.toList ds p := hA0
  rw [Try.params4] at hA hval
  obtain ⟨v0, vs0, d0, ds0, p0, q0, hargs, rfl, rfl, h0, r0⟩ := trodAll_cons hA
  obtain ⟨rfl, rfl, rfl⟩ := trodAll_nil r0
  obtain rfl : args = #[v0] := by cases args; simp_all
  obtain ⟨rfl, rfl⟩ := trodVars_none hV
  have k0 := h0
  obtain ⟨A0, c0, L0, rfl, rd0, n0, t0⟩ := Go.Proofs.Ytolpalbeldolnaa.W.open_R h0 (okWide_slice Try.underlying29 (hval 0 29 v0 rfl rfl))
  clear hA0 hval0
  simp only [List.append_nil] at hW'
  refine (walk A0 c0 L0 W rd0 n0 t0).mono fun e W' ⟨he, hg⟩ => ?_
  subst he
  exact ⟨_, rfl, _, _, _, [], _, [], hW', (trodAll_cons_mk (shut_bool Try.underlying4 _) trodAll_mk0), (trodAll_cons_mk (Below.trod laidOut (by kernel_rfl) (of_decide_eq_true (by kernel_rfl)) k0 hg (fun x hx => hW'.lt x (by first | (simp [hx]; done) | simp at hx))) trodAll_mk0), rfl, hg.frame _, fun h => by cases h⟩

theorem over : Rows.fnExactRulListOkRow.holds Try.pinned (OpenSpec.ofChange Rows.fnExactRulListOkSpec) :=
  OpenClaim.holds_of_wide 4 Try.f4 rfl rfl rfl rfl rfl rfl rfl ⟨rfl, rfl, rfl, rfl, rfl⟩ rfl rfl rfl rfl rfl (by kernel_rfl) Try.func4 (by kernel_rfl)
    (of_decide_eq_true (by kernel_rfl)) (by unfold Func.isWrapper; first | (rw [if_pos (by decide +kernel)]; kernel_rfl) | (rw [if_neg (by decide +kernel)]; exact ⟨rfl, rfl⟩))
    (fun os started H enc _ => lifted os started H enc)

theorem proved : Rows.FnExactRulListOkSaid :=
  over
#print axioms proved
end Go.Proofs.Ytolpalbeldolnaa.fnExactRulListOk
