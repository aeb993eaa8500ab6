/-
  At every edit EdtText of the program answers as the specification's EdtText. No condition.
-/
import Derived.Test.YtbahkhpakhgclaaRows
import Derived.Test.YtbahkhpakhgclaaOpenE1
import Derived.Test.YtbahkhpakhgclaaWalkEdtT
import Derived.WalkKit
import Derived.ProofKit
import Derived.OpenShut
import Derived.ShutString
import Derived.Below
import Derived.Carry
namespace Go.Proofs.Ytbahkhpakhgclaa.fnExactEdtText
open Go.ChangeShapes Go.WideShapes Go.ChangeAt Go.RowKit
open Go.ChangeMaps (open_string shut_string)
set_option linter.unusedVariables false

theorem own : ownKnob Try.prog.godebug = none := by kernel_rfl
theorem laidOut : laidOutB Try.prog = true := by kernel_rfl

open Go.Proofs.Ytbahkhpakhgclaa.W in
set_option maxHeartbeats 1000000 in
theorem walk (x0 : Go.Proofs.Ytbahkhpakhgclaa.W.TE) (y0 : x0.pa.size ≤ maxLen ∧ x0.by_.size ≤ maxLen) (w : World) :
    Calls Try.prog 4 #[.agg #[.string x0.pa, .string x0.by_, .bool x0.gone]] w fun e w' => e = .returned (.bool true) ∧ Below w.heap.size w w' := by
  generalize hk : edtB x0 = k
  have HK : Hid (edtB x0 = k) := hk
  clear hk
  have tk1 : True := trivial
  go_enter Try.func4, Try.ntmps4
  go_wp2_with (first
    | (go_at_call 12; refine (szE1_any x0 1048576 _ (Nat.le_refl _) y0).mono ?_; rintro e w1 ⟨⟨r, rfl, hr | ⟨hr, hz⟩⟩, hb⟩; rotate_left; have D := (atE_new w x0 _).up hb; replace B := ((Below.refl _ w).alloc (Nat.le_refl _) _).trans (hb.mono (by simp)); clear hb; obtain ⟨d0, d1, d2⟩ := id D)
    | (go_at_call 13; have _t := tk1; refine (toTreEdit_any _ _ _ _).mono ?_; rintro e w2 ⟨rfl, hb⟩; clear _t tk1 d0 d1 d2; replace D := D.up hb; replace B := B.trans (hb.mono B.size); clear hb)
    | (go_at_call 11; refine (edtText_spec x0 _ (by omega) (by omega)).mono ?_; rw [HK.out]; rintro e w3 ⟨rfl, hb⟩; replace D := D.up hb; replace B := B.trans (hb.mono B.size); clear hb; obtain ⟨d0, d1, d2⟩ := id D)
    | (go_at_call 13; refine (toTreEdit_any _ _ _ _).mono ?_; rintro e w4 ⟨rfl, hb⟩; clear d0 d1 d2; replace D := D.up hb; replace B := B.trans (hb.mono B.size); clear hb)
    | (go_at_call 7; refine (edtText_impl x0 _ (by omega) (by omega)).mono ?_; rw [HK.out]; rintro e w5 ⟨rfl, hb⟩; replace B := B.trans (hb.mono B.size); clear hb))
  · go_ret
    exact ⟨rfl, B⟩
  · go_ret
    exact ⟨rfl, ((Below.refl _ w).alloc (Nat.le_refl _) _).trans (hb.mono (by simp))⟩

set_option maxRecDepth 100000 in
theorem lifted (os : Os) (started : os.Started) (H : Type) (enc : TypeId × Value → H) :
    ReturnsInHanded {} Try.checked os 4 .any (Rows.fnExactEdtTextSpec.pre6 enc Try.prog Try.f4 Rows.fnExactEdtTextRow.domain false) (Rows.fnExactEdtTextSpec.post enc Try.prog Try.f4 false true false false) := by
  refine returnsInHanded_of_change (C := Try.checked) own started (by kernel_rfl) Try.func4
    (ChangeSpec.witness6 (enc := enc) (C := Try.checked) false ⟨#[], #[.agg #[.string ByteArray.empty, .string ByteArray.empty, .bool false]], []⟩ 8 (by kernel_rfl) (by kernel_rfl) (by kernel_rfl) (by kernel_rfl)) ?_
  intro W base args ds gs before hval0 hW hcnd _
  have hval : ∀ (j : Nat) t v, Try.f4.params[j]? = some t → args[j]? = some v → Value.okWide Try.prog W .any base t v := hval0
  have hW' := hW
  obtain ⟨p, q, hA0, hV, rfl, hfz, hnd⟩ := hW
  have hA : DataW.TrodAll enc Try.prog W 0 (fun _ => true) true Try.f4.params.toList args.toList ds p := hA0
  rw [Try.params4] at hA hval
  obtain ⟨v0, vs0, d0, ds0, p0, q0, hargs, rfl, rfl, h0, r0⟩ := trodAll_cons hA
  obtain ⟨rfl, rfl, rfl⟩ := trodAll_nil r0
  obtain rfl : args = #[v0] := by cases args; simp_all
  obtain ⟨rfl, rfl⟩ := trodVars_none hV
  have k0 := h0
  obtain ⟨x0, rfl, y0⟩ := Go.Proofs.Ytbahkhpakhgclaa.W.open_e h0 (okWide_struct Try.underlying31 (hval 0 31 v0 rfl rfl))
  clear hA0 hval0
  simp only [List.append_nil] at hW'
  refine (walk x0 y0 W ).mono fun e W' ⟨he, hg⟩ => ?_
  subst he
  exact ⟨_, rfl, _, _, _, [], _, [], hW', (trodAll_cons_mk (shut_bool Try.underlying4 _) trodAll_mk0), (trodAll_cons_mk (Below.trod laidOut (by kernel_rfl) (of_decide_eq_true (by kernel_rfl)) k0 hg (fun x hx => hW'.lt x (by first | (simp [hx]; done) | simp at hx))) trodAll_mk0), rfl, hg.frame _, fun h => by cases h⟩

theorem over : Rows.fnExactEdtTextRow.holds Try.pinned (OpenSpec.ofChange Rows.fnExactEdtTextSpec) :=
  OpenClaim.holds_of_wide 4 Try.f4 rfl rfl rfl rfl rfl rfl rfl ⟨rfl, rfl, rfl, rfl, rfl⟩ rfl rfl rfl rfl rfl (by kernel_rfl) Try.func4 (by kernel_rfl)
    (of_decide_eq_true (by kernel_rfl)) (by unfold Func.isWrapper; first | (rw [if_pos (by decide +kernel)]; kernel_rfl) | (rw [if_neg (by decide +kernel)]; exact ⟨rfl, rfl⟩))
    (fun os started H enc _ => lifted os started H enc)

theorem proved : Rows.FnExactEdtTextSaid :=
  over
#print axioms proved
end Go.Proofs.Ytbahkhpakhgclaa.fnExactEdtText
