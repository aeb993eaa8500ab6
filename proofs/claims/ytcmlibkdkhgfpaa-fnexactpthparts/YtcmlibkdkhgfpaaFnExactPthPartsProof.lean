/-
  At every text PthParts of the program answers as the specification's PthParts, name by name, in new memory, which nothing else holds; the text reads as it did. No condition.
-/
import Derived.Test.YtcmlibkdkhgfpaaRows
import Derived.Test.YtcmlibkdkhgfpaaWalkParts
import Derived.Test.YtcmlibkdkhgfpaaWalkMark
import Derived.WalkKit
import Derived.ProofKit
import Derived.OpenShut
import Derived.ShutString
import Derived.Below
namespace Go.Proofs.Ytcmlibkdkhgfpaa.fnExactPthParts
open Go.ChangeShapes Go.WideShapes Go.ChangeAt Go.RowKit
open Go.ChangeMaps (open_string shut_string)
set_option linter.unusedVariables false      -- a walk need not use every 'w<i>' (that an integer argument fits its kind)

theorem own : ownKnob Try.prog.godebug = none := by kernel_rfl

open Go.Proofs.Ytcmlibkdkhgfpaa.M in
theorem parts_le (l : List UInt8) : (Go.Proofs.Ytcmlibkdkhgfpaa.W.partsL l).length ≤ 3 := by
  unfold Go.Proofs.Ytcmlibkdkhgfpaa.W.partsL
  cases h : pthB l
  · simp
  · unfold pthB at h; simp at h; simp; exact h.1
open Go.Proofs.Ytcmlibkdkhgfpaa.W Go.Proofs.Ytcmlibkdkhgfpaa.M in
set_option maxHeartbeats 1000000 in
theorem walk (a0 : ByteArray) (w0 : a0.size ≤ maxLen) (w : World) :
    Calls Try.prog 8 #[.string a0] w fun e w' => e = .returned (.bool true) ∧ Below w.heap.size w w' := by
  unfold maxLen at w0
  by_cases h : 1048576 < a0.size
  · go_enter Try.func8, Try.ntmps8
    go_wp2
    go_ret
    exact ⟨rfl, Below.refl _ _⟩
  · have hs : a0.size ≤ 4194304 := by omega
    have hl3 := parts_le a0.data.toList
    go_enter Try.func8, Try.ntmps8
    have t2 : True := trivial
    go_wp2_with (first
      | (go_at_call 19; refine (parts_spec _ _ hs).mono ?_; rintro e w1 ⟨v1, rfl, o1, B⟩; have hz1 : w.heap.size ≤ w1.heap.size := B.size)
      | (go_at_call 20; have _t := t2; refine (parts_impl _ _ hs).mono ?_; rintro e w2 ⟨v2, rfl, o2, hb2⟩; clear t2; have l1 : ∀ k, v1.ownBlock = some k → k < w1.heap.size := fun k hk => (o1.lt k hk).2; replace o1 := ownsBelow o1 hb2 (Nat.le_refl _); replace B := B.trans (hb2.mono B.size); have hz2 : w1.heap.size ≤ w2.heap.size := hb2.size; clear hb2)
      | (go_at_call 21; refine (eqS_any _ _ v2 v1 _ _ o2 o1 (by omega)).mono ?_; rintro e w3 ⟨rfl, hb3⟩; replace o1 := ownsBelow o1 hb3 (Nat.le_refl _); replace o2 := ownsBelow o2 hb3 (Nat.le_refl _); replace B := B.trans (hb3.mono B.size); have hz3 : w1.heap.size ≤ w3.heap.size := Nat.le_trans hz2 hb3.size; clear hb3)
      | (go_at_call 22; refine (markS_row w1.heap.size v2 _ _ o2 hz3 (by omega)).mono ?_; rintro e w4 ⟨rfl, o4, hb4⟩; clear o2; replace o1 := ownsBelow' o1 hb4 l1; replace B := B.trans (hb4.mono hz1); clear hb4)
      | (go_at_call 23; refine (heldS_row _ v2 _ _ o4 (by omega)).mono ?_; rintro e w5 ⟨rfl, hb5⟩; replace o1 := ownsBelow o1 hb5 (Nat.le_refl _); replace o4 := ownsBelow o4 hb5 (Nat.le_refl _); replace B := B.trans (hb5.mono B.size); clear hb5)
      | (go_at_call 20; refine (parts_impl _ _ hs).mono ?_; rintro e w6 ⟨v3, rfl, o3, hb6⟩; replace o1 := ownsBelow o1 hb6 (Nat.le_refl _); replace o4 := ownsBelow o4 hb6 (Nat.le_refl _); replace B := B.trans (hb6.mono B.size); clear hb6)
      | (go_at_call 21; refine (eqS_any _ _ v3 v1 _ _ o3 o1 (by omega)).mono ?_; rintro e w7 ⟨rfl, hb7⟩; replace o1 := ownsBelow o1 hb7 (Nat.le_refl _); replace o4 := ownsBelow o4 hb7 (Nat.le_refl _); replace B := B.trans (hb7.mono B.size); clear hb7))
    go_ret
    exact ⟨rfl, B⟩

set_option maxRecDepth 100000 in
theorem lifted (os : Os) (started : os.Started) (H : Type) (enc : TypeId × Value → H) :
    ReturnsInHanded {} Try.checked os 8 .any (Rows.fnExactPthPartsSpec.pre6 enc Try.prog Try.f8 Rows.fnExactPthPartsRow.domain false) (Rows.fnExactPthPartsSpec.post enc Try.prog Try.f8 false true false false) := by
  refine returnsInHanded_of_change (C := Try.checked) own started (by kernel_rfl) Try.func8
    (ChangeSpec.witness6 (enc := enc) (C := Try.checked) false ⟨#[], #[.string ByteArray.empty], []⟩ 8 (by kernel_rfl) (by kernel_rfl) (by kernel_rfl) (by kernel_rfl)) ?_
  intro W base args ds gs before hval0 hW hcnd _
  have hval : ∀ (j : Nat) t v, Try.f8.params[j]? = some t → args[j]? = some v → Value.okWide Try.prog W .any base t v := hval0
  have hW' := hW
  obtain ⟨p, q, hA0, hV, rfl, hfz, hnd⟩ := hW
  have hA : DataW.TrodAll enc Try.prog W 0 (fun _ => true) true Try.f8.params.toList args.toList ds p := hA0
  rw [Try.params8] at hA hval
  obtain ⟨v0, vs0, d0, ds0, p0, q0, hargs, rfl, rfl, h0, r0⟩ := trodAll_cons hA
  obtain ⟨rfl, rfl, rfl⟩ := trodAll_nil r0
  obtain rfl : args = #[v0] := by cases args; simp_all
  obtain ⟨rfl, rfl⟩ := trodVars_none hV
  obtain ⟨a0, rfl, rfl, rfl, w0⟩ := open_string Try.underlying9 (hval 0 9 v0 rfl rfl) h0
  clear hA0 hval0
  simp only [List.append_nil] at hW'
  refine (walk a0 w0 W).mono fun e W' ⟨he, hg⟩ => ?_
  subst he
  exact ⟨_, rfl, _, _, _, [], [], [], hW', (trodAll_cons_mk (shut_bool Try.underlying4 _) trodAll_mk0), (trodAll_cons_mk (shut_string Try.underlying9 w0) trodAll_mk0), rfl, hg.frame _, fun h => by cases h⟩

theorem over : Rows.fnExactPthPartsRow.holds Try.pinned (OpenSpec.ofChange Rows.fnExactPthPartsSpec) :=
  OpenClaim.holds_of_wide 8 Try.f8 rfl rfl rfl rfl rfl rfl rfl ⟨rfl, rfl, rfl, rfl, rfl⟩ rfl rfl rfl rfl rfl (by kernel_rfl) Try.func8 (by kernel_rfl)
    (of_decide_eq_true (by kernel_rfl)) (by unfold Func.isWrapper; first | (rw [if_pos (by decide +kernel)]; kernel_rfl) | (rw [if_neg (by decide +kernel)]; exact ⟨rfl, rfl⟩))
    (fun os started H enc _ => lifted os started H enc)

theorem proved : Rows.FnExactPthPartsSaid :=
  over
#print axioms proved
end Go.Proofs.Ytcmlibkdkhgfpaa.fnExactPthParts
