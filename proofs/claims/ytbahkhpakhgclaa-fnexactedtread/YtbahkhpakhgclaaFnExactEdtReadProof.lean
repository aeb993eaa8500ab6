/-
  At every text EdtRead of the program answers as the specification's EdtRead. No condition.
-/
import Derived.Test.YtbahkhpakhgclaaRows
import Derived.Test.YtbahkhpakhgclaaOpenE1
import Derived.Test.YtbahkhpakhgclaaWalkEdtW
import Derived.WalkKit
import Derived.ProofKit
import Derived.OpenShut
import Derived.ShutString
import Derived.Below
import Derived.Carry
namespace Go.Proofs.Ytbahkhpakhgclaa.fnExactEdtRead
open Go.ChangeShapes Go.WideShapes Go.ChangeAt Go.RowKit
open Go.ChangeMaps (open_string shut_string)
set_option linter.unusedVariables false

theorem own : ownKnob Try.prog.godebug = none := by kernel_rfl
theorem laidOut : laidOutB Try.prog = true := by kernel_rfl

open Go.Proofs.Ytbahkhpakhgclaa.W in
set_option maxRecDepth 100000 in
set_option maxHeartbeats 4000000 in
theorem core (s : ByteArray) (x : TE) (b : Bool) (w : World) (hs : s.size ≤ 1048576)
    (HI : Hid (∀ w, Calls Try.prog 9 #[.string s] w fun e w' => e = .returned (.tuple #[.agg #[.string x.pa, .string x.by_, .bool x.gone], .bool b]) ∧ Below w.heap.size w w'))
    (HS : Hid (∀ w, Calls Try.prog 10 #[.string s] w fun e w' => e = .returned (.tuple #[.agg #[.string x.pa, .string x.by_, .bool x.gone], .bool b]) ∧ Below w.heap.size w w')) :
    Calls Try.prog 5 #[.string s] w fun e w' => e = .returned (.bool true) ∧ Below w.heap.size w w' := by
  go_enter Try.func5, Try.ntmps5
  go_wp2_with (first
    | (go_at_call 10; refine (HS.out _).mono ?_; rintro e w1 ⟨rfl, B⟩)
    | (go_at_call 9; have ba := (Below.refl w1.heap.size w1).alloc (Nat.le_refl _) (.cells #[.string x.pa, .string x.by_, .bool x.gone] 24); have D := atE_new w1 x 24; refine (HI.out _).mono ?_; rintro e w2 ⟨rfl, hb⟩; replace D := (D.up hb).up ((Below.refl w2.heap.size w2).alloc (Nat.le_refl _) (.cells #[.string x.pa, .string x.by_, .bool x.gone] 24)); replace hb := ba.trans (hb.mono ba.size); replace B := B.trans (hb.mono B.size); clear hb ba; obtain ⟨d0, d1, d2⟩ := id D)
    | (go_at_call 14; refine (eqTreEdit_same _ _ _ _).mono ?_; rintro e w3 ⟨rfl, hb⟩; replace B := (B.alloc B.size (.cells #[.string x.pa, .string x.by_, .bool x.gone] 24)).trans (hb.mono (by have := B.size; simp; omega)); clear hb))
  go_ret
  exact ⟨rfl, B⟩
open Go.Proofs.Ytbahkhpakhgclaa.W in
set_option maxHeartbeats 1000000 in
theorem walk (a0 : ByteArray) (w0 : a0.size ≤ maxLen) (w : World) :
    Calls Try.prog 5 #[.string a0] w fun e w' => e = .returned (.bool true) ∧ Below w.heap.size w w' := by
  by_cases hl : a0.size ≤ 1048576
  · obtain ⟨r, hI, hS⟩ := edtRead_both a0 hl
    cases r with
    | none => exact core a0 ⟨⟨#[]⟩, ⟨#[]⟩, false⟩ false w hl hI hS
    | some x => exact core a0 x true w hl hI hS
  · unfold maxLen at w0
    go_enter Try.func5, Try.ntmps5
    go_wp2
    go_ret
    exact ⟨rfl, Below.refl _ _⟩

set_option maxRecDepth 100000 in
theorem lifted (os : Os) (started : os.Started) (H : Type) (enc : TypeId × Value → H) :
    ReturnsInHanded {} Try.checked os 5 .any (Rows.fnExactEdtReadSpec.pre6 enc Try.prog Try.f5 Rows.fnExactEdtReadRow.domain false) (Rows.fnExactEdtReadSpec.post enc Try.prog Try.f5 false true false false) := by
  refine returnsInHanded_of_change (C := Try.checked) own started (by kernel_rfl) Try.func5
    (ChangeSpec.witness6 (enc := enc) (C := Try.checked) false ⟨#[], #[.string ByteArray.empty], []⟩ 8 (by kernel_rfl) (by kernel_rfl) (by kernel_rfl) (by kernel_rfl)) ?_
  intro W base args ds gs before hval0 hW hcnd _
  have hval : ∀ (j : Nat) t v, Try.f5.params[j]? = some t → args[j]? = some v → Value.okWide Try.prog W .any base t v := hval0
  have hW' := hW
  obtain ⟨p, q, hA0, hV, rfl, hfz, hnd⟩ := hW
  have hA : DataW.TrodAll enc Try.prog W 0 (fun _ => true) true Try.f5.params.toList args.toList ds p := hA0
  rw [Try.params5] at hA hval
  obtain ⟨v0, vs0, d0, ds0, p0, q0, hargs, rfl, rfl, h0, r0⟩ := trodAll_cons hA
  obtain ⟨rfl, rfl, rfl⟩ := trodAll_nil r0
  obtain rfl : args = #[v0] := by cases args; simp_all
  obtain ⟨rfl, rfl⟩ := trodVars_none hV
  have k0 := h0
  obtain ⟨a0, rfl, rfl, rfl, w0⟩ := open_string Try.underlying9 (hval 0 9 v0 rfl rfl) h0
  clear hA0 hval0
  simp only [List.append_nil] at hW'
  refine (walk a0 w0 W ).mono fun e W' ⟨he, hg⟩ => ?_
  subst he
  exact ⟨_, rfl, _, _, _, [], _, [], hW', (trodAll_cons_mk (shut_bool Try.underlying4 _) trodAll_mk0), (trodAll_cons_mk (Below.trod laidOut (by kernel_rfl) (of_decide_eq_true (by kernel_rfl)) k0 hg (fun x hx => hW'.lt x (by first | (simp [hx]; done) | simp at hx))) trodAll_mk0), rfl, hg.frame _, fun h => by cases h⟩

theorem over : Rows.fnExactEdtReadRow.holds Try.pinned (OpenSpec.ofChange Rows.fnExactEdtReadSpec) :=
  OpenClaim.holds_of_wide 5 Try.f5 rfl rfl rfl rfl rfl rfl rfl ⟨rfl, rfl, rfl, rfl, rfl⟩ rfl rfl rfl rfl rfl (by kernel_rfl) Try.func5 (by kernel_rfl)
    (of_decide_eq_true (by kernel_rfl)) (by unfold Func.isWrapper; first | (rw [if_pos (by decide +kernel)]; kernel_rfl) | (rw [if_neg (by decide +kernel)]; exact ⟨rfl, rfl⟩))
    (fun os started H enc _ => lifted os started H enc)

theorem proved : Rows.FnExactEdtReadSaid :=
  over
#print axioms proved
end Go.Proofs.Ytbahkhpakhgclaa.fnExactEdtRead
