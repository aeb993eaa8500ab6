/-
  At every list of items PolOk of the program answers as the specification's PolOk; the list reads as it did. No condition. errors.errorType holds what the program's text lays; the card ties it.
-/
import Derived.Test.YteaicokndmgciaaDoorCards
import Derived.Test.YteaicokndmgciaaDoorTie
import Derived.WalkKit
import Derived.ProofKit
import Derived.OpenShut
import Derived.ShutString
import Derived.Below
import Derived.Carry
import Derived.LaidLaws
import Derived.Test.YteaicokndmgciaaDoorWalkAs
import Derived.LaidHandle
import Derived.Deep.DeepHandedRow
import Derived.Test.YteaicokndmgciaaDoorOpenPol
import Derived.Test.YteaicokndmgciaaDoorWalkPolS
import Derived.Test.YteaicokndmgciaaDoorWalkPolK
namespace Go.Proofs.YteaicokndmgciaaDoor.fnExactPolOk
open Go.ChangeShapes Go.WideShapes Go.ChangeAt Go.RowKit
open Go.ChangeMaps (open_string shut_string)
set_option linter.unusedVariables false

theorem own : ownKnob Tryd.prog.godebug = none := by kernel_rfl
theorem laidOut : laidOutB Tryd.prog = true := by kernel_rfl

theorem et : Tryd.prog.globalNamed "errors.errorType" = some 0 := by kernel_rfl
theorem rt : (Tryd.prog.cutTypes.find? (·.1 == "internal/reflectlite.rtype")).map (·.2) = some 89 := by kernel_rfl
theorem oneRow : ((List.range 134).filter fun t => Tryd.prog.rowNamed t [101, 114, 114, 111, 114]) = [49] := by kernel_rfl
theorem tsize : Tryd.prog.types.size = 134 := by kernel_rfl
theorem handle_of_laid {W : World} (h : laidMetH Tryd.prog Rows.fnExactPolOkRow.laid W) : Go.Proofs.YteaicokndmgciaaDoor.W.TypeCell W := by
  have h' : laidMet Tryd.prog [] W ∧ handlesMet Tryd.prog Rows.fnExactPolOkRow.laid W := h
  obtain ⟨name, u, ty, e1, e2, e3, e4, e5⟩ := h'.2 _ (List.mem_singleton.2 rfl)
  have en : name = [101, 114, 114, 111, 114] := (Option.some.inj e1).symm
  subst en
  obtain rfl := Option.some.inj (rt.symm.trans e2)
  have hm : ty ∈ (List.range 134).filter fun t => Tryd.prog.rowNamed t [101, 114, 114, 111, 114] := List.mem_filter.2 ⟨List.mem_range.2 (by rw [← tsize]; exact e3), e4⟩
  rw [oneRow] at hm
  obtain rfl := List.mem_singleton.1 hm
  have hh : typeHandle Tryd.prog 49 = .pointer (some ⟨2, 49, none⟩) := by kernel_rfl
  rw [hh] at e5
  simpa [Go.Proofs.YteaicokndmgciaaDoor.W.TypeCell] using World.var?_cell et e5 0

open Go.Proofs.YteaicokndmgciaaDoor.W in
theorem each_le (L : List PI) (j : Nat) (h : j < L.length) : (L[j]).tx.size ≤ szP L := by
  have h1 := szP_snoc L j h
  have h2 := szP_le L (j + 1)
  omega
open Go.Proofs.YteaicokndmgciaaDoor.W in
set_option maxHeartbeats 2000000 in
theorem walk (A0 : Option Addr) (c0 : Nat) (L0 : List Go.Proofs.YteaicokndmgciaaDoor.W.PI) (w : World) (hg : Go.Proofs.YteaicokndmgciaaDoor.W.TypeCell w) (rd0 : Go.Proofs.YteaicokndmgciaaDoor.W.RdP w.heap.size w A0 L0) (n0 : L0.length ≤ maxLen) (t0 : ∀ j (h : j < L0.length), (L0[j]).tx.size ≤ maxLen) :
    Calls Tryd.prog 3 #[.slice A0 L0.length c0] w fun e w' => e = .returned (.bool true) ∧ Below w.heap.size w w' := by
  have ht : L0.length + szP L0 ≤ 1048576 → ∀ j (h : j < L0.length), (L0[j]).tx.size ≤ 1048576 := fun hz j h => by have := each_le L0 j h; omega
  have hgl := hg.lt
  generalize hk : okP L0 = k
  have HK : Hid (okP L0 = k) := hk
  clear hk
  have tk1 : True := trivial
  have tk2 : True := trivial
  go_enter Tryd.func3, Tryd.ntmps3
  go_wp2_with (first
    | (go_at_call 4; refine (szPS_any A0 c0 L0 _ rd0 n0 t0).mono ?_; rintro e w1 ⟨⟨r, rfl, hr | ⟨hr, hz⟩⟩, B⟩; rotate_left; replace rd0 := rd0.up B)
    | (go_at_call 6; have _t := tk1; refine (toPS_any A0 c0 L0 _ rd0 (by omega)).mono ?_; rintro e w2 ⟨⟨v, rfl, o1⟩, hb⟩; clear _t tk1; obtain ⟨A1, c1, rfl, rd1⟩ := rdP_of_own o1; clear o1; replace rd0 := rd0.up hb; replace B := B.trans (hb.mono B.size); clear hb)
    | (go_at_call 5; refine (polOk_spec A1 c1 L0 _ rd1 (by omega) (ht hz)).mono ?_; rw [HK.out]; rintro e w3 ⟨rfl, hb⟩; replace rd0 := rd0.up hb; replace B := B.trans (hb.mono B.size); clear hb rd1)
    | (go_at_call 6; have _t := tk2; refine (toPS_any A0 c0 L0 _ rd0 (by omega)).mono ?_; rintro e w4 ⟨⟨v, rfl, o2⟩, hb⟩; clear _t tk2; obtain ⟨A2, c2, rfl, rd2⟩ := rdP_of_own o2; clear o2; replace rd0 := rd0.up hb; replace B := B.trans (hb.mono B.size); clear hb)
    | (go_at_call 7; refine (polOk_impl A2 c2 L0 _ (hg.below B hgl) rd2 (by omega) (ht hz)).mono ?_; rw [HK.out]; rintro e w5 ⟨rfl, hb⟩; replace rd0 := rd0.up hb; replace rd2 := rd2.up hb; replace B := B.trans (hb.mono B.size); clear hb)
    | (go_at_call 6; refine (toPS_any A0 c0 L0 _ rd0 (by omega)).mono ?_; rintro e w6 ⟨⟨v, rfl, o3⟩, hb⟩; obtain ⟨A3, c3, rfl, rd3⟩ := rdP_of_own o3; clear o3; replace rd2 := rd2.up hb; replace B := B.trans (hb.mono B.size); clear hb)
    | (go_at_call 8; refine (eqPS_same A2 A3 c2 c3 L0 _ rd2 rd3 n0).mono ?_; rintro e w7 ⟨rfl, hb⟩; replace B := B.trans (hb.mono B.size); clear hb))
  all_goals
    go_ret
    exact ⟨rfl, B⟩

set_option maxRecDepth 100000 in
theorem contract (H : Type) (enc : TypeId × Value → H) (W : World) (base : Nat) (args : Array Value) (ds gs : List (DataW H)) (before : List MemPlace)
    (hval0 : ∀ (j : Nat) t v, Tryd.f3.params[j]? = some t → args[j]? = some v → Value.okWide Tryd.prog W .any base t v)
    (hW : DataW.Whole enc Tryd.prog Tryd.f3.params.toList Rows.fnExactPolOkSpec.vars false W args.toList ds gs before) (hL : laidMetH Tryd.prog Rows.fnExactPolOkRow.laid W) :
    Calls Tryd.prog 3 args W fun e W' => ∃ v, e = .returned v ∧ Rows.fnExactPolOkSpec.post enc Tryd.prog Tryd.f3 false true false false W args v W' := by
  have hval := hval0
  have hW' := hW
  obtain ⟨p, q, hA0, hV, rfl, hfz, hnd⟩ := hW
  have hA : DataW.TrodAll enc Tryd.prog W 0 (fun _ => true) true Tryd.f3.params.toList args.toList ds p := hA0
  rw [Tryd.params3] at hA hval
  obtain ⟨v0, vs0, d0, ds0, p0, q0, hargs, rfl, rfl, h0, r0⟩ := trodAll_cons hA
  obtain ⟨rfl, rfl, rfl⟩ := trodAll_nil r0
  obtain rfl : args = #[v0] := by cases args; simp_all
  obtain ⟨rfl, rfl⟩ := trodVars_none hV
  have k0 := h0
  obtain ⟨A0, c0, L0, rfl, rd0, n0, t0⟩ := Go.Proofs.YteaicokndmgciaaDoor.W.open_P h0 (okWide_slice Tryd.underlying22 (hval 0 22 v0 rfl rfl))
  clear hA0 hval0
  simp only [List.append_nil] at hW'
  refine (walk A0 c0 L0 W (handle_of_laid hL) rd0 n0 t0).mono fun e W' ⟨he, hg⟩ => ?_
  subst he
  exact ⟨_, rfl, _, _, _, [], _, [], hW', (trodAll_cons_mk (shut_bool Tryd.underlying4 _) trodAll_mk0), (trodAll_cons_mk (Below.trod laidOut (by kernel_rfl) (of_decide_eq_true (by kernel_rfl)) k0 hg (fun x hx => hW'.lt x (by first | (simp [hx]; done) | simp at hx))) trodAll_mk0), rfl, hg.frame _, fun h => by cases h⟩

noncomputable def laidWorld (os : Os) : World :=
  { World.holding Tryd.prog os ⟨#[], #[], []⟩ with heap := (World.holding Tryd.prog os ⟨#[], #[], []⟩).heap.modify 0 fun
      | .cells _ t frozen => .cells #[.iface 89 (.agg #[.pointer (some ⟨2, 49, none⟩)])] t frozen
      | o => o }
theorem laid_met (os : Os) : laidMetH Tryd.prog Rows.fnExactPolOkRow.laid ((laidWorld os).forCall (fun _ _ => 0) ⟨#[], #[.slice none 0 0], []⟩).memory :=
  laidMetH_of_parts (laidMet_nil _ _) (by kernel_rfl)
theorem reads (os : Os) {H : Type} (enc : TypeId × Value → H) : ∃ places, DataW.whole enc Tryd.prog ((laidWorld os).forCall (fun _ _ => 0) ⟨#[], #[.slice none 0 0], []⟩).memory Tryd.f3.params.toList Rows.fnExactPolOkSpec.vars false #[Value.slice none 0 0].toList 8 = some ([.nil], [], places) :=
  ⟨[], by kernel_rfl⟩

set_option maxRecDepth 100000 in
theorem lifted (os : Os) (started : os.Started) (H : Type) (enc : TypeId × Value → H) (F : Stop.Interp) :
    ReturnsInHanded {} Tryd.checked os 3 .any ((OpenSpec.ofChange Rows.fnExactPolOkSpec).preRow enc Tryd.prog Tryd.f3 Rows.fnExactPolOkRow.domain false Rows.fnExactPolOkRow.laid) (((OpenSpec.ofChange Rows.fnExactPolOkSpec).at F).post enc Tryd.prog Tryd.f3 false true false false) := by
  obtain ⟨places, hx⟩ := reads os enc
  refine returnsInHanded_of_row (C := Tryd.checked) (s := OpenSpec.ofChange Rows.fnExactPolOkSpec) own started (by kernel_rfl) Tryd.func3
    (witness_row_at (enc := enc) (C := Tryd.checked) false (laidWorld os) #[.slice none 0 0] rfl (by kernel_rfl) (by kernel_rfl) (by kernel_rfl)
      (OpenSpec.preRow_of_cond 8 hx (by kernel_rfl) (fun k hk => by cases hk) (by kernel_rfl) (laid_met os))) ?_
  intro W base args ds gs before hval hW _ _ _ hL _ _
  exact contract H enc W base args ds gs before hval hW hL

theorem said : Rows.FnExactPolOkSaid :=
  OpenClaim.holds_of_cond 3 Tryd.f3 rfl rfl rfl rfl rfl rfl rfl ⟨rfl, rfl, rfl, rfl, rfl⟩ rfl rfl rfl rfl rfl (by kernel_rfl) Tryd.func3 (by kernel_rfl)
    (of_decide_eq_true (by kernel_rfl)) (by unfold Func.isWrapper; first | (rw [if_pos (by decide +kernel)]; kernel_rfl) | (rw [if_neg (by decide +kernel)]; exact ⟨rfl, rfl⟩))
    (fun os started H enc _ F => by rw [OpenClaim.pre_eq_preRow]; exact lifted os started H enc F)
theorem plain (f : FuncId) (fn : Func) (hf : Tryd.pinned.checked.prog.funcNamed "loop.example/chartulary/laws.FnExactPolOk" = some f) (hfn : Tryd.pinned.checked.prog.funcs[f]? = some fn) :
    true = Tryd.pinned.checked.prog.looks [] ∧ ∀ (j : Nat) t, fn.params[j]? = some t → Tryd.pinned.checked.prog.wantsStandIn t = false := by
  obtain rfl : f = 3 := Option.some.inj ((show Tryd.prog.funcNamed "loop.example/chartulary/laws.FnExactPolOk" = some 3 by kernel_rfl).symm.trans hf) |>.symm
  obtain rfl : fn = Tryd.f3 := (Option.some.inj (Tryd.func3.symm.trans hfn)).symm
  refine ⟨by kernel_rfl, fun j t ht => ?_⟩
  rw [Tryd.params3] at ht
  obtain rfl : t = 22 := by simpa using Array.mem_of_getElem? ht
  exact (show Tryd.prog.wantsStandIn 22 = false by kernel_rfl)
theorem proved : Rows.FnExactPolOkCardSaid :=
  Claim7.holds_tied_plain_at .later [] _ _ _ _ said (fun _ h => by cases h) (by kernel_rfl) (fun _ h => by cases h) fnExactPolOk_row_tie rfl ⟨rfl, rfl⟩ (by kernel_rfl) rfl plain (by kernel_rfl)
#print axioms proved
end Go.Proofs.YteaicokndmgciaaDoor.fnExactPolOk
