/-
  Of every code: taking a drawn id out of a drawn pool, the program answers as the specification; of a pool that is ok the rest is ok, the id is not there any more, and ids and bytes are less by just what it was. The code reads as it did. errors.errorType holds what the program's text lays; the card ties it.
-/
import Derived.Test.YthfffpdkmoclbaaGreatDoorCards
import Derived.Test.YthfffpdkmoclbaaGreatDoorTie
import Derived.WalkKit
import Derived.ProofKit
import Derived.OpenShut
import Derived.ShutString
import Derived.Below
import Derived.Carry
import Derived.LaidLaws
import Derived.Test.YthfffpdkmoclbaaGreatDoorMg01
import Derived.LaidHandle
import Derived.Deep.DeepHandedRow
import Derived.Test.YthfffpdkmoclbaaGreatDoorMg34
import Derived.Test.YthfffpdkmoclbaaGreatDoorMg35
import Derived.Test.YthfffpdkmoclbaaGreatDoorMg33
import Derived.Test.YthfffpdkmoclbaaGreatDoorMg30
namespace Go.Proofs.YthfffpdkmoclbaaGreatDoor.fnPolOut
open Go.ChangeShapes Go.WideShapes Go.ChangeAt Go.RowKit
open Go.ChangeMaps (open_string shut_string)
set_option linter.unusedVariables false

theorem own : ownKnob Tryz.prog.godebug = none := by kernel_rfl
theorem laidOut : laidOutB Tryz.prog = true := by kernel_rfl

theorem et : Tryz.prog.globalNamed "errors.errorType" = some 0 := by kernel_rfl
theorem rt : (Tryz.prog.cutTypes.find? (·.1 == "internal/reflectlite.rtype")).map (·.2) = some 206 := by kernel_rfl
theorem oneRow : ((List.range 282).filter fun t => Tryz.prog.rowNamed t [101, 114, 114, 111, 114]) = [155] := by kernel_rfl
theorem tsize : Tryz.prog.types.size = 282 := by kernel_rfl
theorem handle_of_laid {W : World} (h : laidMetH Tryz.prog Rows.fnPolOutRow.laid W) : Go.Proofs.YthfffpdkmoclbaaGreatDoor.W.TypeCell W := by
  have h' : laidMet Tryz.prog [] W ∧ handlesMet Tryz.prog Rows.fnPolOutRow.laid W := h
  obtain ⟨name, u, ty, e1, e2, e3, e4, e5⟩ := h'.2 _ (List.mem_singleton.2 rfl)
  have en : name = [101, 114, 114, 111, 114] := (Option.some.inj e1).symm
  subst en
  obtain rfl := Option.some.inj (rt.symm.trans e2)
  have hm : ty ∈ (List.range 282).filter fun t => Tryz.prog.rowNamed t [101, 114, 114, 111, 114] := List.mem_filter.2 ⟨List.mem_range.2 (by rw [← tsize]; exact e3), e4⟩
  rw [oneRow] at hm
  obtain rfl := List.mem_singleton.1 hm
  have hh : typeHandle Tryz.prog 155 = .pointer (some ⟨2, 155, none⟩) := by kernel_rfl
  rw [hh] at e5
  simpa [Go.Proofs.YthfffpdkmoclbaaGreatDoor.W.TypeCell] using World.var?_cell et e5 0

open Go.Proofs.YthfffpdkmoclbaaGreatDoor.W Go.Proofs.YthfffpdkmoclbaaGreatDoor.M in
theorem szBound (L : List PI) (hL : L.length ≤ 701) (h : shP L) : L.length + szP L ≤ 1048576 := by
  have := shP_sz L h
  omega
open Go.Proofs.YthfffpdkmoclbaaGreatDoor.W Go.Proofs.YthfffpdkmoclbaaGreatDoor.M in
theorem getV_some' (L : List PI) (n : Int) (t : ByteArray) (h : getP L n = some t) : getV L n = .tuple #[.string t, .bool true] := by unfold getV; rw [h]
open Go.Proofs.YthfffpdkmoclbaaGreatDoor.W Go.Proofs.YthfffpdkmoclbaaGreatDoor.M in
theorem getV_none' (L : List PI) (n : Int) (h : getP L n = none) : getV L n = .tuple #[.string ByteArray.empty, .bool false] := by unfold getV; rw [h]
open Go.Proofs.YthfffpdkmoclbaaGreatDoor.W Go.Proofs.YthfffpdkmoclbaaGreatDoor.M in
set_option maxRecDepth 100000 in
set_option maxHeartbeats 8000000 in
theorem walk (a0 : Option Addr) (len0 cap0 : Nat) (z0 : List Int) (w : World) (hg : Go.Proofs.YthfffpdkmoclbaaGreatDoor.W.TypeCell w) (s0 : Go.Proofs.YthfffpdkmoclbaaGreatDoor.W.Src w a0 len0 cap0 (fun i => z0.getD i 0)) :
    Calls Tryz.prog 4 #[.slice a0 len0 cap0] w fun e w' => e = .returned (.bool true) ∧ Below w.heap.size w w' := by
  have HS : Hid (W.Src w a0 len0 cap0 (fun i => z0.getD i 0)) := s0
  clear s0
  have HG : Hid (TypeCell w) := hg
  have hgl := hg.lt
  clear hg
  by_cases h : 1048576 < len0
  · go_enter Tryz.func4, Tryz.ntmps4
    go_wp2
    go_ret
    exact ⟨rfl, Below.refl _ _⟩
  have t1 : True := trivial
  go_enter Tryz.func4, Tryz.ntmps4
  go_wp2_with (first
    | (go_at_call 19; refine (drawPolOut_any _ _ _ _ _ HS.out).mono ?_; rintro e w1 ⟨⟨v1, L, id, rfl, hL, hSL, O1⟩, B⟩; obtain ⟨A1, c1, rfl, LL⟩ := rdP_of_own O1; have HSL : Hid (shP L) := hSL; have hsz := szBound L hL hSL; have HSX : Hid (shP (outP L id)) := shP_out hSL id; have hX := outP_le L id; obtain ⟨X, hXe⟩ : ∃ X, outP L id = X := ⟨_, rfl⟩; have HX : Hid (outP L id = X) := hXe; rw [hXe] at HSX hX; clear hXe hSL O1 HS; have hszX := szBound X (by omega) HSX.out)
    | (go_at_call 20; refine (polOut_impl A1 c1 L id _ LL (by omega)).mono ?_; rw [HX.out]; rintro e w2 ⟨⟨vx, rfl, ox⟩, hb⟩; obtain ⟨AX, cX, rfl, XX⟩ := rdP_of_own ox; replace LL := LL.up hb; replace B := B.trans (hb.mono B.size); clear ox hb)
    | (go_at_call 21; refine (polOut_spec A1 c1 L id _ LL (by omega)).mono ?_; rw [HX.out]; rintro e w3 ⟨⟨vy, rfl, oy⟩, hb⟩; obtain ⟨AY, cY, rfl, YY⟩ := rdP_of_own oy; replace LL := LL.up hb; replace XX := XX.up hb; replace B := B.trans (hb.mono B.size); clear oy hb)
    | (go_at_call 12; refine (chPool_same AX AY cX cY X _ XX YY (by omega)).mono ?_; rintro e w4 ⟨rfl, hb⟩; replace LL := LL.up hb; replace XX := XX.up hb; replace B := B.trans (hb.mono B.size); clear hb YY)
    | (go_at_call 23; have _t := t1; refine (polIds_impl A1 c1 L _ LL (by omega)).mono ?_; rintro e w5 ⟨⟨vi, rfl, oi⟩, hb⟩; obtain ⟨AI, cI, rfl, II⟩ := rdI_of_own oi; replace LL := LL.up hb; replace XX := XX.up hb; replace B := B.trans (hb.mono B.size); clear oi hb)
    | (go_at_call 24; have _t := t1; refine (polIds_spec A1 c1 L _ LL (by omega)).mono ?_; rintro e w6 ⟨⟨vj, rfl, oj⟩, hb⟩; obtain ⟨AJ, cJ, rfl, JJ⟩ := rdI_of_own oj; replace LL := LL.up hb; replace XX := XX.up hb; replace II := II.up hb; replace B := B.trans (hb.mono B.size); clear oj hb)
    | (go_at_call 22; refine (chInts_two AI AJ cI cJ (idsP L) _ II JJ (by simp [idsP]; omega)).mono ?_; rintro e w7 ⟨rfl, hb⟩; replace LL := LL.up hb; replace XX := XX.up hb; replace B := B.trans (hb.mono B.size); clear hb II JJ)
    | (go_at_call 13; have _t := t1; refine (polOk_spec A1 c1 L _ LL (by omega) (shSizes HSL.out)).mono ?_; rintro e w8 ⟨rfl, hb⟩; replace LL := LL.up hb; replace XX := XX.up hb; replace B := B.trans (hb.mono B.size); clear hb _t t1; obtain ⟨k, hk⟩ : ∃ k, okP L = k := ⟨_, rfl⟩; have HK : Hid (okP L = k) := hk; rw [hk]; clear hk; cases k))
  · go_wp2_with (first
      | (go_at_call 18; refine (polOk_impl A1 c1 L _ (HG.out.below B hgl) LL (by omega) (shSizes HSL.out)).mono ?_; rw [HK.out]; rintro e w9 ⟨rfl, hb⟩; replace B := B.trans (hb.mono B.size); clear hb LL)
      | (go_at_call 15; refine (chOk_o _).mono ?_; rintro e wA ⟨rfl, rfl⟩))
    go_ret
    exact ⟨rfl, B⟩
  · have hr := (okP_rise L HK.out).1
    have HXK : Hid (okP X = true) := (show okP X = true by rw [← HX.out]; exact outP_ok L id HK.out)
    have HN : Hid (getV X id = .tuple #[.string ByteArray.empty, .bool false]) := (show _ = _ by
      rw [← HX.out]
      exact getV_none' _ _ ((getP_find _ _ (outP_rise L id hr)).trans (outP_find L id)))
    have hcount := outP_count L id hr
    rw [HX.out] at hcount
    have hgf := getP_find L id hr
    have hli : (idsP X).length = X.length := by simp [idsP]
    cases hf : findP L id with
    | some t =>
      rw [hf] at hcount hgf
      obtain ⟨hc1, hc2⟩ := hcount
      have HV : Hid (getV L id = .tuple #[.string t, .bool true]) := (show _ = _ from getV_some' L id t hgf)
      have e1 : (((idsP X).length : Nat) : Int) = ((L.length : Nat) : Int) - 1 := by omega
      have e2 : ((szP X : Nat) : Int) = ((szP L : Nat) : Int) - ((t.size : Nat) : Int) := by omega
      clear hf hgf hr
      go_wp2_with (first
        | (go_at_call_of 16 A1; refine (polGet_impl A1 c1 L id _ LL (by omega)).mono ?_; rw [HV.out]; rintro e w9 ⟨rfl, rfl⟩)
        | (go_at_call_of 16 AX; refine (polGet_impl AX cX X id _ XX (by omega)).mono ?_; rw [HN.out]; rintro e w9 ⟨rfl, rfl⟩)
        | (go_at_call_of 18 AX; refine (polOk_impl AX cX X _ (HG.out.below B hgl) XX (by omega) (shSizes HSX.out)).mono ?_; rw [HXK.out]; rintro e wA ⟨rfl, hb⟩; replace LL := LL.up hb; replace XX := XX.up hb; replace B := B.trans (hb.mono B.size); clear hb)
        | (go_at_call_of 23 AX; refine (polIds_impl AX cX X _ XX (by omega)).mono ?_; rintro e wB ⟨⟨vi, rfl, oi⟩, hb⟩; obtain ⟨AI, cI, rfl, II⟩ := rdI_of_own oi; replace LL := LL.up hb; replace XX := XX.up hb; replace B := B.trans (hb.mono B.size); clear oi hb II)
        | (go_at_call_of 25 AX; refine (polSize_impl AX cX X _ XX hszX).mono ?_; rintro e wC ⟨rfl, hb⟩; replace LL := LL.up hb; replace XX := XX.up hb; replace B := B.trans (hb.mono B.size); clear hb)
        | (go_at_call_of 25 A1; refine (polSize_impl A1 c1 L _ LL hsz).mono ?_; rintro e wD ⟨rfl, hb⟩; replace LL := LL.up hb; replace B := B.trans (hb.mono B.size); clear hb)
        | (go_at_call_of 26 A1; refine (polSize_spec A1 c1 L _ LL hsz).mono ?_; rintro e wE ⟨rfl, hb⟩; replace B := B.trans (hb.mono B.size); clear hb)
        | (go_at_call 15; refine (chOk_o _).mono ?_; rintro e wF ⟨rfl, rfl⟩))
      go_ret
      exact ⟨rfl, B⟩
    | none =>
      rw [hf] at hcount hgf
      have hcx : X = L := hcount
      have HV : Hid (getV L id = .tuple #[.string ByteArray.empty, .bool false]) := (show _ = _ from getV_none' L id hgf)
      have e1 : (((idsP X).length : Nat) : Int) = ((L.length : Nat) : Int) := by rw [hli, hcx]
      have e2 : ((szP X : Nat) : Int) = ((szP L : Nat) : Int) := by rw [hcx]
      have e0 : ByteArray.empty.size = 0 := rfl
      clear hf hgf hr hcx hcount
      go_wp2_with (first
        | (go_at_call_of 16 A1; refine (polGet_impl A1 c1 L id _ LL (by omega)).mono ?_; rw [HV.out]; rintro e w9 ⟨rfl, rfl⟩)
        | (go_at_call_of 16 AX; refine (polGet_impl AX cX X id _ XX (by omega)).mono ?_; rw [HN.out]; rintro e w9 ⟨rfl, rfl⟩)
        | (go_at_call_of 18 AX; refine (polOk_impl AX cX X _ (HG.out.below B hgl) XX (by omega) (shSizes HSX.out)).mono ?_; rw [HXK.out]; rintro e wA ⟨rfl, hb⟩; replace LL := LL.up hb; replace XX := XX.up hb; replace B := B.trans (hb.mono B.size); clear hb)
        | (go_at_call_of 23 AX; refine (polIds_impl AX cX X _ XX (by omega)).mono ?_; rintro e wB ⟨⟨vi, rfl, oi⟩, hb⟩; obtain ⟨AI, cI, rfl, II⟩ := rdI_of_own oi; replace LL := LL.up hb; replace XX := XX.up hb; replace B := B.trans (hb.mono B.size); clear oi hb II)
        | (go_at_call_of 25 AX; refine (polSize_impl AX cX X _ XX hszX).mono ?_; rintro e wC ⟨rfl, hb⟩; replace LL := LL.up hb; replace XX := XX.up hb; replace B := B.trans (hb.mono B.size); clear hb)
        | (go_at_call_of 25 A1; refine (polSize_impl A1 c1 L _ LL hsz).mono ?_; rintro e wD ⟨rfl, hb⟩; replace LL := LL.up hb; replace B := B.trans (hb.mono B.size); clear hb)
        | (go_at_call_of 26 A1; refine (polSize_spec A1 c1 L _ LL hsz).mono ?_; rintro e wE ⟨rfl, hb⟩; replace B := B.trans (hb.mono B.size); clear hb)
        | (go_at_call 15; refine (chOk_o _).mono ?_; rintro e wF ⟨rfl, rfl⟩))
      go_ret
      exact ⟨rfl, B⟩

set_option maxRecDepth 100000 in
theorem contract (H : Type) (enc : TypeId × Value → H) (W : World) (base : Nat) (args : Array Value) (ds gs : List (DataW H)) (before : List MemPlace)
    (hval0 : ∀ (j : Nat) t v, Tryz.f4.params[j]? = some t → args[j]? = some v → Value.okWide Tryz.prog W .any base t v)
    (hW : DataW.Whole enc Tryz.prog Tryz.f4.params.toList Rows.fnPolOutSpec.vars false W args.toList ds gs before) (hL : laidMetH Tryz.prog Rows.fnPolOutRow.laid W) :
    Calls Tryz.prog 4 args W fun e W' => ∃ v, e = .returned v ∧ Rows.fnPolOutSpec.post enc Tryz.prog Tryz.f4 false true false false W args v W' := by
  have hval := hval0
  have hW' := hW
  obtain ⟨p, q, hA0, hV, rfl, hfz, hnd⟩ := hW
  have hA : DataW.TrodAll enc Tryz.prog W 0 (fun _ => true) true Tryz.f4.params.toList args.toList ds p := hA0
  rw [Tryz.params4] at hA hval
  obtain ⟨v0, vs0, d0, ds0, p0, q0, hargs, rfl, rfl, h0, r0⟩ := trodAll_cons hA
  obtain ⟨rfl, rfl, rfl⟩ := trodAll_nil r0
  obtain rfl : args = #[v0] := by cases args; simp_all
  obtain ⟨rfl, rfl⟩ := trodVars_none hV
  have k0 := h0
  obtain ⟨a0, len0, cap0, rfl⟩ := okWide_slice Tryz.underlying22 (hval 0 22 v0 rfl rfl)
  obtain ⟨z0, s0⟩ : ∃ zs : List Int, Go.Proofs.YthfffpdkmoclbaaGreatDoor.W.Src W a0 len0 cap0 (fun i => zs.getD i 0) := by
    obtain ⟨fuel, hf⟩ := h0
    rcases open_ints Tryz.underlying22 Tryz.underlying5 (by kernel_rfl) hf with ⟨hcs, _⟩ | ⟨x, l, c, zs, hcs, _, hl, hm, hz, _, hcell, hwz⟩
    · simp [Value.cells] at hcs
      obtain ⟨rfl, rfl, rfl⟩ := hcs
      exact ⟨[], Go.Proofs.YthfffpdkmoclbaaGreatDoor.W.src_of W _ _ _ [] (.inl ⟨rfl, rfl, rfl, rfl⟩)⟩
    · simp [Value.cells] at hcs
      obtain ⟨rfl, rfl, rfl⟩ := hcs
      exact ⟨zs, Go.Proofs.YthfffpdkmoclbaaGreatDoor.W.src_of W _ _ _ zs (.inr ⟨_, rfl, hl, hm, by simpa using hz, hcell, hwz⟩)⟩
  clear hA0 hval0
  simp only [List.append_nil] at hW'
  refine (walk a0 len0 cap0 z0 W (handle_of_laid hL) s0).mono fun e W' ⟨he, hg⟩ => ?_
  subst he
  exact ⟨_, rfl, _, _, _, [], _, [], hW', (trodAll_cons_mk (shut_bool Tryz.underlying4 _) trodAll_mk0), (trodAll_cons_mk (Below.trod laidOut (by kernel_rfl) (of_decide_eq_true (by kernel_rfl)) k0 hg (fun x hx => hW'.lt x (by first | (simp [hx]; done) | simp at hx))) trodAll_mk0), rfl, hg.frame _, fun h => by cases h⟩

noncomputable def laidWorld (os : Os) : World :=
  { World.holding Tryz.prog os ⟨#[], #[], []⟩ with heap := (World.holding Tryz.prog os ⟨#[], #[], []⟩).heap.modify 0 fun
      | .cells _ t frozen => .cells #[.iface 206 (.agg #[.pointer (some ⟨2, 155, none⟩)])] t frozen
      | o => o }
theorem laid_met (os : Os) : laidMetH Tryz.prog Rows.fnPolOutRow.laid ((laidWorld os).forCall (fun _ _ => 0) ⟨#[], #[.slice none 0 0], []⟩).memory :=
  laidMetH_of_parts (laidMet_nil _ _) (by kernel_rfl)
theorem reads (os : Os) {H : Type} (enc : TypeId × Value → H) : ∃ places, DataW.whole enc Tryz.prog ((laidWorld os).forCall (fun _ _ => 0) ⟨#[], #[.slice none 0 0], []⟩).memory Tryz.f4.params.toList Rows.fnPolOutSpec.vars false #[Value.slice none 0 0].toList 8 = some ([.nil], [], places) :=
  ⟨[], by kernel_rfl⟩

set_option maxRecDepth 100000 in
theorem lifted (os : Os) (started : os.Started) (H : Type) (enc : TypeId × Value → H) (F : Stop.Interp) :
    ReturnsInHanded {} Tryz.checked os 4 .any ((OpenSpec.ofChange Rows.fnPolOutSpec).preRow enc Tryz.prog Tryz.f4 Rows.fnPolOutRow.domain false Rows.fnPolOutRow.laid) (((OpenSpec.ofChange Rows.fnPolOutSpec).at F).post enc Tryz.prog Tryz.f4 false true false false) := by
  obtain ⟨places, hx⟩ := reads os enc
  refine returnsInHanded_of_row (C := Tryz.checked) (s := OpenSpec.ofChange Rows.fnPolOutSpec) own started (by kernel_rfl) Tryz.func4
    (witness_row_at (enc := enc) (C := Tryz.checked) false (laidWorld os) #[.slice none 0 0] rfl (by kernel_rfl) (by kernel_rfl) (by kernel_rfl)
      (OpenSpec.preRow_of_cond 8 hx (by kernel_rfl) (fun k hk => by cases hk) (by kernel_rfl) (laid_met os))) ?_
  intro W base args ds gs before hval hW _ _ _ hL _ _
  exact contract H enc W base args ds gs before hval hW hL

theorem said : Rows.FnPolOutSaid :=
  OpenClaim.holds_of_cond 4 Tryz.f4 rfl rfl rfl rfl rfl rfl rfl ⟨rfl, rfl, rfl, rfl, rfl⟩ rfl rfl rfl rfl rfl (by kernel_rfl) Tryz.func4 (by kernel_rfl)
    (of_decide_eq_true (by kernel_rfl)) (by unfold Func.isWrapper; first | (rw [if_pos (by decide +kernel)]; kernel_rfl) | (rw [if_neg (by decide +kernel)]; exact ⟨rfl, rfl⟩))
    (fun os started H enc _ F => by rw [OpenClaim.pre_eq_preRow]; exact lifted os started H enc F)
theorem plain (f : FuncId) (fn : Func) (hf : Tryz.pinned.checked.prog.funcNamed "loop.example/chartulary/laws.FnPolOut" = some f) (hfn : Tryz.pinned.checked.prog.funcs[f]? = some fn) :
    true = Tryz.pinned.checked.prog.looks [] ∧ ∀ (j : Nat) t, fn.params[j]? = some t → Tryz.pinned.checked.prog.wantsStandIn t = false := by
  obtain rfl : f = 4 := Option.some.inj ((show Tryz.prog.funcNamed "loop.example/chartulary/laws.FnPolOut" = some 4 by kernel_rfl).symm.trans hf) |>.symm
  obtain rfl : fn = Tryz.f4 := (Option.some.inj (Tryz.func4.symm.trans hfn)).symm
  refine ⟨by kernel_rfl, fun j t ht => ?_⟩
  rw [Tryz.params4] at ht
  obtain rfl : t = 22 := by simpa using Array.mem_of_getElem? ht
  exact (show Tryz.prog.wantsStandIn 22 = false by kernel_rfl)
theorem proved : Rows.FnPolOutCardSaid :=
  Claim7.holds_tied_plain_at .later [] _ _ _ _ said (fun _ h => by cases h) (by kernel_rfl) (fun _ h => by cases h) fnPolOut_row_tie rfl ⟨rfl, rfl⟩ (by kernel_rfl) rfl plain (by kernel_rfl)
#print axioms proved
end Go.Proofs.YthfffpdkmoclbaaGreatDoor.fnPolOut
