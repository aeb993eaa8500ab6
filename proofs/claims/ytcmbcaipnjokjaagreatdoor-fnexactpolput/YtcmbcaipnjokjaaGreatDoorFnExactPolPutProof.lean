/-
  At every list of items and every text PolPut of the program answers as the specification's PolPut: the pool, item by item, the id and what came of it, in new memory, which nothing else holds; the list reads as it did. No condition. errors.errorType holds what the program's text lays; the card ties it.
-/
import Derived.Test.YtcmbcaipnjokjaaGreatDoorCards
import Derived.Test.YtcmbcaipnjokjaaGreatDoorTie
import Derived.WalkKit
import Derived.ProofKit
import Derived.OpenShut
import Derived.ShutString
import Derived.Below
import Derived.Carry
import Derived.LaidLaws
import Derived.Test.YtcmbcaipnjokjaaGreatDoorWalkAs
import Derived.LaidHandle
import Derived.Deep.DeepHandedRow
import Derived.Test.YtcmbcaipnjokjaaGreatDoorOpenPol
import Derived.Test.YtcmbcaipnjokjaaGreatDoorWalkPolS
import Derived.Test.YtcmbcaipnjokjaaGreatDoorWalkPolM
import Derived.Test.YtcmbcaipnjokjaaGreatDoorWalkPolN
import Derived.Test.YtcmbcaipnjokjaaGreatDoorWalkPutI
namespace Go.Proofs.YtcmbcaipnjokjaaGreatDoor.fnExactPolPut
open Go.ChangeShapes Go.WideShapes Go.ChangeAt Go.RowKit
open Go.ChangeMaps (open_string shut_string)
set_option linter.unusedVariables false

theorem own : ownKnob Tryz.prog.godebug = none := by kernel_rfl
theorem laidOut : laidOutB Tryz.prog = true := by kernel_rfl

theorem et : Tryz.prog.globalNamed "errors.errorType" = some 0 := by kernel_rfl
theorem rt : (Tryz.prog.cutTypes.find? (·.1 == "internal/reflectlite.rtype")).map (·.2) = some 161 := by kernel_rfl
theorem oneRow : ((List.range 227).filter fun t => Tryz.prog.rowNamed t [101, 114, 114, 111, 114]) = [113] := by kernel_rfl
theorem tsize : Tryz.prog.types.size = 227 := by kernel_rfl
theorem handle_of_laid {W : World} (h : laidMetH Tryz.prog Rows.fnExactPolPutRow.laid W) : Go.Proofs.YtcmbcaipnjokjaaGreatDoor.W.TypeCell W := by
  have h' : laidMet Tryz.prog [] W ∧ handlesMet Tryz.prog Rows.fnExactPolPutRow.laid W := h
  obtain ⟨name, u, ty, e1, e2, e3, e4, e5⟩ := h'.2 _ (List.mem_singleton.2 rfl)
  have en : name = [101, 114, 114, 111, 114] := (Option.some.inj e1).symm
  subst en
  obtain rfl := Option.some.inj (rt.symm.trans e2)
  have hm : ty ∈ (List.range 227).filter fun t => Tryz.prog.rowNamed t [101, 114, 114, 111, 114] := List.mem_filter.2 ⟨List.mem_range.2 (by rw [← tsize]; exact e3), e4⟩
  rw [oneRow] at hm
  obtain rfl := List.mem_singleton.1 hm
  have hh : typeHandle Tryz.prog 113 = .pointer (some ⟨2, 113, none⟩) := by kernel_rfl
  rw [hh] at e5
  simpa [Go.Proofs.YtcmbcaipnjokjaaGreatDoor.W.TypeCell] using World.var?_cell et e5 0

open Go.Proofs.YtcmbcaipnjokjaaGreatDoor.W in
theorem each_le (L : List PI) (j : Nat) (h : j < L.length) : (L[j]).tx.size ≤ szP L := by
  have h1 := szP_snoc L j h
  have h2 := szP_le L (j + 1)
  omega
open Go.Proofs.YtcmbcaipnjokjaaGreatDoor.W Go.Proofs.YtcmbcaipnjokjaaGreatDoor.M in
theorem putR_len (L : List PI) (s : ByteArray) : (putR L s).1.length ≤ 701 := by
  unfold putR
  split
  · rename_i h
    have h7 := (okP_rise L h.1).2.1
    unfold putPool
    split
    · split
      · show L.length ≤ 701; omega
      · show L.length ≤ 701; omega
    · split
      · show L.length ≤ 701; omega
      · show (insP L _).length ≤ 701; rw [len_insP]; omega
  · simp
open Go.Proofs.YtcmbcaipnjokjaaGreatDoor.W Go.Proofs.YtcmbcaipnjokjaaGreatDoor.M in
set_option maxRecDepth 100000 in
set_option maxHeartbeats 8000000 in
theorem walk (A0 : Option Addr) (c0 : Nat) (L0 : List Go.Proofs.YtcmbcaipnjokjaaGreatDoor.W.PI) (a1 : ByteArray) (w1 : a1.size ≤ maxLen) (w : World) (hg : Go.Proofs.YtcmbcaipnjokjaaGreatDoor.W.TypeCell w) (rd0 : Go.Proofs.YtcmbcaipnjokjaaGreatDoor.W.RdP w.heap.size w A0 L0) (n0 : L0.length ≤ maxLen) (t0 : ∀ j (h : j < L0.length), (L0[j]).tx.size ≤ maxLen) :
    Calls Tryz.prog 3 #[.slice A0 L0.length c0, .string a1] w fun e w' => e = .returned (.bool true) ∧ Below w.heap.size w w' := by
  have hgl := hg.lt
  have HG : Hid (Go.Proofs.YtcmbcaipnjokjaaGreatDoor.W.TypeCell w) := hg
  clear hg
  by_cases hbig : 1048576 < a1.size
  · unfold maxLen at w1
    go_enter Tryz.func3, Tryz.ntmps3
    go_wp2
    go_ret
    exact ⟨rfl, Below.refl _ _⟩
  have hp : a1.size ≤ 1048576 := by omega
  obtain ⟨N, hN⟩ : ∃ N, N = (putR L0 a1).1 := ⟨_, rfl⟩
  obtain ⟨k1, hk1⟩ : ∃ k1, k1 = (putR L0 a1).2.1 := ⟨_, rfl⟩
  obtain ⟨k2, hk2⟩ : ∃ k2, k2 = (putR L0 a1).2.2 := ⟨_, rfl⟩
  have ho : N.length ≤ 701 := by rw [hN]; exact putR_len L0 a1
  have HI : Hid (∀ {b : Nat} {e : TypeId} (v : Value) (w : World) (h : w.ownsRow b e 2 v L0.length (cellsP L0)) (hg : Go.Proofs.YtcmbcaipnjokjaaGreatDoor.W.TypeCell w) (hz : L0.length + szP L0 ≤ 1048576), Calls Tryz.prog 9 #[v, .string a1] w fun e w' => (∃ v, e = .returned (.tuple #[v, .int .i64 k1, .int .i64 k2]) ∧ w'.ownsRow w.heap.size 49 2 v N.length (cellsP N)) ∧ Below w.heap.size w w') := fun v w h hg hz => by
    obtain ⟨A, c, rfl, rd⟩ := rdP_of_own h
    rw [hN, hk1, hk2]
    exact polPut_impl A c L0 a1 w hg rd (by omega) (fun j h => by have := each_le L0 j h; omega) hp
  have HP : Hid (∀ {b : Nat} {e : TypeId} (v : Value) (w : World) (h : w.ownsRow b e 2 v L0.length (cellsP L0)) (hz : L0.length + szP L0 ≤ 1048576), Calls Tryz.prog 7 #[v, .string a1] w fun e w' => (∃ v, e = .returned (.tuple #[v, .int .i64 k1, .int .i64 k2]) ∧ w'.ownsRow w.heap.size 49 2 v N.length (cellsP N)) ∧ Below w.heap.size w w') := fun v w h hz => by
    rw [hN, hk1, hk2]
    exact polPut_spec v L0 a1 w h (by omega) (fun j h => by have := each_le L0 j h; omega) hp
  have HBg : Hid (¬ 1048576 < a1.size) := hbig
  clear hN hk1 hk2 hbig
  have ta1 : True := trivial
  have ta2 : True := trivial
  have ta3 : True := trivial
  have tp : True := trivial
  go_enter Tryz.func3, Tryz.ntmps3
  go_wp2_with (first
    | (go_at_call 6; refine (szPS_any A0 c0 L0 _ rd0 n0 t0).mono ?_; rintro e wA ⟨⟨r, rfl, hr | ⟨hr, hz⟩⟩, B⟩)
    | (go_at_call 8; have _t := ta1; refine (toPS_any A0 c0 L0 _ (rd0.up B) (by omega)).mono ?_; rintro e w2 ⟨⟨v1, rfl, o1⟩, hb⟩; clear _t ta1; replace B := B.trans (hb.mono B.size); clear hb)
    | (go_at_call 7; refine (HP.out v1 _ o1 hz).mono ?_; rintro e w4 ⟨⟨v0, rfl, o0⟩, hb⟩; replace B := B.trans (hb.mono B.size); clear hb o1)
    | (go_at_call 8; have _t := ta2; refine (toPS_any A0 c0 L0 _ (rd0.up B) (by omega)).mono ?_; rintro e w5 ⟨⟨x, rfl, ox⟩, hb⟩; clear _t ta2; have s0x := ownsLt o0; have bx := B.size; replace o0 := ownsUnder o0 hb (Nat.le_refl _); replace B := B.trans (hb.mono B.size); clear hb)
    | (go_at_call_of 9 x; refine (HI.out x _ ox (HG.out.below B hgl) hz).mono ?_; rintro e w7 ⟨⟨g, rfl, og⟩, hb⟩; have sxg := ownsLt ox; have s0g := ownsLt o0; have bg := B.size; replace o0 := ownsUnder o0 hb (Nat.le_refl _); replace ox := ownsUnder ox hb (Nat.le_refl _); replace B := B.trans (hb.mono B.size); clear hb)
    | (go_at_call_of 10 g; have _t := tp; refine (eqP_own g v0 _ _ og o0 (by omega)).mono ?_; rintro e w8 ⟨rfl, hb⟩; clear _t tp; replace o0 := ownsUnder o0 hb (Nat.le_refl _); replace ox := ownsUnder ox hb (Nat.le_refl _); replace og := ownsUnder og hb (Nat.le_refl _); replace B := B.trans (hb.mono B.size); clear hb)
    | (go_at_call 8; have _t := ta3; refine (toPS_any A0 c0 L0 _ (rd0.up B) (by omega)).mono ?_; rintro e w9 ⟨⟨y, rfl, oy⟩, hb⟩; clear _t ta3; replace o0 := ownsUnder o0 hb (Nat.le_refl _); replace ox := ownsUnder ox hb (Nat.le_refl _); replace og := ownsUnder og hb (Nat.le_refl _); replace B := B.trans (hb.mono B.size); clear hb)
    | (go_at_call_of 10 y; refine (eqP_own x y _ _ ox oy (by omega)).mono ?_; rintro e w10 ⟨rfl, hb⟩; replace o0 := ownsUnder o0 hb (Nat.le_refl _); replace ox := ownsUnder ox hb (Nat.le_refl _); replace og := ownsUnder og hb (Nat.le_refl _); replace B := B.trans (hb.mono B.size); clear hb oy)
    | (go_at_call_of 11 x; refine (markP_own x _ _ ox (by omega)).mono ?_; rintro e w13 ⟨rfl, ox', hgr⟩; replace o0 := keptLo o0 s0x ox hgr; replace og := keptHi og ox sxg hgr; replace B := growOwn B B.size ox hgr bx; clear ox ox' hgr; have tq : True := trivial)
    | (go_at_call_of 10 g; have _t := tq; refine (eqP_own g v0 _ _ og o0 (by omega)).mono ?_; rintro e w15 ⟨rfl, hb⟩; clear _t tq; replace o0 := ownsUnder o0 hb (Nat.le_refl _); replace og := ownsUnder og hb (Nat.le_refl _); replace B := B.trans (hb.mono B.size); clear hb)
    | (go_at_call_of 11 g; refine (markP_own g _ _ og (by omega)).mono ?_; rintro e w16 ⟨rfl, og', hgr⟩; replace o0 := keptLo o0 s0g og hgr; replace B := growOwn B B.size og hgr bg; clear og hgr)
    | (go_at_call 12; refine (heldP_own g _ _ og' (by omega)).mono ?_; rintro e w17 ⟨rfl, hb⟩; replace o0 := ownsUnder o0 hb (Nat.le_refl _); replace og' := ownsUnder og' hb (Nat.le_refl _); replace B := B.trans (hb.mono B.size); clear hb)
    | (go_at_call 8; refine (toPS_any A0 c0 L0 _ (rd0.up B) (by omega)).mono ?_; rintro e w18 ⟨⟨p, rfl, op⟩, hb⟩; replace o0 := ownsUnder o0 hb (Nat.le_refl _); replace og' := ownsUnder og' hb (Nat.le_refl _); replace B := B.trans (hb.mono B.size); clear hb)
    | (go_at_call_of 9 p; refine (HI.out p _ op (HG.out.below B hgl) hz).mono ?_; rintro e w20 ⟨⟨h, rfl, oh⟩, hb⟩; replace o0 := ownsUnder o0 hb (Nat.le_refl _); replace og' := ownsUnder og' hb (Nat.le_refl _); replace B := B.trans (hb.mono B.size); clear hb op)
    | (go_at_call_of 10 h; refine (eqP_own h v0 _ _ oh o0 (by omega)).mono ?_; rintro e w21 ⟨rfl, hb⟩; replace o0 := ownsUnder o0 hb (Nat.le_refl _); replace og' := ownsUnder og' hb (Nat.le_refl _); replace B := B.trans (hb.mono B.size); clear hb))
  all_goals
    go_ret
    exact ⟨rfl, B⟩

set_option maxRecDepth 100000 in
theorem contract (H : Type) (enc : TypeId × Value → H) (W : World) (base : Nat) (args : Array Value) (ds gs : List (DataW H)) (before : List MemPlace)
    (hval0 : ∀ (j : Nat) t v, Tryz.f3.params[j]? = some t → args[j]? = some v → Value.okWide Tryz.prog W .any base t v)
    (hW : DataW.Whole enc Tryz.prog Tryz.f3.params.toList Rows.fnExactPolPutSpec.vars false W args.toList ds gs before) (hL : laidMetH Tryz.prog Rows.fnExactPolPutRow.laid W) :
    Calls Tryz.prog 3 args W fun e W' => ∃ v, e = .returned v ∧ Rows.fnExactPolPutSpec.post enc Tryz.prog Tryz.f3 false true false false W args v W' := by
  have hval := hval0
  have hW' := hW
  obtain ⟨p, q, hA0, hV, rfl, hfz, hnd⟩ := hW
  have hA : DataW.TrodAll enc Tryz.prog W 0 (fun _ => true) true Tryz.f3.params.toList args.toList ds p := hA0
  rw [Tryz.params3] at hA hval
  obtain ⟨v0, vs0, d0, ds0, p0, q0, hargs, rfl, rfl, h0, r0⟩ := trodAll_cons hA
  obtain ⟨v1, vs1, d1, ds1, p1, q1, rfl, rfl, rfl, h1, r1⟩ := trodAll_cons r0
  obtain ⟨rfl, rfl, rfl⟩ := trodAll_nil r1
  obtain rfl : args = #[v0, v1] := by cases args; simp_all
  obtain ⟨rfl, rfl⟩ := trodVars_none hV
  have k0 := h0
  have k1 := h1
  obtain ⟨A0, c0, L0, rfl, rd0, n0, t0⟩ := Go.Proofs.YtcmbcaipnjokjaaGreatDoor.W.open_P h0 (okWide_slice Tryz.underlying22 (hval 0 22 v0 rfl rfl))
  obtain ⟨a1, rfl, rfl, rfl, w1⟩ := open_string Tryz.underlying9 (hval 1 9 v1 rfl rfl) h1
  clear hA0 hval0
  simp only [List.append_nil] at hW'
  refine (walk A0 c0 L0 a1 w1 W (handle_of_laid hL) rd0 n0 t0).mono fun e W' ⟨he, hg⟩ => ?_
  subst he
  exact ⟨_, rfl, _, _, _, [], _, [], hW', (trodAll_cons_mk (shut_bool Tryz.underlying4 _) trodAll_mk0), (trodAll_cons_mk (Below.trod laidOut (by kernel_rfl) (of_decide_eq_true (by kernel_rfl)) k0 hg (fun x hx => hW'.lt x (by first | (simp [hx]; done) | simp at hx))) (trodAll_cons_mk (Below.trod laidOut (by kernel_rfl) (of_decide_eq_true (by kernel_rfl)) k1 hg (fun x hx => hW'.lt x (by first | (simp [hx]; done) | simp at hx))) trodAll_mk0)), rfl, hg.frame _, fun h => by cases h⟩

noncomputable def laidWorld (os : Os) : World :=
  { World.holding Tryz.prog os ⟨#[], #[], []⟩ with heap := (World.holding Tryz.prog os ⟨#[], #[], []⟩).heap.modify 0 fun
      | .cells _ t frozen => .cells #[.iface 161 (.agg #[.pointer (some ⟨2, 113, none⟩)])] t frozen
      | o => o }
theorem laid_met (os : Os) : laidMetH Tryz.prog Rows.fnExactPolPutRow.laid ((laidWorld os).forCall (fun _ _ => 0) ⟨#[], #[.slice none 0 0, .string ByteArray.empty], []⟩).memory :=
  laidMetH_of_parts (laidMet_nil _ _) (by kernel_rfl)
theorem reads (os : Os) {H : Type} (enc : TypeId × Value → H) : ∃ places, DataW.whole enc Tryz.prog ((laidWorld os).forCall (fun _ _ => 0) ⟨#[], #[.slice none 0 0, .string ByteArray.empty], []⟩).memory Tryz.f3.params.toList Rows.fnExactPolPutSpec.vars false #[Value.slice none 0 0, .string ByteArray.empty].toList 8 = some ([.nil, .lit (.string [])], [], places) :=
  ⟨[], by kernel_rfl⟩

set_option maxRecDepth 100000 in
theorem lifted (os : Os) (started : os.Started) (H : Type) (enc : TypeId × Value → H) (F : Stop.Interp) :
    ReturnsInHanded {} Tryz.checked os 3 .any ((OpenSpec.ofChange Rows.fnExactPolPutSpec).preRow enc Tryz.prog Tryz.f3 Rows.fnExactPolPutRow.domain false Rows.fnExactPolPutRow.laid) (((OpenSpec.ofChange Rows.fnExactPolPutSpec).at F).post enc Tryz.prog Tryz.f3 false true false false) := by
  obtain ⟨places, hx⟩ := reads os enc
  refine returnsInHanded_of_row (C := Tryz.checked) (s := OpenSpec.ofChange Rows.fnExactPolPutSpec) own started (by kernel_rfl) Tryz.func3
    (witness_row_at (enc := enc) (C := Tryz.checked) false (laidWorld os) #[.slice none 0 0, .string ByteArray.empty] rfl (by kernel_rfl) (by kernel_rfl) (by kernel_rfl)
      (OpenSpec.preRow_of_cond 8 hx (by kernel_rfl) (fun k hk => by cases hk) (by kernel_rfl) (laid_met os))) ?_
  intro W base args ds gs before hval hW _ _ _ hL _ _
  exact contract H enc W base args ds gs before hval hW hL

theorem said : Rows.FnExactPolPutSaid :=
  OpenClaim.holds_of_cond 3 Tryz.f3 rfl rfl rfl rfl rfl rfl rfl ⟨rfl, rfl, rfl, rfl, rfl⟩ rfl rfl rfl rfl rfl (by kernel_rfl) Tryz.func3 (by kernel_rfl)
    (of_decide_eq_true (by kernel_rfl)) (by unfold Func.isWrapper; first | (rw [if_pos (by decide +kernel)]; kernel_rfl) | (rw [if_neg (by decide +kernel)]; exact ⟨rfl, rfl⟩))
    (fun os started H enc _ F => by rw [OpenClaim.pre_eq_preRow]; exact lifted os started H enc F)
theorem plain (f : FuncId) (fn : Func) (hf : Tryz.pinned.checked.prog.funcNamed "loop.example/chartulary/laws.FnExactPolPut" = some f) (hfn : Tryz.pinned.checked.prog.funcs[f]? = some fn) :
    true = Tryz.pinned.checked.prog.looks [] ∧ ∀ (j : Nat) t, fn.params[j]? = some t → Tryz.pinned.checked.prog.wantsStandIn t = false := by
  obtain rfl : f = 3 := Option.some.inj ((show Tryz.prog.funcNamed "loop.example/chartulary/laws.FnExactPolPut" = some 3 by kernel_rfl).symm.trans hf) |>.symm
  obtain rfl : fn = Tryz.f3 := (Option.some.inj (Tryz.func3.symm.trans hfn)).symm
  refine ⟨by kernel_rfl, fun j t ht => ?_⟩
  rw [Tryz.params3] at ht
  have hm := Array.mem_of_getElem? ht
  simp only [List.mem_toArray, List.mem_cons, List.not_mem_nil, or_false] at hm
  rcases hm with rfl | rfl
  · exact (show Tryz.prog.wantsStandIn 22 = false by kernel_rfl)
  · exact (show Tryz.prog.wantsStandIn 9 = false by kernel_rfl)
theorem proved : Rows.FnExactPolPutCardSaid :=
  Claim7.holds_tied_plain_at .later [] _ _ _ _ said (fun _ h => by cases h) (by kernel_rfl) (fun _ h => by cases h) fnExactPolPut_row_tie rfl ⟨rfl, rfl⟩ (by kernel_rfl) rfl plain (by kernel_rfl)
#print axioms proved
end Go.Proofs.YtcmbcaipnjokjaaGreatDoor.fnExactPolPut
