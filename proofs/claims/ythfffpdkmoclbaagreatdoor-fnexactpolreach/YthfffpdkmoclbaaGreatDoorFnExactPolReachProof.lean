/-
  At every list of items and every list of numbers PolReach of the program answers as the specification's PolReach: the ids, number by number, and whether all are there, in new memory, which nothing else holds; both lists read as they did. No condition. errors.errorType holds what the program's text lays; the card ties it.
-/
import Derived.Test.YthfffpdkmoclbaaGreatDoorCards
import Derived.Test.YthfffpdkmoclbaaGreatDoorTie
import Derived.WalkKit
import Derived.ProofKit
import Derived.OpenShut
import Derived.ShutString
import Derived.Below
import Derived.Carry
import Derived.LaidLaws
import Derived.Test.YthfffpdkmoclbaaGreatDoorMg01
import Derived.LaidHandle
import Derived.Deep.DeepHandedRow
import Derived.Test.YthfffpdkmoclbaaGreatDoorMg43
import Derived.Test.YthfffpdkmoclbaaGreatDoorMg44
import Derived.Test.YthfffpdkmoclbaaGreatDoorMg42
import Derived.Test.YthfffpdkmoclbaaGreatDoorMg41
namespace Go.Proofs.YthfffpdkmoclbaaGreatDoor.fnExactPolReach
open Go.ChangeShapes Go.WideShapes Go.ChangeAt Go.RowKit
open Go.ChangeMaps (open_string shut_string)
set_option linter.unusedVariables false

theorem own : ownKnob Tryz.prog.godebug = none := by kernel_rfl
theorem laidOut : laidOutB Tryz.prog = true := by kernel_rfl

theorem et : Tryz.prog.globalNamed "errors.errorType" = some 0 := by kernel_rfl
theorem rt : (Tryz.prog.cutTypes.find? (·.1 == "internal/reflectlite.rtype")).map (·.2) = some 206 := by kernel_rfl
theorem oneRow : ((List.range 282).filter fun t => Tryz.prog.rowNamed t [101, 114, 114, 111, 114]) = [155] := by kernel_rfl
theorem tsize : Tryz.prog.types.size = 282 := by kernel_rfl
theorem handle_of_laid {W : World} (h : laidMetH Tryz.prog Rows.fnExactPolReachRow.laid W) : Go.Proofs.YthfffpdkmoclbaaGreatDoor.W.TypeCell W := by
  have h' : laidMet Tryz.prog [] W ∧ handlesMet Tryz.prog Rows.fnExactPolReachRow.laid W := h
  obtain ⟨name, u, ty, e1, e2, e3, e4, e5⟩ := h'.2 _ (List.mem_singleton.2 rfl)
  have en : name = [101, 114, 114, 111, 114] := (Option.some.inj e1).symm
  subst en
  obtain rfl := Option.some.inj (rt.symm.trans e2)
  have hm : ty ∈ (List.range 282).filter fun t => Tryz.prog.rowNamed t [101, 114, 114, 111, 114] := List.mem_filter.2 ⟨List.mem_range.2 (by rw [← tsize]; exact e3), e4⟩
  rw [oneRow] at hm
  obtain rfl := List.mem_singleton.1 hm
  have hh : typeHandle Tryz.prog 155 = .pointer (some ⟨2, 155, none⟩) := by kernel_rfl
  rw [hh] at e5
  simpa [Go.Proofs.YthfffpdkmoclbaaGreatDoor.W.TypeCell] using World.var?_cell et e5 0

open Go.Proofs.YthfffpdkmoclbaaGreatDoor.W in
theorem each_le (L : List PI) (j : Nat) (h : j < L.length) : (L[j]).tx.size ≤ szP L := by
  have h1 := szP_snoc L j h
  have h2 := szP_le L (j + 1)
  omega
open Go.Proofs.YthfffpdkmoclbaaGreatDoor.W in
theorem inI_wf (n : Int) (h : (Lit.int .i64 n).wf = true) : inI n := by
  have e : IntKind.i64.min = -9223372036854775808 := rfl
  have e2 : IntKind.i64.max = 9223372036854775807 := rfl
  simp only [Lit.wf, decide_eq_true_eq, Bool.and_eq_true] at h
  simp at h
  unfold inI
  omega
open Go.Proofs.YthfffpdkmoclbaaGreatDoor.W Go.Proofs.YthfffpdkmoclbaaGreatDoor.M in
set_option maxRecDepth 100000 in
set_option maxHeartbeats 16000000 in
theorem walk (A0 : Option Addr) (c0 : Nat) (L0 : List Go.Proofs.YthfffpdkmoclbaaGreatDoor.W.PI) (A1 : Option Addr) (c1 : Nat) (L1 : List Int) (w : World) (hg : Go.Proofs.YthfffpdkmoclbaaGreatDoor.W.TypeCell w) (rd0 : Go.Proofs.YthfffpdkmoclbaaGreatDoor.W.RdP w.heap.size w A0 L0) (n0 : L0.length ≤ maxLen) (t0 : ∀ j (h : j < L0.length), (L0[j]).tx.size ≤ maxLen) (rd1 : Go.Proofs.YthfffpdkmoclbaaGreatDoor.W.RdI w.heap.size w A1 L1) (n1 : L1.length ≤ maxLen) (t1 : ∀ j (h : j < L1.length), (Lit.int .i64 (L1[j])).wf = true) :
    Calls Tryz.prog 8 #[.slice A0 L0.length c0, .slice A1 L1.length c1] w fun e w' => e = .returned (.bool true) ∧ Below w.heap.size w w' := by
  have hgl := hg.lt
  have HG : Hid (Go.Proofs.YthfffpdkmoclbaaGreatDoor.W.TypeCell w) := hg
  clear hg
  by_cases hbig : 1048576 < L1.length
  · go_enter Tryz.func8, Tryz.ntmps8
    go_wp2
    go_ret
    exact ⟨rfl, Below.refl _ _⟩
  have hp : L1.length ≤ 1048576 := by omega
  have HIN : Hid (∀ n ∈ L1, inI n) := (show ∀ n, _ → _ from fun n hn => by
    obtain ⟨j, hj, rfl⟩ := List.getElem_of_mem hn
    exact inI_wf _ (t1 j hj))
  have HSP : Hid (∀ {b b' : Nat} {e e' : TypeId} (v u : Value) (w : World) (h : w.ownsRow b e 2 v L0.length (cellsP L0)) (k : w.ownsRow b' e' 1 u L1.length (cellsI L1)) (hz : L0.length + szP L0 ≤ 1048576), Calls Tryz.prog 29 #[v, u] w fun e w' => (∃ v N al, e = .returned (.tuple #[v, .bool al]) ∧ ReachIs L0 L1 N al ∧ w'.ownsRow w.heap.size 3 1 v N.length (cellsI N)) ∧ Below w.heap.size w w') := fun v u w h k hz => by
    obtain ⟨A, c, rfl, rd⟩ := rdP_of_own h
    obtain ⟨A', c', rfl, rd'⟩ := rdI_of_own k
    exact polReach_spec A c L0 A' c' L1 w rd rd' (by omega) hp (fun j h => by have := each_le L0 j h; omega)
  have HIM : Hid (∀ {b b' : Nat} {e e' : TypeId} (v u : Value) (w : World) (h : w.ownsRow b e 2 v L0.length (cellsP L0)) (k : w.ownsRow b' e' 1 u L1.length (cellsI L1)) (hg : Go.Proofs.YthfffpdkmoclbaaGreatDoor.W.TypeCell w) (hz : L0.length + szP L0 ≤ 1048576) (N : List Int) (al : Bool) (hN : Hid (ReachIs L0 L1 N al)), Calls Tryz.prog 28 #[v, u] w fun e w' => (∃ v, e = .returned (.tuple #[v, .bool al]) ∧ w'.ownsRow w.heap.size 3 1 v N.length (cellsI N)) ∧ Below w.heap.size w w') := fun v u w h k hg hz N al hN => by
    obtain ⟨A, c, rfl, rd⟩ := rdP_of_own h
    obtain ⟨A', c', rfl, rd'⟩ := rdI_of_own k
    refine (polReach_impl A c L0 A' c' L1 w hg rd rd' (by omega) hp (fun j h => by have := each_le L0 j h; omega) HIN.out).mono ?_
    rintro e w' ⟨⟨v, N', al', rfl, hN', o⟩, hb⟩
    obtain ⟨rfl, rfl⟩ := hN.out.uniq hN'
    exact ⟨⟨v, rfl, o⟩, hb⟩
  have HBg : Hid (¬ 1048576 < L1.length) := hbig
  clear hbig t1
  have ta1 : True := trivial
  have ta2 : True := trivial
  have ta3 : True := trivial
  have tb1 : True := trivial
  have tb2 : True := trivial
  have tb3 : True := trivial
  have tp : True := trivial
  go_enter Tryz.func8, Tryz.ntmps8
  go_wp2_with (first
    | (go_at_call 39; refine (szPS_any A0 c0 L0 _ rd0 n0 t0).mono ?_; rintro e wA ⟨⟨r, rfl, hr | ⟨hr, hz⟩⟩, B⟩)
    | (go_at_call 40; have _t := ta1; refine (toPS_any A0 c0 L0 _ (rd0.up B) (by omega)).mono ?_; rintro e w2 ⟨⟨v1, rfl, o1⟩, hb⟩; clear _t ta1; replace B := B.trans (hb.mono B.size); clear hb)
    | (go_at_call 41; have _t := tb1; refine (toIS_any A1 c1 L1 _ (rd1.up B) hp).mono ?_; rintro e w3 ⟨⟨u1, rfl, i1⟩, hb⟩; clear _t tb1; replace o1 := ownsUnder o1 hb (Nat.le_refl _); replace B := B.trans (hb.mono B.size); clear hb)
    | (go_at_call 29; refine (HSP.out v1 u1 _ o1 i1 hz).mono ?_; rintro e w4 ⟨⟨v0, N, al, rfl, hN, o0⟩, hb⟩; have hNl := hN.len; have HN : Hid (ReachIs L0 L1 N al) := hN; clear hN; replace B := B.trans (hb.mono B.size); clear hb o1 i1)
    | (go_at_call 40; have _t := ta2; refine (toPS_any A0 c0 L0 _ (rd0.up B) (by omega)).mono ?_; rintro e w5 ⟨⟨x, rfl, ox⟩, hb⟩; clear _t ta2; have s0x := ownsLt o0; have bx := B.size; replace o0 := ownsUnder o0 hb (Nat.le_refl _); replace B := B.trans (hb.mono B.size); clear hb)
    | (go_at_call 41; have _t := tb2; refine (toIS_any A1 c1 L1 _ (rd1.up B) hp).mono ?_; rintro e w6 ⟨⟨y, rfl, oy⟩, hb⟩; clear _t tb2; have s0y := ownsLt o0; have sxy := ownsLt ox; have by_ := B.size; replace o0 := ownsUnder o0 hb (Nat.le_refl _); replace ox := ownsUnder ox hb (Nat.le_refl _); replace B := B.trans (hb.mono B.size); clear hb)
    | (go_at_call_of 28 x; refine (HIM.out x y _ ox oy (HG.out.below B hgl) hz N al HN).mono ?_; rintro e w7 ⟨⟨g, rfl, og⟩, hb⟩; have sxg := ownsLt ox; have syg := ownsLt oy; have s0g := ownsLt o0; have bg := B.size; replace o0 := ownsUnder o0 hb (Nat.le_refl _); replace ox := ownsUnder ox hb (Nat.le_refl _); replace oy := ownsUnder oy hb (Nat.le_refl _); replace B := B.trans (hb.mono B.size); clear hb)
    | (go_at_call_of 42 g; have _t := tp; refine (eqI_own g v0 _ _ og o0 (by omega)).mono ?_; rintro e w8 ⟨rfl, hb⟩; clear _t tp; replace o0 := ownsUnder o0 hb (Nat.le_refl _); replace ox := ownsUnder ox hb (Nat.le_refl _); replace oy := ownsUnder oy hb (Nat.le_refl _); replace og := ownsUnder og hb (Nat.le_refl _); replace B := B.trans (hb.mono B.size); clear hb)
    | (go_at_call 40; have _t := ta3; refine (toPS_any A0 c0 L0 _ (rd0.up B) (by omega)).mono ?_; rintro e w9 ⟨⟨y2, rfl, oy2⟩, hb⟩; clear _t ta3; replace o0 := ownsUnder o0 hb (Nat.le_refl _); replace ox := ownsUnder ox hb (Nat.le_refl _); replace oy := ownsUnder oy hb (Nat.le_refl _); replace og := ownsUnder og hb (Nat.le_refl _); replace B := B.trans (hb.mono B.size); clear hb)
    | (go_at_call_of 43 y2; refine (eqP_own x y2 _ _ ox oy2 (by omega)).mono ?_; rintro e w10 ⟨rfl, hb⟩; replace o0 := ownsUnder o0 hb (Nat.le_refl _); replace ox := ownsUnder ox hb (Nat.le_refl _); replace oy := ownsUnder oy hb (Nat.le_refl _); replace og := ownsUnder og hb (Nat.le_refl _); replace B := B.trans (hb.mono B.size); clear hb oy2)
    | (go_at_call 41; have _t := tb3; refine (toIS_any A1 c1 L1 _ (rd1.up B) hp).mono ?_; rintro e w11 ⟨⟨z2, rfl, oz2⟩, hb⟩; clear _t tb3; replace o0 := ownsUnder o0 hb (Nat.le_refl _); replace ox := ownsUnder ox hb (Nat.le_refl _); replace oy := ownsUnder oy hb (Nat.le_refl _); replace og := ownsUnder og hb (Nat.le_refl _); replace B := B.trans (hb.mono B.size); clear hb)
    | (go_at_call_of 42 z2; refine (eqI_own y z2 _ _ oy oz2 hp).mono ?_; rintro e w12 ⟨rfl, hb⟩; replace o0 := ownsUnder o0 hb (Nat.le_refl _); replace ox := ownsUnder ox hb (Nat.le_refl _); replace oy := ownsUnder oy hb (Nat.le_refl _); replace og := ownsUnder og hb (Nat.le_refl _); replace B := B.trans (hb.mono B.size); clear hb oz2)
    | (go_at_call_of 44 x; refine (markP_own x _ _ ox (by omega)).mono ?_; rintro e w13 ⟨rfl, ox', hgr⟩; obtain ⟨km, hkm⟩ : ∃ km : Nat, 1 + L0.length * 2 = km := ⟨_, rfl⟩; rw [hkm]; have hkb : km ≤ 2097153 := (by omega); clear hkm; replace o0 := keptLo o0 s0x ox hgr; replace oy := keptHi oy ox sxy hgr; replace og := keptHi og ox sxg hgr; replace B := growOwn B B.size ox hgr bx; clear ox ox' hgr)
    | (go_at_call_of 45 y; refine (markIk_own y km _ _ oy (by omega)).mono ?_; rintro e w14 ⟨rfl, oy', hgr⟩; replace o0 := keptLo o0 s0y oy hgr; replace og := keptHi og oy syg hgr; replace B := growOwn B B.size oy hgr by_; clear oy oy' hgr; have tq : True := trivial)
    | (go_at_call_of 42 g; have _t := tq; refine (eqI_own g v0 _ _ og o0 (by omega)).mono ?_; rintro e w15 ⟨rfl, hb⟩; clear _t tq; replace o0 := ownsUnder o0 hb (Nat.le_refl _); replace og := ownsUnder og hb (Nat.le_refl _); replace B := B.trans (hb.mono B.size); clear hb)
    | (go_at_call_of 45 g; refine (markI_own g _ _ og (by omega)).mono ?_; rintro e w16 ⟨rfl, og', hgr⟩; replace o0 := keptLo o0 s0g og hgr; replace B := growOwn B B.size og hgr bg; clear og hgr)
    | (go_at_call 46; refine (heldI_own g _ _ og' (by omega)).mono ?_; rintro e w17 ⟨rfl, hb⟩; replace o0 := ownsUnder o0 hb (Nat.le_refl _); replace og' := ownsUnder og' hb (Nat.le_refl _); replace B := B.trans (hb.mono B.size); clear hb)
    | (go_at_call 40; refine (toPS_any A0 c0 L0 _ (rd0.up B) (by omega)).mono ?_; rintro e w18 ⟨⟨p, rfl, op⟩, hb⟩; replace o0 := ownsUnder o0 hb (Nat.le_refl _); replace og' := ownsUnder og' hb (Nat.le_refl _); replace B := B.trans (hb.mono B.size); clear hb)
    | (go_at_call 41; refine (toIS_any A1 c1 L1 _ (rd1.up B) hp).mono ?_; rintro e w19 ⟨⟨p2, rfl, op2⟩, hb⟩; replace o0 := ownsUnder o0 hb (Nat.le_refl _); replace og' := ownsUnder og' hb (Nat.le_refl _); replace op := ownsUnder op hb (Nat.le_refl _); replace B := B.trans (hb.mono B.size); clear hb)
    | (go_at_call_of 28 p; refine (HIM.out p p2 _ op op2 (HG.out.below B hgl) hz N al HN).mono ?_; rintro e w20 ⟨⟨h, rfl, oh⟩, hb⟩; replace o0 := ownsUnder o0 hb (Nat.le_refl _); replace og' := ownsUnder og' hb (Nat.le_refl _); replace B := B.trans (hb.mono B.size); clear hb op op2)
    | (go_at_call_of 42 h; refine (eqI_own h v0 _ _ oh o0 (by omega)).mono ?_; rintro e w21 ⟨rfl, hb⟩; replace o0 := ownsUnder o0 hb (Nat.le_refl _); replace og' := ownsUnder og' hb (Nat.le_refl _); replace B := B.trans (hb.mono B.size); clear hb))
  all_goals
    go_ret
    exact ⟨rfl, B⟩

set_option maxRecDepth 100000 in
theorem contract (H : Type) (enc : TypeId × Value → H) (W : World) (base : Nat) (args : Array Value) (ds gs : List (DataW H)) (before : List MemPlace)
    (hval0 : ∀ (j : Nat) t v, Tryz.f8.params[j]? = some t → args[j]? = some v → Value.okWide Tryz.prog W .any base t v)
    (hW : DataW.Whole enc Tryz.prog Tryz.f8.params.toList Rows.fnExactPolReachSpec.vars false W args.toList ds gs before) (hL : laidMetH Tryz.prog Rows.fnExactPolReachRow.laid W) :
    Calls Tryz.prog 8 args W fun e W' => ∃ v, e = .returned v ∧ Rows.fnExactPolReachSpec.post enc Tryz.prog Tryz.f8 false true false false W args v W' := by
  have hval := hval0
  have hW' := hW
  obtain ⟨p, q, hA0, hV, rfl, hfz, hnd⟩ := hW
  have hA : DataW.TrodAll enc Tryz.prog W 0 (fun _ => true) true Tryz.f8.params.toList args.toList ds p := hA0
  rw [Tryz.params8] at hA hval
  obtain ⟨v0, vs0, d0, ds0, p0, q0, hargs, rfl, rfl, h0, r0⟩ := trodAll_cons hA
  obtain ⟨v1, vs1, d1, ds1, p1, q1, rfl, rfl, rfl, h1, r1⟩ := trodAll_cons r0
  obtain ⟨rfl, rfl, rfl⟩ := trodAll_nil r1
  obtain rfl : args = #[v0, v1] := by cases args; simp_all
  obtain ⟨rfl, rfl⟩ := trodVars_none hV
  have k0 := h0
  have k1 := h1
  obtain ⟨A0, c0, L0, rfl, rd0, n0, t0⟩ := Go.Proofs.YthfffpdkmoclbaaGreatDoor.W.open_P h0 (okWide_slice Tryz.underlying62 (hval 0 62 v0 rfl rfl))
  obtain ⟨A1, c1, L1, rfl, rd1, n1, t1⟩ := Go.Proofs.YthfffpdkmoclbaaGreatDoor.W.open_J h1 (okWide_slice Tryz.underlying41 (hval 1 41 v1 rfl rfl))
  clear hA0 hval0
  simp only [List.append_nil] at hW'
  refine (walk A0 c0 L0 A1 c1 L1 W (handle_of_laid hL) rd0 n0 t0 rd1 n1 t1).mono fun e W' ⟨he, hg⟩ => ?_
  subst he
  exact ⟨_, rfl, _, _, _, [], _, [], hW', (trodAll_cons_mk (shut_bool Tryz.underlying4 _) trodAll_mk0), (trodAll_cons_mk (Below.trod laidOut (by kernel_rfl) (of_decide_eq_true (by kernel_rfl)) k0 hg (fun x hx => hW'.lt x (by first | (simp [hx]; done) | simp at hx))) (trodAll_cons_mk (Below.trod laidOut (by kernel_rfl) (of_decide_eq_true (by kernel_rfl)) k1 hg (fun x hx => hW'.lt x (by first | (simp [hx]; done) | simp at hx))) trodAll_mk0)), rfl, hg.frame _, fun h => by cases h⟩

noncomputable def laidWorld (os : Os) : World :=
  { World.holding Tryz.prog os ⟨#[], #[], []⟩ with heap := (World.holding Tryz.prog os ⟨#[], #[], []⟩).heap.modify 0 fun
      | .cells _ t frozen => .cells #[.iface 206 (.agg #[.pointer (some ⟨2, 155, none⟩)])] t frozen
      | o => o }
theorem laid_met (os : Os) : laidMetH Tryz.prog Rows.fnExactPolReachRow.laid ((laidWorld os).forCall (fun _ _ => 0) ⟨#[], #[.slice none 0 0, .slice none 0 0], []⟩).memory :=
  laidMetH_of_parts (laidMet_nil _ _) (by kernel_rfl)
theorem reads (os : Os) {H : Type} (enc : TypeId × Value → H) : ∃ places, DataW.whole enc Tryz.prog ((laidWorld os).forCall (fun _ _ => 0) ⟨#[], #[.slice none 0 0, .slice none 0 0], []⟩).memory Tryz.f8.params.toList Rows.fnExactPolReachSpec.vars false #[Value.slice none 0 0, .slice none 0 0].toList 8 = some ([.nil, .nil], [], places) :=
  ⟨[], by kernel_rfl⟩

set_option maxRecDepth 100000 in
theorem lifted (os : Os) (started : os.Started) (H : Type) (enc : TypeId × Value → H) (F : Stop.Interp) :
    ReturnsInHanded {} Tryz.checked os 8 .any ((OpenSpec.ofChange Rows.fnExactPolReachSpec).preRow enc Tryz.prog Tryz.f8 Rows.fnExactPolReachRow.domain false Rows.fnExactPolReachRow.laid) (((OpenSpec.ofChange Rows.fnExactPolReachSpec).at F).post enc Tryz.prog Tryz.f8 false true false false) := by
  obtain ⟨places, hx⟩ := reads os enc
  refine returnsInHanded_of_row (C := Tryz.checked) (s := OpenSpec.ofChange Rows.fnExactPolReachSpec) own started (by kernel_rfl) Tryz.func8
    (witness_row_at (enc := enc) (C := Tryz.checked) false (laidWorld os) #[.slice none 0 0, .slice none 0 0] rfl (by kernel_rfl) (by kernel_rfl) (by kernel_rfl)
      (OpenSpec.preRow_of_cond 8 hx (by kernel_rfl) (fun k hk => by cases hk) (by kernel_rfl) (laid_met os))) ?_
  intro W base args ds gs before hval hW _ _ _ hL _ _
  exact contract H enc W base args ds gs before hval hW hL

theorem said : Rows.FnExactPolReachSaid :=
  OpenClaim.holds_of_cond 8 Tryz.f8 rfl rfl rfl rfl rfl rfl rfl ⟨rfl, rfl, rfl, rfl, rfl⟩ rfl rfl rfl rfl rfl (by kernel_rfl) Tryz.func8 (by kernel_rfl)
    (of_decide_eq_true (by kernel_rfl)) (by unfold Func.isWrapper; first | (rw [if_pos (by decide +kernel)]; kernel_rfl) | (rw [if_neg (by decide +kernel)]; exact ⟨rfl, rfl⟩))
    (fun os started H enc _ F => by rw [OpenClaim.pre_eq_preRow]; exact lifted os started H enc F)
theorem plain (f : FuncId) (fn : Func) (hf : Tryz.pinned.checked.prog.funcNamed "loop.example/chartulary/laws.FnExactPolReach" = some f) (hfn : Tryz.pinned.checked.prog.funcs[f]? = some fn) :
    true = Tryz.pinned.checked.prog.looks [] ∧ ∀ (j : Nat) t, fn.params[j]? = some t → Tryz.pinned.checked.prog.wantsStandIn t = false := by
  obtain rfl : f = 8 := Option.some.inj ((show Tryz.prog.funcNamed "loop.example/chartulary/laws.FnExactPolReach" = some 8 by kernel_rfl).symm.trans hf) |>.symm
  obtain rfl : fn = Tryz.f8 := (Option.some.inj (Tryz.func8.symm.trans hfn)).symm
  refine ⟨by kernel_rfl, fun j t ht => ?_⟩
  rw [Tryz.params8] at ht
  have hm := Array.mem_of_getElem? ht
  simp only [List.mem_toArray, List.mem_cons, List.not_mem_nil, or_false] at hm
  rcases hm with rfl | rfl
  · exact (show Tryz.prog.wantsStandIn 62 = false by kernel_rfl)
  · exact (show Tryz.prog.wantsStandIn 41 = false by kernel_rfl)
theorem proved : Rows.FnExactPolReachCardSaid :=
  Claim7.holds_tied_plain_at .later [] _ _ _ _ said (fun _ h => by cases h) (by kernel_rfl) (fun _ h => by cases h) fnExactPolReach_row_tie rfl ⟨rfl, rfl⟩ (by kernel_rfl) rfl plain (by kernel_rfl)
#print axioms proved
end Go.Proofs.YthfffpdkmoclbaaGreatDoor.fnExactPolReach
