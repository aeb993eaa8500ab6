/-
  Of every code: putting a drawn text into a drawn pool, the program answers as the specification; a text that is put is found by its id, all others as before; put again it is there, and the pool is as it was, and ok. The code reads as it did. errors.errorType holds what the program's text lays; the card ties it.
-/
import Derived.Test.YthfffpdkmoclbaaGreatDoorCards
import Derived.Test.YthfffpdkmoclbaaGreatDoorTie
import Derived.WalkKit
import Derived.ProofKit
import Derived.OpenShut
import Derived.ShutString
import Derived.Below
import Derived.Carry
import Derived.LaidLaws
import Derived.Test.YthfffpdkmoclbaaGreatDoorMg01
import Derived.LaidHandle
import Derived.Deep.DeepHandedRow
import Derived.Test.YthfffpdkmoclbaaGreatDoorMg34
import Derived.Test.YthfffpdkmoclbaaGreatDoorMg35
import Derived.Test.YthfffpdkmoclbaaGreatDoorMg37
import Derived.Test.YthfffpdkmoclbaaGreatDoorMg30
namespace Go.Proofs.YthfffpdkmoclbaaGreatDoor.fnPolPut
open Go.ChangeShapes Go.WideShapes Go.ChangeAt Go.RowKit
open Go.ChangeMaps (open_string shut_string)
set_option linter.unusedVariables false

theorem own : ownKnob Tryz.prog.godebug = none := by kernel_rfl
theorem laidOut : laidOutB Tryz.prog = true := by kernel_rfl

theorem et : Tryz.prog.globalNamed "errors.errorType" = some 0 := by kernel_rfl
theorem rt : (Tryz.prog.cutTypes.find? (·.1 == "internal/reflectlite.rtype")).map (·.2) = some 206 := by kernel_rfl
theorem oneRow : ((List.range 282).filter fun t => Tryz.prog.rowNamed t [101, 114, 114, 111, 114]) = [155] := by kernel_rfl
theorem tsize : Tryz.prog.types.size = 282 := by kernel_rfl
theorem handle_of_laid {W : World} (h : laidMetH Tryz.prog Rows.fnPolPutRow.laid W) : Go.Proofs.YthfffpdkmoclbaaGreatDoor.W.TypeCell W := by
  have h' : laidMet Tryz.prog [] W ∧ handlesMet Tryz.prog Rows.fnPolPutRow.laid W := h
  obtain ⟨name, u, ty, e1, e2, e3, e4, e5⟩ := h'.2 _ (List.mem_singleton.2 rfl)
  have en : name = [101, 114, 114, 111, 114] := (Option.some.inj e1).symm
  subst en
  obtain rfl := Option.some.inj (rt.symm.trans e2)
  have hm : ty ∈ (List.range 282).filter fun t => Tryz.prog.rowNamed t [101, 114, 114, 111, 114] := List.mem_filter.2 ⟨List.mem_range.2 (by rw [← tsize]; exact e3), e4⟩
  rw [oneRow] at hm
  obtain rfl := List.mem_singleton.1 hm
  have hh : typeHandle Tryz.prog 155 = .pointer (some ⟨2, 155, none⟩) := by kernel_rfl
  rw [hh] at e5
  simpa [Go.Proofs.YthfffpdkmoclbaaGreatDoor.W.TypeCell] using World.var?_cell et e5 0

open Go.Proofs.YthfffpdkmoclbaaGreatDoor.W Go.Proofs.YthfffpdkmoclbaaGreatDoor.M in
theorem put3 (L : List PI) (s : ByteArray) (X : List PI) (n c : Int) (h : putR L s = (X, n, c)) :
    (c = 4 ∧ n = 0 ∧ X = [] ∧ (okP L = false ∨ kd s = 0)) ∨ (c = 3 ∧ n = 0 ∧ X = L ∧ okP L = true ∧ kd s ≠ 0) ∨ (okP L = true ∧ WasPut L s X n c) := by
  rcases putR_cases L s with ⟨h1, e⟩ | ⟨h1, h2, e⟩ | ⟨h1, h2, hp⟩
  · rw [h] at e; cases e; exact .inl ⟨rfl, rfl, rfl, h1⟩
  · rw [h] at e; cases e; exact .inr (.inl ⟨rfl, rfl, rfl, h1, h2⟩)
  · rw [h] at hp; exact .inr (.inr ⟨h1, hp⟩)
open Go.Proofs.YthfffpdkmoclbaaGreatDoor.W Go.Proofs.YthfffpdkmoclbaaGreatDoor.M in
theorem put6 (L : List PI) (s : ByteArray) (X : List PI) (n c : Int) (h : putR L s = (X, n, c)) :
    (c = 4 ∧ n = 0 ∧ X = [] ∧ 0 < L.length) ∨ (c = 4 ∧ n = 0 ∧ X = [] ∧ L = [] ∧ okP L = true ∧ kd s = 0) ∨ (c = 3 ∧ n = 0 ∧ X = L ∧ ¬ L = [] ∧ okP L = true ∧ kd s ≠ 0) ∨
    (c = 1 ∧ okP L = true ∧ WasPut L s X n 1 ∧ Hid (X.length = L.length + 1)) ∨ (c = 2 ∧ okP L = true ∧ WasPut L s X n 2 ∧ Hid (X.length ≠ L.length + 1)) := by
  rcases put3 L s X n c h with ⟨h1, h2, h3, h4⟩ | ⟨h1, h2, h3, h4, h5⟩ | ⟨h1, hw⟩
  · rcases Nat.eq_zero_or_pos L.length with h0 | h0
    · obtain rfl := List.eq_nil_of_length_eq_zero h0
      have hk : okP [] = true := by decide
      refine .inr (.inl ⟨h1, h2, h3, rfl, hk, ?_⟩)
      rcases h4 with h4 | h4
      · rw [hk] at h4; cases h4
      · exact h4
    · exact .inl ⟨h1, h2, h3, h0⟩
  · refine .inr (.inr (.inl ⟨h1, h2, h3, ?_, h4, h5⟩))
    rcases Nat.eq_zero_or_pos L.length with h0 | h0
    · obtain rfl := List.eq_nil_of_length_eq_zero h0
      unfold putR at h
      rw [if_pos ⟨h4, h5⟩] at h
      have e : putPool [] (idOfN s.data.toList) s = (insP [] ⟨idOfN s.data.toList, s⟩, (idOfN s.data.toList : Int), 1) := rfl
      rw [e] at h
      cases h
      cases h1
    · intro e; rw [e] at h0; exact absurd h0 (by simp)
  · rcases hw.code with rfl | rfl
    · exact .inr (.inr (.inr (.inl ⟨rfl, h1, hw, hw.new.1 rfl⟩)))
    · exact .inr (.inr (.inr (.inr ⟨rfl, h1, hw, fun e => by have := hw.new.2 e; cases this⟩)))
open Go.Proofs.YthfffpdkmoclbaaGreatDoor.W Go.Proofs.YthfffpdkmoclbaaGreatDoor.M in
theorem put3len (L : List PI) (s : ByteArray) (X : List PI) (n c : Int) (h : putR L s = (X, n, c)) : X.length ≤ 700 := by
  rcases put3 L s X n c h with ⟨_, _, rfl, _⟩ | ⟨_, _, rfl, hk, _⟩ | ⟨_, hw⟩
  · simp
  · exact ((okP_iff _).1 hk).1
  · exact ((okP_iff _).1 hw.ok).1
open Go.Proofs.YthfffpdkmoclbaaGreatDoor.W Go.Proofs.YthfffpdkmoclbaaGreatDoor.M in
theorem put3sh (L : List PI) (s : ByteArray) (X : List PI) (n c : Int) (h : putR L s = (X, n, c)) (hL : shP L) (hs : s.size ≤ 1000) : shP X := by
  rcases put3 L s X n c h with ⟨_, _, rfl, _⟩ | ⟨_, _, rfl, hk, _⟩ | ⟨_, hw⟩
  · exact fun x hx => by cases hx
  · exact hL
  · intro x hx
    rcases hw.mem x hx with hx | rfl
    · exact hL x hx
    · exact hs
open Go.Proofs.YthfffpdkmoclbaaGreatDoor.W Go.Proofs.YthfffpdkmoclbaaGreatDoor.M in
theorem getV_found (L : List PI) (n : Int) (t : ByteArray) (hr : RiseP L) (h : findP L n = some t) : getV L n = .tuple #[.string t, .bool true] := by
  unfold getV; rw [getP_find L n hr, h]
open Go.Proofs.YthfffpdkmoclbaaGreatDoor.W Go.Proofs.YthfffpdkmoclbaaGreatDoor.M in
set_option maxRecDepth 100000 in
set_option maxHeartbeats 8000000 in
theorem walk (a0 : Option Addr) (len0 cap0 : Nat) (z0 : List Int) (w : World) (hg : Go.Proofs.YthfffpdkmoclbaaGreatDoor.W.TypeCell w) (s0 : Go.Proofs.YthfffpdkmoclbaaGreatDoor.W.Src w a0 len0 cap0 (fun i => z0.getD i 0)) :
    Calls Tryz.prog 3 #[.slice a0 len0 cap0] w fun e w' => e = .returned (.bool true) ∧ Below w.heap.size w w' := by
  have HS : Hid (W.Src w a0 len0 cap0 (fun i => z0.getD i 0)) := s0
  clear s0
  have HG : Hid (TypeCell w) := hg
  have hgl := hg.lt
  clear hg
  by_cases h : 1048576 < len0
  · go_enter Tryz.func3, Tryz.ntmps3
    go_wp2
    go_ret
    exact ⟨rfl, Below.refl _ _⟩
  have t1 : True := trivial
  go_enter Tryz.func3, Tryz.ntmps3
  go_wp2_with (first
    | (go_at_call 9; refine (drawPolPut_any _ _ _ _ _ HS.out).mono ?_; rintro e w1 ⟨⟨v1, L, s, rfl, hL, hSL, hs, O1⟩, B⟩; obtain ⟨A1, c1, rfl, LL⟩ := rdP_of_own O1; have HSL : Hid (shP L) := hSL; obtain ⟨⟨X, n, c⟩, hX⟩ : ∃ q, putR L s = q := ⟨_, rfl⟩; have hXl := put3len L s X n c hX; have HSX : Hid (shP X) := put3sh L s X n c hX hSL hs; have HX : Hid (putR L s = (X, n, c)) := hX; clear hX hSL HS)
    | (go_at_call_of 10 A1; have _t := t1; refine (polPut_impl A1 c1 L s _ (HG.out.below B hgl) LL (by omega) (shSizes HSL.out) (by omega)).mono ?_; rw [HX.out]; rintro e w2 ⟨⟨vx, rfl, ox⟩, hb⟩; obtain ⟨AX, cX, rfl, XX⟩ := rdP_of_own ox; replace LL := LL.up hb; replace O1 := ownsUnder O1 hb (Nat.le_refl _); replace B := B.trans (hb.mono B.size); clear ox hb _t t1)
    | (go_at_call_of 11 A1; refine (polPut_spec _ L s _ O1 (by omega) (shSizes HSL.out) (by omega)).mono ?_; rw [HX.out]; rintro e w3 ⟨⟨vy, rfl, oy⟩, hb⟩; obtain ⟨AY, cY, rfl, YY⟩ := rdP_of_own oy; replace LL := LL.up hb; replace XX := XX.up hb; replace B := B.trans (hb.mono B.size); clear oy hb O1)
    | (go_at_call_of 12 AY; refine (chPool_same AX AY cX cY X _ XX YY (by omega)).mono ?_; rintro e w4 ⟨rfl, hb⟩; replace LL := LL.up hb; replace XX := XX.up hb; replace B := B.trans (hb.mono B.size); clear hb YY; obtain ⟨m, hm⟩ : ∃ m, kd s = m := ⟨_, rfl⟩; have h6 := put6 L s X n c HX.out; rw [hm] at h6; have HM : Hid (kd s = m) := hm; clear hm; rcases h6 with ⟨rfl, rfl, rfl, h0⟩ | ⟨rfl, rfl, rfl, rfl, hk, rfl⟩ | ⟨rfl, rfl, rfl, h0, hk, hd⟩ | ⟨rfl, hk, hw, hl⟩ | ⟨rfl, hk, hw, hl⟩))
  · go_wp2_with (go_at_call 15; refine (chOk_o _).mono ?_; rintro e wA ⟨rfl, rfl⟩)
    go_ret
    exact ⟨rfl, B⟩
  · have HK : Hid (okP ([] : List PI) = true) := hk
    clear hk
    go_wp2_with (first
      | (go_at_call 15; refine (chOk_o _).mono ?_; rintro e wA ⟨rfl, rfl⟩)
      | (go_at_call 13; refine (polOk_spec A1 c1 [] _ LL (by simp) (fun j h => by simp at h)).mono ?_; rw [HK.out]; rintro e w5 ⟨rfl, hb⟩; replace B := B.trans (hb.mono B.size); clear hb)
      | (go_at_call 14; refine (kdS s 0 _ (by omega) HM.out).mono ?_; rintro e w6 ⟨rfl, hb⟩; replace B := B.trans (hb.mono B.size); clear hb))
    go_ret
    exact ⟨rfl, B⟩
  · have HK : Hid (okP X = true) := hk
    have hmn : ¬ ((m : Nat) : Int) = 0 := by omega
    have hmb : (!(((m : Nat) : Int) == 0)) = true := by simpa using hmn
    clear hk
    go_wp2_with (first
      | (go_at_call 15; refine (chOk_o _).mono ?_; rintro e wA ⟨rfl, rfl⟩)
      | (go_at_call 13; refine (polOk_spec A1 c1 X _ LL (by omega) (shSizes HSX.out)).mono ?_; rw [HK.out]; rintro e w5 ⟨rfl, hb⟩; replace B := B.trans (hb.mono B.size); clear hb)
      | (go_at_call 14; refine (kdS s m _ (by omega) HM.out).mono ?_; rintro e w6 ⟨rfl, hb⟩; replace B := B.trans (hb.mono B.size); clear hb))
    go_ret
    first | exact ⟨rfl, B⟩ | exact ⟨ret_bool hmb, B⟩
  · have HXK : Hid (okP X = true) := hw.ok
    have hr := (okP_rise X hw.ok).1
    have HV : Hid (getV X n = .tuple #[.string s, .bool true]) := (show _ = _ from getV_found X n s hr hw.found)
    have HA : Hid (putR X s = (X, n, 2)) := hw.again
    have HKp : Hid (∀ j (h : j < L.length), getV X (L[j]).id = .tuple #[.string (L[j]).tx, .bool true]) := (show ∀ j, _ from fun j h => getV_found X _ _ hr (hw.kept _ (List.getElem_mem h)))
    obtain ⟨q, hq⟩ : ∃ q, idOfN s.data.toList = q := ⟨_, rfl⟩
    have HQ : Hid (idOfN s.data.toList = q) := hq
    have hn := hw.id
    rw [hq] at hn
    subst hn
    have hl2 : ((X.length : Nat) : Int) = ((L.length : Nat) : Int) + 1 := by have := hl.out; omega
    clear hw hr hq hk
    go_wp2_with (first
      | (go_at_call 16; refine (polGet_impl AX cX X _ _ XX (by omega)).mono ?_; rw [HV.out]; rintro e w9 ⟨rfl, rfl⟩)
      | (go_at_call 10; refine (polPut_impl AX cX X s _ (HG.out.below B hgl) XX (by omega) (shSizes HSX.out) (by omega)).mono ?_; rw [HA.out]; rintro e wA ⟨⟨vz, rfl, oz⟩, hb⟩; obtain ⟨AZ, cZ, rfl, ZZ⟩ := rdP_of_own oz; replace LL := LL.up hb; replace XX := XX.up hb; replace B := B.trans (hb.mono B.size); clear oz hb)
      | (go_at_call 17; refine (idI s q _ (by omega) HQ.out).mono ?_; rintro e wB ⟨rfl, hb⟩; replace LL := LL.up hb; replace XX := XX.up hb; replace ZZ := ZZ.up hb; replace B := B.trans (hb.mono B.size); clear hb)
      | (go_at_call 12; refine (chPool_same AX AZ cX cZ X _ XX ZZ (by omega)).mono ?_; rintro e wC ⟨rfl, hb⟩; replace LL := LL.up hb; replace XX := XX.up hb; replace B := B.trans (hb.mono B.size); clear hb ZZ)
      | (go_at_call 18; refine (polOk_impl AX cX X _ (HG.out.below B hgl) XX (by omega) (shSizes HSX.out)).mono ?_; rw [HXK.out]; rintro e wD ⟨rfl, hb⟩; replace LL := LL.up hb; replace XX := XX.up hb; replace B := B.trans (hb.mono B.size); clear hb))
    clear hl2
    go_loopw [16] (fun iv wr => ∃ j : Nat, j ≤ L.length ∧ iv = .int .i64 j ∧ Below wD.heap.size wD wr) (fun i _ => L.length - (intOf i).toNat)
    case atStart => exact ⟨0, Nat.zero_le _, rfl, Below.refl _ _⟩
    case round =>
      obtain ⟨j, hj, rfl, hbl⟩ := hrel
      have XX2 := XX.up hbl
      by_cases hlt : j < L.length
      · obtain ⟨b1, o1, rfl, hbb, p1, p2⟩ := (LL.below hbl (Nat.le_refl _)) j hlt
        have HJ : Hid (getV X (L[j]).id = .tuple #[.string (L[j]).tx, .bool true]) := HKp.out j hlt
        obtain ⟨⟨i, t⟩, hx⟩ : ∃ x, L[j] = x := ⟨_, rfl⟩
        rw [hx] at p1 p2 HJ
        clear hx
        go_wp2_with (go_at_call 16; refine (polGet_impl AX cX X i _ XX2 (by omega)).mono ?_; rw [HJ.out]; rintro e w9 ⟨rfl, rfl⟩)
        go_roundw
        case rel => first | exact ⟨j + 1, by omega, by go_num, hbl⟩ | ((repeat apply Exists.intro); exact ⟨⟨j + 1, by omega, by go_num, hbl⟩, rfl⟩)
        case measure => simp [intOf]; omega
      · go_wp2
        go_ret
        exact ⟨rfl, B.trans (hbl.mono B.size)⟩
  · have HXK : Hid (okP X = true) := hw.ok
    have hr := (okP_rise X hw.ok).1
    have HV : Hid (getV X n = .tuple #[.string s, .bool true]) := (show _ = _ from getV_found X n s hr hw.found)
    have HA : Hid (putR X s = (X, n, 2)) := hw.again
    have HKp : Hid (∀ j (h : j < L.length), getV X (L[j]).id = .tuple #[.string (L[j]).tx, .bool true]) := (show ∀ j, _ from fun j h => getV_found X _ _ hr (hw.kept _ (List.getElem_mem h)))
    obtain ⟨q, hq⟩ : ∃ q, idOfN s.data.toList = q := ⟨_, rfl⟩
    have HQ : Hid (idOfN s.data.toList = q) := hq
    have hn := hw.id
    rw [hq] at hn
    subst hn
    have hl2 : ¬ ((X.length : Nat) : Int) = ((L.length : Nat) : Int) + 1 := by have := hl.out; omega
    clear hw hr hq hk
    go_wp2_with (first
      | (go_at_call 16; refine (polGet_impl AX cX X _ _ XX (by omega)).mono ?_; rw [HV.out]; rintro e w9 ⟨rfl, rfl⟩)
      | (go_at_call 10; refine (polPut_impl AX cX X s _ (HG.out.below B hgl) XX (by omega) (shSizes HSX.out) (by omega)).mono ?_; rw [HA.out]; rintro e wA ⟨⟨vz, rfl, oz⟩, hb⟩; obtain ⟨AZ, cZ, rfl, ZZ⟩ := rdP_of_own oz; replace LL := LL.up hb; replace XX := XX.up hb; replace B := B.trans (hb.mono B.size); clear oz hb)
      | (go_at_call 17; refine (idI s q _ (by omega) HQ.out).mono ?_; rintro e wB ⟨rfl, hb⟩; replace LL := LL.up hb; replace XX := XX.up hb; replace ZZ := ZZ.up hb; replace B := B.trans (hb.mono B.size); clear hb)
      | (go_at_call 12; refine (chPool_same AX AZ cX cZ X _ XX ZZ (by omega)).mono ?_; rintro e wC ⟨rfl, hb⟩; replace LL := LL.up hb; replace XX := XX.up hb; replace B := B.trans (hb.mono B.size); clear hb ZZ)
      | (go_at_call 18; refine (polOk_impl AX cX X _ (HG.out.below B hgl) XX (by omega) (shSizes HSX.out)).mono ?_; rw [HXK.out]; rintro e wD ⟨rfl, hb⟩; replace LL := LL.up hb; replace XX := XX.up hb; replace B := B.trans (hb.mono B.size); clear hb))
    clear hl2
    generalize (((X.length : Nat) : Int) == ((L.length : Nat) : Int) + 1) = bb
    go_loopw [16] (fun iv wr => ∃ j : Nat, j ≤ L.length ∧ iv = .int .i64 j ∧ Below wD.heap.size wD wr) (fun i _ => L.length - (intOf i).toNat)
    case atStart => exact ⟨0, Nat.zero_le _, rfl, Below.refl _ _⟩
    case round =>
      obtain ⟨j, hj, rfl, hbl⟩ := hrel
      have XX2 := XX.up hbl
      by_cases hlt : j < L.length
      · obtain ⟨b1, o1, rfl, hbb, p1, p2⟩ := (LL.below hbl (Nat.le_refl _)) j hlt
        have HJ : Hid (getV X (L[j]).id = .tuple #[.string (L[j]).tx, .bool true]) := HKp.out j hlt
        obtain ⟨⟨i, t⟩, hx⟩ : ∃ x, L[j] = x := ⟨_, rfl⟩
        rw [hx] at p1 p2 HJ
        clear hx
        go_wp2_with (go_at_call 16; refine (polGet_impl AX cX X i _ XX2 (by omega)).mono ?_; rw [HJ.out]; rintro e w9 ⟨rfl, rfl⟩)
        go_roundw
        case rel => first | exact ⟨j + 1, by omega, by go_num, hbl⟩ | ((repeat apply Exists.intro); exact ⟨⟨j + 1, by omega, by go_num, hbl⟩, rfl⟩)
        case measure => simp [intOf]; omega
      · go_wp2
        go_ret
        exact ⟨rfl, B.trans (hbl.mono B.size)⟩

set_option maxRecDepth 100000 in
theorem contract (H : Type) (enc : TypeId × Value → H) (W : World) (base : Nat) (args : Array Value) (ds gs : List (DataW H)) (before : List MemPlace)
    (hval0 : ∀ (j : Nat) t v, Tryz.f3.params[j]? = some t → args[j]? = some v → Value.okWide Tryz.prog W .any base t v)
    (hW : DataW.Whole enc Tryz.prog Tryz.f3.params.toList Rows.fnPolPutSpec.vars false W args.toList ds gs before) (hL : laidMetH Tryz.prog Rows.fnPolPutRow.laid W) :
    Calls Tryz.prog 3 args W fun e W' => ∃ v, e = .returned v ∧ Rows.fnPolPutSpec.post enc Tryz.prog Tryz.f3 false true false false W args v W' := by
  have hval := hval0
  have hW' := hW
  obtain ⟨p, q, hA0, hV, rfl, hfz, hnd⟩ := hW
  have hA : DataW.TrodAll enc Tryz.prog W 0 (fun _ => true) true Tryz.f3.params.toList args.toList ds p := hA0
  rw [Tryz.params3] at hA hval
  obtain ⟨v0, vs0, d0, ds0, p0, q0, hargs, rfl, rfl, h0, r0⟩ := trodAll_cons hA
  obtain ⟨rfl, rfl, rfl⟩ := trodAll_nil r0
  obtain rfl : args = #[v0] := by cases args; simp_all
  obtain ⟨rfl, rfl⟩ := trodVars_none hV
  have k0 := h0
  obtain ⟨a0, len0, cap0, rfl⟩ := okWide_slice Tryz.underlying22 (hval 0 22 v0 rfl rfl)
  obtain ⟨z0, s0⟩ : ∃ zs : List Int, Go.Proofs.YthfffpdkmoclbaaGreatDoor.W.Src W a0 len0 cap0 (fun i => zs.getD i 0) := by
    obtain ⟨fuel, hf⟩ := h0
    rcases open_ints Tryz.underlying22 Tryz.underlying5 (by kernel_rfl) hf with ⟨hcs, _⟩ | ⟨x, l, c, zs, hcs, _, hl, hm, hz, _, hcell, hwz⟩
    · simp [Value.cells] at hcs
      obtain ⟨rfl, rfl, rfl⟩ := hcs
      exact ⟨[], Go.Proofs.YthfffpdkmoclbaaGreatDoor.W.src_of W _ _ _ [] (.inl ⟨rfl, rfl, rfl, rfl⟩)⟩
    · simp [Value.cells] at hcs
      obtain ⟨rfl, rfl, rfl⟩ := hcs
      exact ⟨zs, Go.Proofs.YthfffpdkmoclbaaGreatDoor.W.src_of W _ _ _ zs (.inr ⟨_, rfl, hl, hm, by simpa using hz, hcell, hwz⟩)⟩
  clear hA0 hval0
  simp only [List.append_nil] at hW'
  refine (walk a0 len0 cap0 z0 W (handle_of_laid hL) s0).mono fun e W' ⟨he, hg⟩ => ?_
  subst he
  exact ⟨_, rfl, _, _, _, [], _, [], hW', (trodAll_cons_mk (shut_bool Tryz.underlying4 _) trodAll_mk0), (trodAll_cons_mk (Below.trod laidOut (by kernel_rfl) (of_decide_eq_true (by kernel_rfl)) k0 hg (fun x hx => hW'.lt x (by first | (simp [hx]; done) | simp at hx))) trodAll_mk0), rfl, hg.frame _, fun h => by cases h⟩

noncomputable def laidWorld (os : Os) : World :=
  { World.holding Tryz.prog os ⟨#[], #[], []⟩ with heap := (World.holding Tryz.prog os ⟨#[], #[], []⟩).heap.modify 0 fun
      | .cells _ t frozen => .cells #[.iface 206 (.agg #[.pointer (some ⟨2, 155, none⟩)])] t frozen
      | o => o }
theorem laid_met (os : Os) : laidMetH Tryz.prog Rows.fnPolPutRow.laid ((laidWorld os).forCall (fun _ _ => 0) ⟨#[], #[.slice none 0 0], []⟩).memory :=
  laidMetH_of_parts (laidMet_nil _ _) (by kernel_rfl)
theorem reads (os : Os) {H : Type} (enc : TypeId × Value → H) : ∃ places, DataW.whole enc Tryz.prog ((laidWorld os).forCall (fun _ _ => 0) ⟨#[], #[.slice none 0 0], []⟩).memory Tryz.f3.params.toList Rows.fnPolPutSpec.vars false #[Value.slice none 0 0].toList 8 = some ([.nil], [], places) :=
  ⟨[], by kernel_rfl⟩

set_option maxRecDepth 100000 in
theorem lifted (os : Os) (started : os.Started) (H : Type) (enc : TypeId × Value → H) (F : Stop.Interp) :
    ReturnsInHanded {} Tryz.checked os 3 .any ((OpenSpec.ofChange Rows.fnPolPutSpec).preRow enc Tryz.prog Tryz.f3 Rows.fnPolPutRow.domain false Rows.fnPolPutRow.laid) (((OpenSpec.ofChange Rows.fnPolPutSpec).at F).post enc Tryz.prog Tryz.f3 false true false false) := by
  obtain ⟨places, hx⟩ := reads os enc
  refine returnsInHanded_of_row (C := Tryz.checked) (s := OpenSpec.ofChange Rows.fnPolPutSpec) own started (by kernel_rfl) Tryz.func3
    (witness_row_at (enc := enc) (C := Tryz.checked) false (laidWorld os) #[.slice none 0 0] rfl (by kernel_rfl) (by kernel_rfl) (by kernel_rfl)
      (OpenSpec.preRow_of_cond 8 hx (by kernel_rfl) (fun k hk => by cases hk) (by kernel_rfl) (laid_met os))) ?_
  intro W base args ds gs before hval hW _ _ _ hL _ _
  exact contract H enc W base args ds gs before hval hW hL

theorem said : Rows.FnPolPutSaid :=
  OpenClaim.holds_of_cond 3 Tryz.f3 rfl rfl rfl rfl rfl rfl rfl ⟨rfl, rfl, rfl, rfl, rfl⟩ rfl rfl rfl rfl rfl (by kernel_rfl) Tryz.func3 (by kernel_rfl)
    (of_decide_eq_true (by kernel_rfl)) (by unfold Func.isWrapper; first | (rw [if_pos (by decide +kernel)]; kernel_rfl) | (rw [if_neg (by decide +kernel)]; exact ⟨rfl, rfl⟩))
    (fun os started H enc _ F => by rw [OpenClaim.pre_eq_preRow]; exact lifted os started H enc F)
theorem plain (f : FuncId) (fn : Func) (hf : Tryz.pinned.checked.prog.funcNamed "loop.example/chartulary/laws.FnPolPut" = some f) (hfn : Tryz.pinned.checked.prog.funcs[f]? = some fn) :
    true = Tryz.pinned.checked.prog.looks [] ∧ ∀ (j : Nat) t, fn.params[j]? = some t → Tryz.pinned.checked.prog.wantsStandIn t = false := by
  obtain rfl : f = 3 := Option.some.inj ((show Tryz.prog.funcNamed "loop.example/chartulary/laws.FnPolPut" = some 3 by kernel_rfl).symm.trans hf) |>.symm
  obtain rfl : fn = Tryz.f3 := (Option.some.inj (Tryz.func3.symm.trans hfn)).symm
  refine ⟨by kernel_rfl, fun j t ht => ?_⟩
  rw [Tryz.params3] at ht
  obtain rfl : t = 22 := by simpa using Array.mem_of_getElem? ht
  exact (show Tryz.prog.wantsStandIn 22 = false by kernel_rfl)
theorem proved : Rows.FnPolPutCardSaid :=
  Claim7.holds_tied_plain_at .later [] _ _ _ _ said (fun _ h => by cases h) (by kernel_rfl) (fun _ h => by cases h) fnPolPut_row_tie rfl ⟨rfl, rfl⟩ (by kernel_rfl) rfl plain (by kernel_rfl)
#print axioms proved
end Go.Proofs.YthfffpdkmoclbaaGreatDoor.fnPolPut
