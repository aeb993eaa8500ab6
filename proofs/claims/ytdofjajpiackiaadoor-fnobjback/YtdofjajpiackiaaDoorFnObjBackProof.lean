/-
  Of every two codes: a drawn leaf has the bytes that it was made of, a drawn sheet its entries, and no leaf is a sheet; the program answers as the specification; the codes read as they did. errors.errorType holds what the program's text lays; the card ties it.
-/
import Derived.Test.YtdofjajpiackiaaDoorCards
import Derived.Test.YtdofjajpiackiaaDoorTie
import Derived.WalkKit
import Derived.ProofKit
import Derived.OpenShut
import Derived.ShutString
import Derived.Below
import Derived.Carry
import Derived.LaidLaws
import Derived.Test.YtdofjajpiackiaaDoorWalkAs
import Derived.LaidHandle
import Derived.Deep.DeepHandedRow
import Derived.Test.YtdofjajpiackiaaDoorWalkDrawQ
import Derived.Test.YtdofjajpiackiaaDoorWalkObB
import Derived.Test.YtdofjajpiackiaaDoorWalkShTx
import Derived.Test.YtdofjajpiackiaaDoorMathExt
namespace Go.Proofs.YtdofjajpiackiaaDoor.fnObjBack
open Go.ChangeShapes Go.WideShapes Go.ChangeAt Go.RowKit
open Go.ChangeMaps (open_string shut_string)
set_option linter.unusedVariables false

theorem own : ownKnob Tryd.prog.godebug = none := by kernel_rfl
theorem laidOut : laidOutB Tryd.prog = true := by kernel_rfl

theorem et : Tryd.prog.globalNamed "errors.errorType" = some 0 := by kernel_rfl
theorem rt : (Tryd.prog.cutTypes.find? (·.1 == "internal/reflectlite.rtype")).map (·.2) = some 95 := by kernel_rfl
theorem oneRow : ((List.range 149).filter fun t => Tryd.prog.rowNamed t [101, 114, 114, 111, 114]) = [65] := by kernel_rfl
theorem tsize : Tryd.prog.types.size = 149 := by kernel_rfl
theorem handle_of_laid {W : World} (h : laidMetH Tryd.prog Rows.fnObjBackRow.laid W) : Go.Proofs.YtdofjajpiackiaaDoor.W.TypeCell W := by
  have h' : laidMet Tryd.prog [] W ∧ handlesMet Tryd.prog Rows.fnObjBackRow.laid W := h
  obtain ⟨name, u, ty, e1, e2, e3, e4, e5⟩ := h'.2 _ (List.mem_singleton.2 rfl)
  have en : name = [101, 114, 114, 111, 114] := (Option.some.inj e1).symm
  subst en
  obtain rfl := Option.some.inj (rt.symm.trans e2)
  have hm : ty ∈ (List.range 149).filter fun t => Tryd.prog.rowNamed t [101, 114, 114, 111, 114] := List.mem_filter.2 ⟨List.mem_range.2 (by rw [← tsize]; exact e3), e4⟩
  rw [oneRow] at hm
  obtain rfl := List.mem_singleton.1 hm
  have hh : typeHandle Tryd.prog 65 = .pointer (some ⟨2, 65, none⟩) := by kernel_rfl
  rw [hh] at e5
  simpa [Go.Proofs.YtdofjajpiackiaaDoor.W.TypeCell] using World.var?_cell et e5 0

open Go.Proofs.YtdofjajpiackiaaDoor.W Go.Proofs.YtdofjajpiackiaaDoor.M in
theorem leafPair (b : ByteArray) (hb : b.size ≤ 64) : ∃ (S : ByteArray) (k : Bool) (y : ByteArray), Hid (leafB b = S) ∧ S.size ≤ 100 ∧ S.toList.isEmpty = (!k) ∧ Hid (decide (kd S = 1) = k) ∧ Hid (byB S = y) ∧ Hid (k = false ∨ (k = true ∧ y = b)) ∧ Hid (k = true → kd S = 1) := by
  by_cases h : b.size ≤ 6
  · obtain ⟨h1, h2, h3⟩ := leaf_yes b h
    refine ⟨leafB b, true, b, rfl, ?_, h1, by show decide _ = true; rw [h2]; rfl, h3, .inr ⟨rfl, rfl⟩, fun _ => h2⟩
    rw [← leafB_yes b h, ByteArray.size_append]
    show 1 + b.size ≤ 100
    omega
  · exact ⟨⟨#[]⟩, false, _, leaf_no b h, by decide, by rw [isE]; rfl, by show decide _ = false; rw [kd_nil]; rfl, rfl, .inl rfl, fun h => by cases h⟩
open Go.Proofs.YtdofjajpiackiaaDoor.W Go.Proofs.YtdofjajpiackiaaDoor.M in
theorem sheetPair (L : List OE) (hL : L.length ≤ 6) : ∃ (T : ByteArray) (k : Bool) (M : List OE), Hid (shB L = T) ∧ T.size ≤ 100 ∧ T.toList.isEmpty = (!k) ∧ Hid (decide (kd T = 2) = k) ∧ Hid (k = true → kd T = 2) ∧ Hid (enL T = M) ∧ Hid ((k = false ∧ [] = M) ∨ (k = true ∧ L = M)) := by
  cases h : okL (L.map enO) with
  | true =>
    obtain ⟨h1, h2, h3⟩ := sheet_yes L h
    exact ⟨shB L, true, L, rfl, shB_size L hL, h1, by show decide _ = true; rw [h2]; rfl, fun _ => h2, h3, .inr ⟨rfl, rfl⟩⟩
  | false =>
    exact ⟨⟨#[]⟩, false, [], sheet_no L h, by decide, by rw [isE]; rfl, by show decide _ = false; rw [kd_nil]; rfl, (fun h => by cases h), enL_no _ (by rw [kd_nil]; decide), .inl ⟨rfl, rfl⟩⟩
open Go.Proofs.YtdofjajpiackiaaDoor.W Go.Proofs.YtdofjajpiackiaaDoor.M in
set_option maxRecDepth 100000 in
set_option maxHeartbeats 4000000 in
theorem walk (a0 : Option Addr) (len0 cap0 : Nat) (z0 : List Int) (a1 : Option Addr) (len1 cap1 : Nat) (z1 : List Int) (w : World) (hg : Go.Proofs.YtdofjajpiackiaaDoor.W.TypeCell w) (s0 : Go.Proofs.YtdofjajpiackiaaDoor.W.Src w a0 len0 cap0 (fun i => z0.getD i 0)) (s1 : Go.Proofs.YtdofjajpiackiaaDoor.W.Src w a1 len1 cap1 (fun i => z1.getD i 0)) :
    Calls Tryd.prog 3 #[.slice a0 len0 cap0, .slice a1 len1 cap1] w fun e w' => e = .returned (.bool true) ∧ Below w.heap.size w w' := by
  have HS : Hid (W.Src w a0 len0 cap0 (fun i => z0.getD i 0)) := s0
  have HR : Hid (W.Src w a1 len1 cap1 (fun i => z1.getD i 0)) := s1
  clear s0 s1
  have HG : Hid (TypeCell w) := hg
  have hgl := hg.lt
  clear hg
  have gO := guardO
  by_cases h : 1048576 < len0
  · go_enter Tryd.func3, Tryd.ntmps3
    go_wp2
    go_ret
    exact ⟨rfl, Below.refl _ _⟩
  by_cases h' : 1048576 < len1
  · go_enter Tryd.func3, Tryd.ntmps3
    go_wp2
    go_ret
    exact ⟨rfl, Below.refl _ _⟩
  go_enter Tryd.func3, Tryd.ntmps3
  go_wp2_with (first
    | (go_at_call 5; refine (drawObjLeaf_any _ _ _ _ _ HS.out).mono ?_; rintro e w1 ⟨b, rfl, hb, B⟩; clear HS; have hs1 := B.size; obtain ⟨S, k1, y, HL, hSz, hSe, HK, HV, HY, HU⟩ := leafPair b hb)
    | (go_at_call 6; refine (leaf_impl b _ (by unfold maxLen; omega)).mono ?_; rw [HL.out]; rintro e w2 ⟨rfl, hb2⟩; replace B := B.trans (hb2.mono hs1); clear hb2 hs1; have hs2 := B.size)
    | (go_at_call 7; refine (drawObjSheet_any _ _ _ _ _ (HR.out.below B)).mono ?_; rintro e w3 ⟨v, L, rfl, h1, h2, h3, h4, hb3⟩; clear HR; replace B := B.trans (hb3.mono hs2); clear hb3 hs2; have hs3 := B.size; obtain ⟨A, c, rfl, rd⟩ := rdO_of_own h4; clear h4 h1; have HT : Hid (∀ j (h : j < L.length), (L[j]).nm.size ≤ 1048576) := (fun j hj => (by have := h3 _ (List.getElem_mem hj); omega)); have HD : Hid (RdO w3.heap.size w3 A L) := rd; clear rd h3; obtain ⟨T, k2, M, HX, hTz, hTe, HZ, HE, HM, HW⟩ := sheetPair L h2)
    | (go_at_call 8; refine (sheet_impl A c L _ HD.out (by omega) HT.out).mono ?_; rw [show (ByteArray.mk (sheetT (L.map enO)).toArray) = T from HX.out]; rintro e w4 ⟨rfl, hb4⟩; replace B := B.trans (hb4.mono hs3); have HD4 : Hid (RdO w4.heap.size w4 A L) := HD.out.up hb4; clear hb4 hs3 HD; have hs4 := B.size)
    | (go_at_call 9; refine (leaf_spec b _ (by unfold maxLen; omega)).mono ?_; rw [HL.out]; rintro e w5 ⟨rfl, rfl⟩)
    | (go_at_call 10; refine (sheet_spec A c L _ HD4.out (by omega) HT.out).mono ?_; rw [show (ByteArray.mk (sheetT (L.map enO)).toArray) = T from HX.out]; rintro e w6 ⟨rfl, hb6⟩; replace B := B.trans (hb6.mono hs4); have HD6 : Hid (RdO w6.heap.size w6 A L) := HD4.out.up hb6; clear hb6 hs4 HD4; have hs6 := B.size)
    | (go_at_call 11; refine (objBytes_impl S _ (by omega) (HG.out.below B hgl)).mono ?_; rw [HK.out, HV.out]; rintro e w7 ⟨rfl, hb7⟩; replace B := B.trans (hb7.mono hs6); have HD7 : Hid (RdO w7.heap.size w7 A L) := HD6.out.up hb7; clear hb7 hs6 HD6; have hs7 := B.size; have tk : True := trivial; rcases HY.out with hk1 | ⟨hk1, hyb⟩ <;> subst hk1 <;> (try subst hyb) <;> rcases HW.out with ⟨hk2, hm⟩ | ⟨hk2, hm⟩ <;> subst hk2 <;> subst hm)
    | (go_at_call 12; have _t := tk; have hy2 : kd S = 1 := (by first | exact HU.out rfl | exact HU.out trivial); refine (objKind_impl S _ (by omega) (HG.out.below B hgl)).mono ?_; rw [hy2]; rintro e w8 ⟨rfl, hb8⟩; replace B := B.trans (hb8.mono hs7); have HD8 : Hid (RdO w8.heap.size w8 A L) := HD7.out.up hb8; clear hb8 hs7 HD7 tk _t; have hs7 := B.size; have HD7 : Hid (RdO w8.heap.size w8 A L) := HD8; clear HD8)
    | (go_at_call 13; refine (enI_any T _ (by omega) (HG.out.below B hgl)).mono ?_; rw [HZ.out, HM.out]; rintro e w9 ⟨⟨v9, rfl, o9⟩, hb9⟩; replace B := B.trans (hb9.mono hs7); have HD9 : Hid (RdO w9.heap.size w9 A L) := HD7.out.up hb9; obtain ⟨A9, c9, rfl, rd9⟩ := rdO_of_own o9; have HO9 := rd9; clear hb9 hs7 HD7 o9 rd9; have hs9 := B.size))
  · have hz : RdO w9.heap.size w9 A9 [] := HO9
    go_loopw [13] (fun iv wr => iv = .int .i64 0 ∧ wr = w9) (fun i _ => 0)
    case atStart => exact ⟨rfl, rfl⟩
    case round =>
      obtain ⟨rfl, rfl⟩ := hrel
      go_wp2_with (first
        | (go_at_call 12; refine (objKind_impl ⟨#[]⟩ _ (by decide) (HG.out.below B hgl)).mono ?_; rw [kd_nil]; rintro e w10 ⟨rfl, hb10⟩)
        | (go_at_call 14; refine (chOk_o _).mono ?_; rintro e w11 ⟨rfl, rfl⟩))
      go_ret
      exact ⟨rfl, B.trans (hb10.mono hs9)⟩
  · have hz : RdO w9.heap.size w9 A9 [] := HO9
    go_loopw [13] (fun iv wr => iv = .int .i64 0 ∧ wr = w9) (fun i _ => 0)
    case atStart => exact ⟨rfl, rfl⟩
    case round =>
      obtain ⟨rfl, rfl⟩ := hrel
      go_wp2_with (first
        | (go_at_call 12; refine (objKind_impl ⟨#[]⟩ _ (by decide) (HG.out.below B hgl)).mono ?_; rw [kd_nil]; rintro e w10 ⟨rfl, hb10⟩)
        | (go_at_call 14; refine (chOk_o _).mono ?_; rintro e w11 ⟨rfl, rfl⟩))
      go_ret
      exact ⟨rfl, B.trans (hb10.mono hs9)⟩
  · have HO : Hid (RdO w9.heap.size w9 A9 L) := HO9
    have hT2 : Hid (kd T = 2) := (by first | exact HE.out rfl | exact HE.out trivial)
    clear HO9
    go_loopw [13] (fun iv wr => ∃ j : Nat, j ≤ L.length ∧ iv = .int .i64 j ∧ Below w9.heap.size w9 wr) (fun i _ => L.length - (intOf i).toNat)
    case atStart => exact ⟨0, Nat.zero_le _, rfl, Below.refl _ _⟩
    case round =>
      obtain ⟨j, hj, rfl, hb⟩ := hrel
      have hsz := hb.size
      by_cases hlt : j < L.length
      · obtain ⟨b1, o1, rfl, hbl, p1, p2, p3⟩ := (HO.out.below hb (Nat.le_refl _)) j hlt
        obtain ⟨b2, o2, rfl, hbl', q1, q2, q3⟩ := (HD9.out.below hb (Nat.le_refl _)) j hlt
        obtain ⟨x, hx⟩ : ∃ x, L[j] = x := ⟨_, rfl⟩
        rw [hx] at p1 p2 p3 q1 q2 q3
        clear hx
        have x1 : ∀ y : Ext wr, y.world.cell? ⟨b1, o1 + j * 3, none⟩ = some (.string x.nm) := fun y => y.cell p1
        have x2 : ∀ y : Ext wr, y.world.cell? ⟨b1, o1 + j * 3 + 1, none⟩ = some (.bool x.sh) := fun y => y.cell p2
        have x3 : ∀ y : Ext wr, y.world.cell? ⟨b1, o1 + j * 3 + 2, none⟩ = some (.int .i64 x.id) := fun y => y.cell p3
        have y1 : ∀ y : Ext wr, y.world.cell? ⟨b2, o2 + j * 3, none⟩ = some (.string x.nm) := fun y => y.cell q1
        have y2 : ∀ y : Ext wr, y.world.cell? ⟨b2, o2 + j * 3 + 1, none⟩ = some (.bool x.sh) := fun y => y.cell q2
        have y3 : ∀ y : Ext wr, y.world.cell? ⟨b2, o2 + j * 3 + 2, none⟩ = some (.int .i64 x.id) := fun y => y.cell q3
        have hne : Nonempty (Ext wr) := ⟨⟨wr, Below.refl _ _⟩⟩
        have req := fun v => run_neO v x x
        rw [eqO_self] at req
        clear p1 p2 p3 q1 q2 q3
        go_wp2
        refine region_ext (by kernel_rfl) (by kernel_rfl) ?_
        repeat (go_big_quiet_step (fail))
        refine wpQuiet_nil ?_
        rintro _ ⟨y, rfl⟩
        have hb1 := y.below
        go_wp2
        go_roundw
        case rel => exact ⟨j + 1, by omega, by go_num, hb.trans (hb1.mono (by omega))⟩
        case measure => simp [intOf]; omega
      · have Br := B.trans (hb.mono hs9)
        have hsr := Br.size
        have tk2 : True := trivial
        go_wp2_with (first
          | (go_at_call 12; have _t := tk2; refine (objKind_impl T _ (by omega) (HG.out.below Br hgl)).mono ?_; rw [hT2.out]; rintro e w10 ⟨rfl, hb10⟩; clear tk2 _t; replace Br := Br.trans (hb10.mono hsr); clear hb10 hsr; have hsr := Br.size)
          | (go_at_call 12; refine (objKind_impl ⟨#[]⟩ _ (by decide) (HG.out.below Br hgl)).mono ?_; rw [kd_nil]; rintro e w11 ⟨rfl, hb11⟩)
          | (go_at_call 14; refine (chOk_o _).mono ?_; rintro e w12 ⟨rfl, rfl⟩))
        go_ret
        exact ⟨rfl, Br.trans (hb11.mono hsr)⟩
  · have hz : RdO w9.heap.size w9 A9 [] := HO9
    go_loopw [13] (fun iv wr => iv = .int .i64 0 ∧ wr = w9) (fun i _ => 0)
    case atStart => exact ⟨rfl, rfl⟩
    case round =>
      obtain ⟨rfl, rfl⟩ := hrel
      go_wp2_with (first
        | (go_at_call 12; refine (objKind_impl ⟨#[]⟩ _ (by decide) (HG.out.below B hgl)).mono ?_; rw [kd_nil]; rintro e w10 ⟨rfl, hb10⟩)
        | (go_at_call 14; refine (chOk_o _).mono ?_; rintro e w11 ⟨rfl, rfl⟩))
      go_ret
      exact ⟨rfl, B.trans (hb10.mono hs9)⟩
  · have hz : RdO w9.heap.size w9 A9 [] := HO9
    go_loopw [13] (fun iv wr => iv = .int .i64 0 ∧ wr = w9) (fun i _ => 0)
    case atStart => exact ⟨rfl, rfl⟩
    case round =>
      obtain ⟨rfl, rfl⟩ := hrel
      go_wp2_with (first
        | (go_at_call 12; refine (objKind_impl ⟨#[]⟩ _ (by decide) (HG.out.below B hgl)).mono ?_; rw [kd_nil]; rintro e w10 ⟨rfl, hb10⟩)
        | (go_at_call 14; refine (chOk_o _).mono ?_; rintro e w11 ⟨rfl, rfl⟩))
      go_ret
      exact ⟨rfl, B.trans (hb10.mono hs9)⟩
  · have HO : Hid (RdO w9.heap.size w9 A9 L) := HO9
    have hT2 : Hid (kd T = 2) := (by first | exact HE.out rfl | exact HE.out trivial)
    clear HO9
    go_loopw [13] (fun iv wr => ∃ j : Nat, j ≤ L.length ∧ iv = .int .i64 j ∧ Below w9.heap.size w9 wr) (fun i _ => L.length - (intOf i).toNat)
    case atStart => exact ⟨0, Nat.zero_le _, rfl, Below.refl _ _⟩
    case round =>
      obtain ⟨j, hj, rfl, hb⟩ := hrel
      have hsz := hb.size
      by_cases hlt : j < L.length
      · obtain ⟨b1, o1, rfl, hbl, p1, p2, p3⟩ := (HO.out.below hb (Nat.le_refl _)) j hlt
        obtain ⟨b2, o2, rfl, hbl', q1, q2, q3⟩ := (HD9.out.below hb (Nat.le_refl _)) j hlt
        obtain ⟨x, hx⟩ : ∃ x, L[j] = x := ⟨_, rfl⟩
        rw [hx] at p1 p2 p3 q1 q2 q3
        clear hx
        have x1 : ∀ y : Ext wr, y.world.cell? ⟨b1, o1 + j * 3, none⟩ = some (.string x.nm) := fun y => y.cell p1
        have x2 : ∀ y : Ext wr, y.world.cell? ⟨b1, o1 + j * 3 + 1, none⟩ = some (.bool x.sh) := fun y => y.cell p2
        have x3 : ∀ y : Ext wr, y.world.cell? ⟨b1, o1 + j * 3 + 2, none⟩ = some (.int .i64 x.id) := fun y => y.cell p3
        have y1 : ∀ y : Ext wr, y.world.cell? ⟨b2, o2 + j * 3, none⟩ = some (.string x.nm) := fun y => y.cell q1
        have y2 : ∀ y : Ext wr, y.world.cell? ⟨b2, o2 + j * 3 + 1, none⟩ = some (.bool x.sh) := fun y => y.cell q2
        have y3 : ∀ y : Ext wr, y.world.cell? ⟨b2, o2 + j * 3 + 2, none⟩ = some (.int .i64 x.id) := fun y => y.cell q3
        have hne : Nonempty (Ext wr) := ⟨⟨wr, Below.refl _ _⟩⟩
        have req := fun v => run_neO v x x
        rw [eqO_self] at req
        clear p1 p2 p3 q1 q2 q3
        go_wp2
        refine region_ext (by kernel_rfl) (by kernel_rfl) ?_
        repeat (go_big_quiet_step (fail))
        refine wpQuiet_nil ?_
        rintro _ ⟨y, rfl⟩
        have hb1 := y.below
        go_wp2
        go_roundw
        case rel => exact ⟨j + 1, by omega, by go_num, hb.trans (hb1.mono (by omega))⟩
        case measure => simp [intOf]; omega
      · have Br := B.trans (hb.mono hs9)
        have hsr := Br.size
        have tk2 : True := trivial
        go_wp2_with (first
          | (go_at_call 12; have _t := tk2; refine (objKind_impl T _ (by omega) (HG.out.below Br hgl)).mono ?_; rw [hT2.out]; rintro e w10 ⟨rfl, hb10⟩; clear tk2 _t; replace Br := Br.trans (hb10.mono hsr); clear hb10 hsr; have hsr := Br.size)
          | (go_at_call 12; refine (objKind_impl ⟨#[]⟩ _ (by decide) (HG.out.below Br hgl)).mono ?_; rw [kd_nil]; rintro e w11 ⟨rfl, hb11⟩)
          | (go_at_call 14; refine (chOk_o _).mono ?_; rintro e w12 ⟨rfl, rfl⟩))
        go_ret
        exact ⟨rfl, Br.trans (hb11.mono hsr)⟩

set_option maxRecDepth 100000 in
theorem contract (H : Type) (enc : TypeId × Value → H) (W : World) (base : Nat) (args : Array Value) (ds gs : List (DataW H)) (before : List MemPlace)
    (hval0 : ∀ (j : Nat) t v, Tryd.f3.params[j]? = some t → args[j]? = some v → Value.okWide Tryd.prog W .any base t v)
    (hW : DataW.Whole enc Tryd.prog Tryd.f3.params.toList Rows.fnObjBackSpec.vars false W args.toList ds gs before) (hL : laidMetH Tryd.prog Rows.fnObjBackRow.laid W) :
    Calls Tryd.prog 3 args W fun e W' => ∃ v, e = .returned v ∧ Rows.fnObjBackSpec.post enc Tryd.prog Tryd.f3 false true false false W args v W' := by
  have hval := hval0
  have hW' := hW
  obtain ⟨p, q, hA0, hV, rfl, hfz, hnd⟩ := hW
  have hA : DataW.TrodAll enc Tryd.prog W 0 (fun _ => true) true Tryd.f3.params.toList args.toList ds p := hA0
  rw [Tryd.params3] at hA hval
  obtain ⟨v0, vs0, d0, ds0, p0, q0, hargs, rfl, rfl, h0, r0⟩ := trodAll_cons hA
  obtain ⟨v1, vs1, d1, ds1, p1, q1, rfl, rfl, rfl, h1, r1⟩ := trodAll_cons r0
  obtain ⟨rfl, rfl, rfl⟩ := trodAll_nil r1
  obtain rfl : args = #[v0, v1] := by cases args; simp_all
  obtain ⟨rfl, rfl⟩ := trodVars_none hV
  have k0 := h0
  have k1 := h1
  obtain ⟨a0, len0, cap0, rfl⟩ := okWide_slice Tryd.underlying22 (hval 0 22 v0 rfl rfl)
  obtain ⟨z0, s0⟩ : ∃ zs : List Int, Go.Proofs.YtdofjajpiackiaaDoor.W.Src W a0 len0 cap0 (fun i => zs.getD i 0) := by
    obtain ⟨fuel, hf⟩ := h0
    rcases open_ints Tryd.underlying22 Tryd.underlying5 (by kernel_rfl) hf with ⟨hcs, _⟩ | ⟨x, l, c, zs, hcs, _, hl, hm, hz, _, hcell, hwz⟩
    · simp [Value.cells] at hcs
      obtain ⟨rfl, rfl, rfl⟩ := hcs
      exact ⟨[], Go.Proofs.YtdofjajpiackiaaDoor.W.src_of W _ _ _ [] (.inl ⟨rfl, rfl, rfl, rfl⟩)⟩
    · simp [Value.cells] at hcs
      obtain ⟨rfl, rfl, rfl⟩ := hcs
      exact ⟨zs, Go.Proofs.YtdofjajpiackiaaDoor.W.src_of W _ _ _ zs (.inr ⟨_, rfl, hl, hm, by simpa using hz, hcell, hwz⟩)⟩
  obtain ⟨a1, len1, cap1, rfl⟩ := okWide_slice Tryd.underlying22 (hval 1 22 v1 rfl rfl)
  obtain ⟨z1, s1⟩ : ∃ zs : List Int, Go.Proofs.YtdofjajpiackiaaDoor.W.Src W a1 len1 cap1 (fun i => zs.getD i 0) := by
    obtain ⟨fuel, hf⟩ := h1
    rcases open_ints Tryd.underlying22 Tryd.underlying5 (by kernel_rfl) hf with ⟨hcs, _⟩ | ⟨x, l, c, zs, hcs, _, hl, hm, hz, _, hcell, hwz⟩
    · simp [Value.cells] at hcs
      obtain ⟨rfl, rfl, rfl⟩ := hcs
      exact ⟨[], Go.Proofs.YtdofjajpiackiaaDoor.W.src_of W _ _ _ [] (.inl ⟨rfl, rfl, rfl, rfl⟩)⟩
    · simp [Value.cells] at hcs
      obtain ⟨rfl, rfl, rfl⟩ := hcs
      exact ⟨zs, Go.Proofs.YtdofjajpiackiaaDoor.W.src_of W _ _ _ zs (.inr ⟨_, rfl, hl, hm, by simpa using hz, hcell, hwz⟩)⟩
  clear hA0 hval0
  simp only [List.append_nil] at hW'
  refine (walk a0 len0 cap0 z0 a1 len1 cap1 z1 W (handle_of_laid hL) s0 s1).mono fun e W' ⟨he, hg⟩ => ?_
  subst he
  exact ⟨_, rfl, _, _, _, [], _, [], hW', (trodAll_cons_mk (shut_bool Tryd.underlying4 _) trodAll_mk0), (trodAll_cons_mk (Below.trod laidOut (by kernel_rfl) (of_decide_eq_true (by kernel_rfl)) k0 hg (fun x hx => hW'.lt x (by first | (simp [hx]; done) | simp at hx))) (trodAll_cons_mk (Below.trod laidOut (by kernel_rfl) (of_decide_eq_true (by kernel_rfl)) k1 hg (fun x hx => hW'.lt x (by first | (simp [hx]; done) | simp at hx))) trodAll_mk0)), rfl, hg.frame _, fun h => by cases h⟩

noncomputable def laidWorld (os : Os) : World :=
  { World.holding Tryd.prog os ⟨#[], #[], []⟩ with heap := (World.holding Tryd.prog os ⟨#[], #[], []⟩).heap.modify 0 fun
      | .cells _ t frozen => .cells #[.iface 95 (.agg #[.pointer (some ⟨2, 65, none⟩)])] t frozen
      | o => o }
theorem laid_met (os : Os) : laidMetH Tryd.prog Rows.fnObjBackRow.laid ((laidWorld os).forCall (fun _ _ => 0) ⟨#[], #[.slice none 0 0, .slice none 0 0], []⟩).memory :=
  laidMetH_of_parts (laidMet_nil _ _) (by kernel_rfl)
theorem reads (os : Os) {H : Type} (enc : TypeId × Value → H) : ∃ places, DataW.whole enc Tryd.prog ((laidWorld os).forCall (fun _ _ => 0) ⟨#[], #[.slice none 0 0, .slice none 0 0], []⟩).memory Tryd.f3.params.toList Rows.fnObjBackSpec.vars false #[Value.slice none 0 0, .slice none 0 0].toList 8 = some ([.nil, .nil], [], places) :=
  ⟨[], by kernel_rfl⟩

set_option maxRecDepth 100000 in
theorem lifted (os : Os) (started : os.Started) (H : Type) (enc : TypeId × Value → H) (F : Stop.Interp) :
    ReturnsInHanded {} Tryd.checked os 3 .any ((OpenSpec.ofChange Rows.fnObjBackSpec).preRow enc Tryd.prog Tryd.f3 Rows.fnObjBackRow.domain false Rows.fnObjBackRow.laid) (((OpenSpec.ofChange Rows.fnObjBackSpec).at F).post enc Tryd.prog Tryd.f3 false true false false) := by
  obtain ⟨places, hx⟩ := reads os enc
  refine returnsInHanded_of_row (C := Tryd.checked) (s := OpenSpec.ofChange Rows.fnObjBackSpec) own started (by kernel_rfl) Tryd.func3
    (witness_row_at (enc := enc) (C := Tryd.checked) false (laidWorld os) #[.slice none 0 0, .slice none 0 0] rfl (by kernel_rfl) (by kernel_rfl) (by kernel_rfl)
      (OpenSpec.preRow_of_cond 8 hx (by kernel_rfl) (fun k hk => by cases hk) (by kernel_rfl) (laid_met os))) ?_
  intro W base args ds gs before hval hW _ _ _ hL _ _
  exact contract H enc W base args ds gs before hval hW hL

theorem said : Rows.FnObjBackSaid :=
  OpenClaim.holds_of_cond 3 Tryd.f3 rfl rfl rfl rfl rfl rfl rfl ⟨rfl, rfl, rfl, rfl, rfl⟩ rfl rfl rfl rfl rfl (by kernel_rfl) Tryd.func3 (by kernel_rfl)
    (of_decide_eq_true (by kernel_rfl)) (by unfold Func.isWrapper; first | (rw [if_pos (by decide +kernel)]; kernel_rfl) | (rw [if_neg (by decide +kernel)]; exact ⟨rfl, rfl⟩))
    (fun os started H enc _ F => by rw [OpenClaim.pre_eq_preRow]; exact lifted os started H enc F)
theorem plain (f : FuncId) (fn : Func) (hf : Tryd.pinned.checked.prog.funcNamed "loop.example/chartulary/laws.FnObjBack" = some f) (hfn : Tryd.pinned.checked.prog.funcs[f]? = some fn) :
    true = Tryd.pinned.checked.prog.looks [] ∧ ∀ (j : Nat) t, fn.params[j]? = some t → Tryd.pinned.checked.prog.wantsStandIn t = false := by
  obtain rfl : f = 3 := Option.some.inj ((show Tryd.prog.funcNamed "loop.example/chartulary/laws.FnObjBack" = some 3 by kernel_rfl).symm.trans hf) |>.symm
  obtain rfl : fn = Tryd.f3 := (Option.some.inj (Tryd.func3.symm.trans hfn)).symm
  refine ⟨by kernel_rfl, fun j t ht => ?_⟩
  rw [Tryd.params3] at ht
  obtain rfl : t = 22 := by simpa using Array.mem_of_getElem? ht
  exact (show Tryd.prog.wantsStandIn 22 = false by kernel_rfl)
theorem proved : Rows.FnObjBackCardSaid :=
  Claim7.holds_tied_plain_at .later [] _ _ _ _ said (fun _ h => by cases h) (by kernel_rfl) (fun _ h => by cases h) fnObjBack_row_tie rfl ⟨rfl, rfl⟩ (by kernel_rfl) rfl plain (by kernel_rfl)
#print axioms proved
end Go.Proofs.YtdofjajpiackiaaDoor.fnObjBack
