/-
  Of every code: a drawn text that is a sheet is what is written of its entries, one that is a leaf what is written of its bytes, and what it names are its entries' ids; the program answers as the specification; the code reads as it did. errors.errorType holds what the program's text lays; the card ties it.
-/
import Derived.Test.YtdofjajpiackiaaDoorCards
import Derived.Test.YtdofjajpiackiaaDoorTie
import Derived.WalkKit
import Derived.ProofKit
import Derived.OpenShut
import Derived.ShutString
import Derived.Below
import Derived.Carry
import Derived.LaidLaws
import Derived.Test.YtdofjajpiackiaaDoorWalkAs
import Derived.LaidHandle
import Derived.Deep.DeepHandedRow
import Derived.Test.YtdofjajpiackiaaDoorWalkObC
import Derived.Test.YtdofjajpiackiaaDoorWalkShTx
import Derived.Test.YtdofjajpiackiaaDoorMathExt
namespace Go.Proofs.YtdofjajpiackiaaDoor.fnObjOnly
open Go.ChangeShapes Go.WideShapes Go.ChangeAt Go.RowKit
open Go.ChangeMaps (open_string shut_string)
set_option linter.unusedVariables false

theorem own : ownKnob Tryd.prog.godebug = none := by kernel_rfl
theorem laidOut : laidOutB Tryd.prog = true := by kernel_rfl

theorem et : Tryd.prog.globalNamed "errors.errorType" = some 0 := by kernel_rfl
theorem rt : (Tryd.prog.cutTypes.find? (·.1 == "internal/reflectlite.rtype")).map (·.2) = some 95 := by kernel_rfl
theorem oneRow : ((List.range 149).filter fun t => Tryd.prog.rowNamed t [101, 114, 114, 111, 114]) = [65] := by kernel_rfl
theorem tsize : Tryd.prog.types.size = 149 := by kernel_rfl
theorem handle_of_laid {W : World} (h : laidMetH Tryd.prog Rows.fnObjOnlyRow.laid W) : Go.Proofs.YtdofjajpiackiaaDoor.W.TypeCell W := by
  have h' : laidMet Tryd.prog [] W ∧ handlesMet Tryd.prog Rows.fnObjOnlyRow.laid W := h
  obtain ⟨name, u, ty, e1, e2, e3, e4, e5⟩ := h'.2 _ (List.mem_singleton.2 rfl)
  have en : name = [101, 114, 114, 111, 114] := (Option.some.inj e1).symm
  subst en
  obtain rfl := Option.some.inj (rt.symm.trans e2)
  have hm : ty ∈ (List.range 149).filter fun t => Tryd.prog.rowNamed t [101, 114, 114, 111, 114] := List.mem_filter.2 ⟨List.mem_range.2 (by rw [← tsize]; exact e3), e4⟩
  rw [oneRow] at hm
  obtain rfl := List.mem_singleton.1 hm
  have hh : typeHandle Tryd.prog 65 = .pointer (some ⟨2, 65, none⟩) := by kernel_rfl
  rw [hh] at e5
  simpa [Go.Proofs.YtdofjajpiackiaaDoor.W.TypeCell] using World.var?_cell et e5 0

open Go.Proofs.YtdofjajpiackiaaDoor.W Go.Proofs.YtdofjajpiackiaaDoor.M in
theorem kd_le (s : ByteArray) : kd s = 0 ∨ kd s = 1 ∨ kd s = 2 := by
  unfold kd
  split
  · split
    · exact .inr (.inl rfl)
    · exact .inl rfl
  · split
    · split
      · exact .inr (.inr rfl)
      · exact .inl rfl
    · exact .inl rfl
open Go.Proofs.YtdofjajpiackiaaDoor.W Go.Proofs.YtdofjajpiackiaaDoor.M in
theorem en_small (s : ByteArray) (hs : s.size ≤ 200) : ∀ j (h : j < (enL s).length), ((enL s)[j]).nm.size ≤ 1048576 := by
  intro j hj
  by_cases h : kd s = 2
  · cases he : sheetI (s.data.toList.drop 1) with
    | none => exact absurd h (kd_ne s (.inr he))
    | some es =>
      have hen : enL s = es.map oeOf := by unfold enL; rw [if_pos h, he]; rfl
      obtain ⟨h2, _⟩ := (sheetI_iff _ _).1 he
      have h4 := List.all_eq_true.1 (M.okL_parts _ h2).2.1
      have hm : (enL s)[j] ∈ es.map oeOf := by rw [← hen]; exact List.getElem_mem hj
      obtain ⟨e, he1, he2⟩ := List.mem_map.1 hm
      rw [← he2]
      have h5 := okE_parts e (h4 e he1)
      have h6 := h5.1
      unfold namB at h6
      simp only [Bool.and_eq_true, decide_eq_true_eq] at h6
      show (ByteArray.mk e.nm.toArray).size ≤ 1048576
      have : (ByteArray.mk e.nm.toArray).size = e.nm.length := by simp [ByteArray.size]
      omega
  · rw [show (enL s).length = 0 by rw [enL_no s h]; rfl] at hj
    omega
open Go.Proofs.YtdofjajpiackiaaDoor.W Go.Proofs.YtdofjajpiackiaaDoor.M in
theorem by_small (s : ByteArray) (hs : s.size ≤ 200) : (byB s).size ≤ 1048576 := by
  unfold byB
  split
  · rw [rest_size]; omega
  · decide
open Go.Proofs.YtdofjajpiackiaaDoor.W Go.Proofs.YtdofjajpiackiaaDoor.M in
theorem id_at {M : List OE} {I : List Int} (h : idsO M = I) (j : Nat) (hj : j < M.length) (hi : j < I.length) : I[j] = (M[j]).id := by
  subst h; simp [idsO]
open Go.Proofs.YtdofjajpiackiaaDoor.W Go.Proofs.YtdofjajpiackiaaDoor.M in
set_option maxRecDepth 100000 in
set_option maxHeartbeats 4000000 in
theorem walk (a0 : Option Addr) (len0 cap0 : Nat) (z0 : List Int) (w : World) (hg : Go.Proofs.YtdofjajpiackiaaDoor.W.TypeCell w) (s0 : Go.Proofs.YtdofjajpiackiaaDoor.W.Src w a0 len0 cap0 (fun i => z0.getD i 0)) :
    Calls Tryd.prog 4 #[.slice a0 len0 cap0] w fun e w' => e = .returned (.bool true) ∧ Below w.heap.size w w' := by
  have HS : Hid (W.Src w a0 len0 cap0 (fun i => z0.getD i 0)) := s0
  clear s0
  have HG : Hid (TypeCell w) := hg
  have hgl := hg.lt
  clear hg
  by_cases h : 1048576 < len0
  · go_enter Tryd.func4, Tryd.ntmps4
    go_wp2
    go_ret
    exact ⟨rfl, Below.refl _ _⟩
  go_enter Tryd.func4, Tryd.ntmps4
  go_wp2_with (first
    | (go_at_call 15; refine (drawObjKind_any _ _ _ _ _ HS.out).mono ?_; rintro e w1 ⟨s, rfl, hs, B⟩; clear HS; have hs1 := B.size; obtain ⟨y, HY⟩ : ∃ y, Hid (byB s = y) := ⟨_, rfl⟩; obtain ⟨M, HM⟩ : ∃ M, Hid (enL s = M) := ⟨_, rfl⟩; obtain ⟨I, HI⟩ : ∃ I, Hid (idsO M = I) := ⟨_, rfl⟩; have hIM : I.length = M.length := (by rw [← HI.out]; exact idsO_len M); have hM6 : M.length ≤ 60 := (by rw [← HM.out]; exact enL_len s); have HT : Hid (∀ j (h : j < M.length), (M[j]).nm.size ≤ 1048576) := (by have := en_small s hs; rw [HM.out] at this; exact this); obtain ⟨n, HN⟩ : ∃ n, Hid (kd s = n) := ⟨_, rfl⟩; have hn3 : n = 0 ∨ n = 1 ∨ n = 2 := (by rw [← HN.out]; exact kd_le s); have HL : Hid (n = 1 → leafB y = s) := (fun q => (by rw [← HY.out]; exact only_leaf s (HN.out.trans q))); have HX : Hid (n = 2 → shB M = s) := (fun q => (by rw [← HM.out]; exact only_sheet s (HN.out.trans q))); have hyz : y.size ≤ 1048576 := (by rw [← HY.out]; exact by_small s hs); rcases hn3 with hn3 | hn3 | hn3 <;> subst hn3)
    | (go_at_call 12; refine (objKind_impl s _ (by omega) (HG.out.below B hgl)).mono ?_; rw [HN.out]; rintro e w2 ⟨rfl, hb2⟩; replace B := B.trans (hb2.mono hs1); clear hb2 hs1; have hs2 := B.size)
    | (go_at_call 16; refine (objKind_spec s _ (by omega)).mono ?_; rw [HN.out]; rintro e w3 ⟨rfl, hb3⟩; replace B := B.trans (hb3.mono hs2); clear hb3 hs2; have hs3 := B.size)
    | (go_at_call 11; refine (objBytes_impl s _ (by omega) (HG.out.below B hgl)).mono ?_; rw [HN.out, HY.out]; rintro e w4 ⟨rfl, hb4⟩; replace B := B.trans (hb4.mono hs3); clear hb4 hs3; have hs4 := B.size)
    | (go_at_call 13; refine (enI_any s _ (by omega) (HG.out.below B hgl)).mono ?_; rw [HN.out, HM.out]; rintro e w5 ⟨⟨v5, rfl, o5⟩, hb5⟩; replace B := B.trans (hb5.mono hs4); obtain ⟨A5, c5, rfl, rd5⟩ := rdO_of_own o5; have HO5 : Hid (RdO w5.heap.size w5 A5 M) := rd5; clear hb5 hs4 o5 rd5; have hs5 := B.size)
    | (go_at_call 17; refine (kids_impl s _ (by omega) (HG.out.below B hgl)).mono ?_; rw [HM.out, HI.out]; rintro e w6 ⟨⟨v6, rfl, o6⟩, hb6⟩; replace B := B.trans (hb6.mono hs5); have HO6 : Hid (RdO w6.heap.size w6 A5 M) := HO5.out.up hb6; obtain ⟨A6, c6, rfl, rd6⟩ := rdI_of_own o6; have HK6 : Hid (RdI w6.heap.size w6 A6 I) := rd6; clear hb6 hs5 o6 rd6 HO5; have hs6 := B.size)
    | (go_at_call 19; refine (kids_spec s _ (by omega)).mono ?_; rw [HM.out, HI.out]; rintro e w7 ⟨⟨v7, rfl, o7⟩, hb7⟩; replace B := B.trans (hb7.mono hs6); have HO7 : Hid (RdO w7.heap.size w7 A5 M) := HO6.out.up hb7; have HK7 : Hid (RdI w7.heap.size w7 A6 I) := HK6.out.up hb7; obtain ⟨A7, c7, rfl, rd7⟩ := rdI_of_own o7; have HJ7 : Hid (RdI w7.heap.size w7 A7 I) := rd7; clear hb7 hs6 o7 rd7 HO6 HK6; have hs7 := B.size)
    | (go_at_call 18; have HC := chInts_same A6 A7 c6 c7 I w7 HK7.out HJ7.out (by omega); rw [hIM] at HC; refine HC.mono ?_; clear HC; rintro e w8 ⟨rfl, hb8⟩; replace B := B.trans (hb8.mono hs7); have HO8 : Hid (RdO w8.heap.size w8 A5 M) := HO7.out.up hb8; have HK8 : Hid (RdI w8.heap.size w8 A6 I) := HK7.out.up hb8; clear hb8 hs7 HO7 HK7 HJ7; have hs8 := B.size))
  · go_loopw [10] (fun iv wr => ∃ j : Nat, j ≤ M.length ∧ iv = .int .i64 j ∧ Below w8.heap.size w8 wr) (fun i _ => M.length - (intOf i).toNat)
    case atStart => exact ⟨0, Nat.zero_le _, rfl, Below.refl _ _⟩
    case round =>
      obtain ⟨j, hj, rfl, hb⟩ := hrel
      have hsz := hb.size
      by_cases hlt : j < M.length
      · obtain ⟨b1, o1, rfl, hbl, p1, p2, p3⟩ := (HO8.out.below hb (Nat.le_refl _)) j hlt
        obtain ⟨b2, o2, rfl, hbl', q1⟩ := (HK8.out.below hb (Nat.le_refl _)) j (by omega)
        rw [id_at HI.out j hlt (by omega)] at q1
        obtain ⟨x, hx⟩ : ∃ x, (M[j]).id = x := ⟨_, rfl⟩
        rw [hx] at p3 q1
        clear hx p1 p2
        have x3 : ∀ y : Ext wr, y.world.cell? ⟨b1, o1 + j * 3 + 2, none⟩ = some (.int .i64 x) := fun y => y.cell p3
        have y1 : ∀ y : Ext wr, y.world.cell? ⟨b2, o2 + j, none⟩ = some (.int .i64 x) := fun y => y.cell q1
        have hne : Nonempty (Ext wr) := ⟨⟨wr, Below.refl _ _⟩⟩
        clear p3 q1
        go_wp2
        refine region_ext (by kernel_rfl) (by kernel_rfl) ?_
        repeat (go_big_quiet_step (fail))
        refine wpQuiet_nil ?_
        rintro _ ⟨y, rfl⟩
        have hb1 := y.below
        go_wp2
        go_roundw
        case rel => exact ⟨j + 1, by omega, by go_num, hb.trans (hb1.mono (by omega))⟩
        case measure => simp [intOf]; omega
      · have Br := B.trans (hb.mono hs8)
        have hsr := Br.size
        have HOr : Hid (RdO wr.heap.size wr A5 M) := HO8.out.up hb
        go_wp2_with (first
          | (go_at_call 14; refine (chOk_o _).mono ?_; rintro e w12 ⟨rfl, rfl⟩))
        go_ret
        exact ⟨rfl, Br⟩
  · go_loopw [10] (fun iv wr => ∃ j : Nat, j ≤ M.length ∧ iv = .int .i64 j ∧ Below w8.heap.size w8 wr) (fun i _ => M.length - (intOf i).toNat)
    case atStart => exact ⟨0, Nat.zero_le _, rfl, Below.refl _ _⟩
    case round =>
      obtain ⟨j, hj, rfl, hb⟩ := hrel
      have hsz := hb.size
      by_cases hlt : j < M.length
      · obtain ⟨b1, o1, rfl, hbl, p1, p2, p3⟩ := (HO8.out.below hb (Nat.le_refl _)) j hlt
        obtain ⟨b2, o2, rfl, hbl', q1⟩ := (HK8.out.below hb (Nat.le_refl _)) j (by omega)
        rw [id_at HI.out j hlt (by omega)] at q1
        obtain ⟨x, hx⟩ : ∃ x, (M[j]).id = x := ⟨_, rfl⟩
        rw [hx] at p3 q1
        clear hx p1 p2
        have x3 : ∀ y : Ext wr, y.world.cell? ⟨b1, o1 + j * 3 + 2, none⟩ = some (.int .i64 x) := fun y => y.cell p3
        have y1 : ∀ y : Ext wr, y.world.cell? ⟨b2, o2 + j, none⟩ = some (.int .i64 x) := fun y => y.cell q1
        have hne : Nonempty (Ext wr) := ⟨⟨wr, Below.refl _ _⟩⟩
        clear p3 q1
        go_wp2
        refine region_ext (by kernel_rfl) (by kernel_rfl) ?_
        repeat (go_big_quiet_step (fail))
        refine wpQuiet_nil ?_
        rintro _ ⟨y, rfl⟩
        have hb1 := y.below
        go_wp2
        go_roundw
        case rel => exact ⟨j + 1, by omega, by go_num, hb.trans (hb1.mono (by omega))⟩
        case measure => simp [intOf]; omega
      · have Br := B.trans (hb.mono hs8)
        have hsr := Br.size
        have HOr : Hid (RdO wr.heap.size wr A5 M) := HO8.out.up hb
        go_wp2_with (first
          | (go_at_call 6; have hl : leafB y = s := (by first | exact HL.out rfl | exact HL.out trivial); refine (leaf_impl y _ (by unfold maxLen; omega)).mono ?_; rw [hl]; rintro e w10 ⟨rfl, hb10⟩; replace Br := Br.trans (hb10.mono hsr); clear hb10 hsr)
          | (go_at_call 14; refine (chOk_o _).mono ?_; rintro e w12 ⟨rfl, rfl⟩))
        go_ret
        exact ⟨rfl, Br⟩
  · go_loopw [10] (fun iv wr => ∃ j : Nat, j ≤ M.length ∧ iv = .int .i64 j ∧ Below w8.heap.size w8 wr) (fun i _ => M.length - (intOf i).toNat)
    case atStart => exact ⟨0, Nat.zero_le _, rfl, Below.refl _ _⟩
    case round =>
      obtain ⟨j, hj, rfl, hb⟩ := hrel
      have hsz := hb.size
      by_cases hlt : j < M.length
      · obtain ⟨b1, o1, rfl, hbl, p1, p2, p3⟩ := (HO8.out.below hb (Nat.le_refl _)) j hlt
        obtain ⟨b2, o2, rfl, hbl', q1⟩ := (HK8.out.below hb (Nat.le_refl _)) j (by omega)
        rw [id_at HI.out j hlt (by omega)] at q1
        obtain ⟨x, hx⟩ : ∃ x, (M[j]).id = x := ⟨_, rfl⟩
        rw [hx] at p3 q1
        clear hx p1 p2
        have x3 : ∀ y : Ext wr, y.world.cell? ⟨b1, o1 + j * 3 + 2, none⟩ = some (.int .i64 x) := fun y => y.cell p3
        have y1 : ∀ y : Ext wr, y.world.cell? ⟨b2, o2 + j, none⟩ = some (.int .i64 x) := fun y => y.cell q1
        have hne : Nonempty (Ext wr) := ⟨⟨wr, Below.refl _ _⟩⟩
        clear p3 q1
        go_wp2
        refine region_ext (by kernel_rfl) (by kernel_rfl) ?_
        repeat (go_big_quiet_step (fail))
        refine wpQuiet_nil ?_
        rintro _ ⟨y, rfl⟩
        have hb1 := y.below
        go_wp2
        go_roundw
        case rel => exact ⟨j + 1, by omega, by go_num, hb.trans (hb1.mono (by omega))⟩
        case measure => simp [intOf]; omega
      · have Br := B.trans (hb.mono hs8)
        have hsr := Br.size
        have HOr : Hid (RdO wr.heap.size wr A5 M) := HO8.out.up hb
        go_wp2_with (first
          | (go_at_call 8; have hl : shB M = s := (by first | exact HX.out rfl | exact HX.out trivial); refine (sheet_impl A5 c5 M _ HOr.out (by omega) HT.out).mono ?_; rw [show (ByteArray.mk (sheetT (M.map enO)).toArray) = s from hl]; rintro e w10 ⟨rfl, hb10⟩; replace Br := Br.trans (hb10.mono hsr); clear hb10 hsr)
          | (go_at_call 14; refine (chOk_o _).mono ?_; rintro e w12 ⟨rfl, rfl⟩))
        go_ret
        exact ⟨rfl, Br⟩

set_option maxRecDepth 100000 in
theorem contract (H : Type) (enc : TypeId × Value → H) (W : World) (base : Nat) (args : Array Value) (ds gs : List (DataW H)) (before : List MemPlace)
    (hval0 : ∀ (j : Nat) t v, Tryd.f4.params[j]? = some t → args[j]? = some v → Value.okWide Tryd.prog W .any base t v)
    (hW : DataW.Whole enc Tryd.prog Tryd.f4.params.toList Rows.fnObjOnlySpec.vars false W args.toList ds gs before) (hL : laidMetH Tryd.prog Rows.fnObjOnlyRow.laid W) :
    Calls Tryd.prog 4 args W fun e W' => ∃ v, e = .returned v ∧ Rows.fnObjOnlySpec.post enc Tryd.prog Tryd.f4 false true false false W args v W' := by
  have hval := hval0
  have hW' := hW
  obtain ⟨p, q, hA0, hV, rfl, hfz, hnd⟩ := hW
  have hA : DataW.TrodAll enc Tryd.prog W 0 (fun _ => true) true Tryd.f4.params.toList args.toList ds p := hA0
  rw [Tryd.params4] at hA hval
  obtain ⟨v0, vs0, d0, ds0, p0, q0, hargs, rfl, rfl, h0, r0⟩ := trodAll_cons hA
  obtain ⟨rfl, rfl, rfl⟩ := trodAll_nil r0
  obtain rfl : args = #[v0] := by cases args; simp_all
  obtain ⟨rfl, rfl⟩ := trodVars_none hV
  have k0 := h0
  obtain ⟨a0, len0, cap0, rfl⟩ := okWide_slice Tryd.underlying22 (hval 0 22 v0 rfl rfl)
  obtain ⟨z0, s0⟩ : ∃ zs : List Int, Go.Proofs.YtdofjajpiackiaaDoor.W.Src W a0 len0 cap0 (fun i => zs.getD i 0) := by
    obtain ⟨fuel, hf⟩ := h0
    rcases open_ints Tryd.underlying22 Tryd.underlying5 (by kernel_rfl) hf with ⟨hcs, _⟩ | ⟨x, l, c, zs, hcs, _, hl, hm, hz, _, hcell, hwz⟩
    · simp [Value.cells] at hcs
      obtain ⟨rfl, rfl, rfl⟩ := hcs
      exact ⟨[], Go.Proofs.YtdofjajpiackiaaDoor.W.src_of W _ _ _ [] (.inl ⟨rfl, rfl, rfl, rfl⟩)⟩
    · simp [Value.cells] at hcs
      obtain ⟨rfl, rfl, rfl⟩ := hcs
      exact ⟨zs, Go.Proofs.YtdofjajpiackiaaDoor.W.src_of W _ _ _ zs (.inr ⟨_, rfl, hl, hm, by simpa using hz, hcell, hwz⟩)⟩
  clear hA0 hval0
  simp only [List.append_nil] at hW'
  refine (walk a0 len0 cap0 z0 W (handle_of_laid hL) s0).mono fun e W' ⟨he, hg⟩ => ?_
  subst he
  exact ⟨_, rfl, _, _, _, [], _, [], hW', (trodAll_cons_mk (shut_bool Tryd.underlying4 _) trodAll_mk0), (trodAll_cons_mk (Below.trod laidOut (by kernel_rfl) (of_decide_eq_true (by kernel_rfl)) k0 hg (fun x hx => hW'.lt x (by first | (simp [hx]; done) | simp at hx))) trodAll_mk0), rfl, hg.frame _, fun h => by cases h⟩

noncomputable def laidWorld (os : Os) : World :=
  { World.holding Tryd.prog os ⟨#[], #[], []⟩ with heap := (World.holding Tryd.prog os ⟨#[], #[], []⟩).heap.modify 0 fun
      | .cells _ t frozen => .cells #[.iface 95 (.agg #[.pointer (some ⟨2, 65, none⟩)])] t frozen
      | o => o }
theorem laid_met (os : Os) : laidMetH Tryd.prog Rows.fnObjOnlyRow.laid ((laidWorld os).forCall (fun _ _ => 0) ⟨#[], #[.slice none 0 0], []⟩).memory :=
  laidMetH_of_parts (laidMet_nil _ _) (by kernel_rfl)
theorem reads (os : Os) {H : Type} (enc : TypeId × Value → H) : ∃ places, DataW.whole enc Tryd.prog ((laidWorld os).forCall (fun _ _ => 0) ⟨#[], #[.slice none 0 0], []⟩).memory Tryd.f4.params.toList Rows.fnObjOnlySpec.vars false #[Value.slice none 0 0].toList 8 = some ([.nil], [], places) :=
  ⟨[], by kernel_rfl⟩

set_option maxRecDepth 100000 in
theorem lifted (os : Os) (started : os.Started) (H : Type) (enc : TypeId × Value → H) (F : Stop.Interp) :
    ReturnsInHanded {} Tryd.checked os 4 .any ((OpenSpec.ofChange Rows.fnObjOnlySpec).preRow enc Tryd.prog Tryd.f4 Rows.fnObjOnlyRow.domain false Rows.fnObjOnlyRow.laid) (((OpenSpec.ofChange Rows.fnObjOnlySpec).at F).post enc Tryd.prog Tryd.f4 false true false false) := by
  obtain ⟨places, hx⟩ := reads os enc
  refine returnsInHanded_of_row (C := Tryd.checked) (s := OpenSpec.ofChange Rows.fnObjOnlySpec) own started (by kernel_rfl) Tryd.func4
    (witness_row_at (enc := enc) (C := Tryd.checked) false (laidWorld os) #[.slice none 0 0] rfl (by kernel_rfl) (by kernel_rfl) (by kernel_rfl)
      (OpenSpec.preRow_of_cond 8 hx (by kernel_rfl) (fun k hk => by cases hk) (by kernel_rfl) (laid_met os))) ?_
  intro W base args ds gs before hval hW _ _ _ hL _ _
  exact contract H enc W base args ds gs before hval hW hL

theorem said : Rows.FnObjOnlySaid :=
  OpenClaim.holds_of_cond 4 Tryd.f4 rfl rfl rfl rfl rfl rfl rfl ⟨rfl, rfl, rfl, rfl, rfl⟩ rfl rfl rfl rfl rfl (by kernel_rfl) Tryd.func4 (by kernel_rfl)
    (of_decide_eq_true (by kernel_rfl)) (by unfold Func.isWrapper; first | (rw [if_pos (by decide +kernel)]; kernel_rfl) | (rw [if_neg (by decide +kernel)]; exact ⟨rfl, rfl⟩))
    (fun os started H enc _ F => by rw [OpenClaim.pre_eq_preRow]; exact lifted os started H enc F)
theorem plain (f : FuncId) (fn : Func) (hf : Tryd.pinned.checked.prog.funcNamed "loop.example/chartulary/laws.FnObjOnly" = some f) (hfn : Tryd.pinned.checked.prog.funcs[f]? = some fn) :
    true = Tryd.pinned.checked.prog.looks [] ∧ ∀ (j : Nat) t, fn.params[j]? = some t → Tryd.pinned.checked.prog.wantsStandIn t = false := by
  obtain rfl : f = 4 := Option.some.inj ((show Tryd.prog.funcNamed "loop.example/chartulary/laws.FnObjOnly" = some 4 by kernel_rfl).symm.trans hf) |>.symm
  obtain rfl : fn = Tryd.f4 := (Option.some.inj (Tryd.func4.symm.trans hfn)).symm
  refine ⟨by kernel_rfl, fun j t ht => ?_⟩
  rw [Tryd.params4] at ht
  obtain rfl : t = 22 := by simpa using Array.mem_of_getElem? ht
  exact (show Tryd.prog.wantsStandIn 22 = false by kernel_rfl)
theorem proved : Rows.FnObjOnlyCardSaid :=
  Claim7.holds_tied_plain_at .later [] _ _ _ _ said (fun _ h => by cases h) (by kernel_rfl) (fun _ h => by cases h) fnObjOnly_row_tie rfl ⟨rfl, rfl⟩ (by kernel_rfl) rfl plain (by kernel_rfl)
#print axioms proved
end Go.Proofs.YtdofjajpiackiaaDoor.fnObjOnly
