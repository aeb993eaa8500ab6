/-
  Of every two codes: a drawn tree is laid as the specification lays it; its texts, put one by one into a drawn pool that is ok, are read from its sheet as the tree, and the last text's id is the sheet's; or the pool is full. The codes read as they did. errors.errorType holds what the program's text lays; the card ties it.
-/
import Derived.Test.YthfffpdkmoclbaaGreatDoorCards
import Derived.Test.YthfffpdkmoclbaaGreatDoorTie
import Derived.WalkKit
import Derived.ProofKit
import Derived.OpenShut
import Derived.ShutString
import Derived.Below
import Derived.Carry
import Derived.LaidLaws
import Derived.Test.YthfffpdkmoclbaaGreatDoorMg01
import Derived.LaidHandle
import Derived.Deep.DeepHandedRow
import Derived.Test.YthfffpdkmoclbaaGreatDoorMg49
import Derived.Test.YthfffpdkmoclbaaGreatDoorMg34
import Derived.Test.YthfffpdkmoclbaaGreatDoorMg37
import Derived.Test.YthfffpdkmoclbaaGreatDoorMg30
import Derived.Test.YthfffpdkmoclbaaGreatDoorMg41
namespace Go.Proofs.YthfffpdkmoclbaaGreatDoor.fnTreBack
open Go.ChangeShapes Go.WideShapes Go.ChangeAt Go.RowKit
open Go.ChangeMaps (open_string shut_string)
set_option linter.unusedVariables false

theorem own : ownKnob Tryz.prog.godebug = none := by kernel_rfl
theorem laidOut : laidOutB Tryz.prog = true := by kernel_rfl

theorem et : Tryz.prog.globalNamed "errors.errorType" = some 0 := by kernel_rfl
theorem rt : (Tryz.prog.cutTypes.find? (·.1 == "internal/reflectlite.rtype")).map (·.2) = some 206 := by kernel_rfl
theorem oneRow : ((List.range 282).filter fun t => Tryz.prog.rowNamed t [101, 114, 114, 111, 114]) = [155] := by kernel_rfl
theorem tsize : Tryz.prog.types.size = 282 := by kernel_rfl
theorem handle_of_laid {W : World} (h : laidMetH Tryz.prog Rows.fnTreBackRow.laid W) : Go.Proofs.YthfffpdkmoclbaaGreatDoor.W.TypeCell W := by
  have h' : laidMet Tryz.prog [] W ∧ handlesMet Tryz.prog Rows.fnTreBackRow.laid W := h
  obtain ⟨name, u, ty, e1, e2, e3, e4, e5⟩ := h'.2 _ (List.mem_singleton.2 rfl)
  have en : name = [101, 114, 114, 111, 114] := (Option.some.inj e1).symm
  subst en
  obtain rfl := Option.some.inj (rt.symm.trans e2)
  have hm : ty ∈ (List.range 282).filter fun t => Tryz.prog.rowNamed t [101, 114, 114, 111, 114] := List.mem_filter.2 ⟨List.mem_range.2 (by rw [← tsize]; exact e3), e4⟩
  rw [oneRow] at hm
  obtain rfl := List.mem_singleton.1 hm
  have hh : typeHandle Tryz.prog 155 = .pointer (some ⟨2, 155, none⟩) := by kernel_rfl
  rw [hh] at e5
  simpa [Go.Proofs.YthfffpdkmoclbaaGreatDoor.W.TypeCell] using World.var?_cell et e5 0

open Go.Proofs.YthfffpdkmoclbaaGreatDoor.W Go.Proofs.YthfffpdkmoclbaaGreatDoor.M in
theorem backI_own {b : Nat} {e : TypeId} (v : Value) (L : List TF) (w : World) (h : w.ownsRow b e 2 v L.length (cellsF L)) (hn : L.length ≤ 1000) (hz : shortF L) :
    Calls Tryz.prog 32 #[v] w fun e w' => (∃ v, e = .returned (.tuple #[v, .int .i64 (texI L)]) ∧ w'.ownsRow w.heap.size 9 1 v (texT L).length (strs (sL (texT L)))) ∧ Below w.heap.size w w' := by
  have hl := h.lt
  obtain ⟨A, c, e, rd⟩ := rdF_of_own h
  rcases h.2 with ⟨e2, h0⟩ | ⟨g, c2, cur, e2, h1, h2, h3, h4, _⟩
  · rw [e] at e2
    injection e2 with e3 e4 e5
    subst e3
    subst e5
    subst e
    exact treLay_impl none 0 L w rd (by omega) (by unfold maxLen; omega) (fun b o e => by cases e) (by omega) (smallOf hz)
  · have hg : g < w.heap.size := (Array.getElem?_eq_some_iff.1 h2).1
    rw [e] at e2
    injection e2 with e3 e4 e5
    subst e3
    subst e5
    subst e
    exact treLay_impl _ c L w rd h3 h4 (fun b o e => by obtain ⟨rfl, _⟩ : g = b ∧ 0 = o := by simpa using e
                                                        exact hg) (by omega) (smallOf hz)
open Go.Proofs.YthfffpdkmoclbaaGreatDoor.W Go.Proofs.YthfffpdkmoclbaaGreatDoor.M in
theorem backCases (L : List TF) (P : List PI) (T : List ByteArray) (id : Nat) (hT : texT L = T) (hI : texI L = id) : (id = 0 ∧ Hid (okT L = false)) ∨ (Hid (okT L = true) ∧ Hid (okP P = false)) ∨ (Hid (okT L = true) ∧ Hid (okP P = true) ∧ ∃ m, (sL T).length = m + 1) := by
  cases hk : okT L with
  | false =>
    refine .inl ⟨?_, rfl⟩
    rw [← hI]
    unfold texI
    rw [hk]; rfl
  | true =>
    cases hp : okP P with
    | false => exact .inr (.inl ⟨rfl, rfl⟩)
    | true =>
      refine .inr (.inr ⟨rfl, rfl, (sL T).length - 1, ?_⟩)
      obtain ⟨h, _⟩ := back_last L hk
      rw [hT] at h
      rw [sL_len]
      omega
open Go.Proofs.YthfffpdkmoclbaaGreatDoor.W Go.Proofs.YthfffpdkmoclbaaGreatDoor.M in
theorem back_at (L : List TF) (T : List ByteArray) (m : Nat) (t : ByteArray) (hk : okT L = true) (hT : texT L = T) (hm : T.length = m + 1) {h : m < T.length} (hx : T[m] = t) : idOfN t.data.toList = texI L := by
  subst hT
  subst hx
  obtain ⟨h1, h2⟩ := back_last L hk
  have h3 : (texT L).length - 1 = m := by omega
  simp only [h3] at h2
  exact h2
open Go.Proofs.YthfffpdkmoclbaaGreatDoor.W Go.Proofs.YthfffpdkmoclbaaGreatDoor.M in
theorem cellT {B : Nat} {w : World} {A : Option Addr} {T : List ByteArray} (h : RdT B w A (sL T)) (j : Nat) (hj : j < T.length) : ∃ b, A = some ⟨b, 0, none⟩ ∧ b < B ∧ w.cell? ⟨b, j, none⟩ = some (.string T[j]) := by
  obtain ⟨b, e, hb, c⟩ := h j (by rw [sL_len]; exact hj)
  refine ⟨b, e, hb, ?_⟩
  rw [c]
  simp [sL]
open Go.Proofs.YthfffpdkmoclbaaGreatDoor.W Go.Proofs.YthfffpdkmoclbaaGreatDoor.M in
set_option maxRecDepth 100000 in
set_option maxHeartbeats 16000000 in
theorem walk (a0 : Option Addr) (len0 cap0 : Nat) (z0 : List Int) (a1 : Option Addr) (len1 cap1 : Nat) (z1 : List Int) (w : World) (hg : Go.Proofs.YthfffpdkmoclbaaGreatDoor.W.TypeCell w) (s0 : Go.Proofs.YthfffpdkmoclbaaGreatDoor.W.Src w a0 len0 cap0 (fun i => z0.getD i 0)) (s1 : Go.Proofs.YthfffpdkmoclbaaGreatDoor.W.Src w a1 len1 cap1 (fun i => z1.getD i 0)) :
    Calls Tryz.prog 6 #[.slice a0 len0 cap0, .slice a1 len1 cap1] w fun e w' => e = .returned (.bool true) ∧ Below w.heap.size w w' := by
  have HS : Hid (W.Src w a0 len0 cap0 (fun i => z0.getD i 0)) := s0
  have HR : Hid (W.Src w a1 len1 cap1 (fun i => z1.getD i 0)) := s1
  clear s0 s1
  have HG : Hid (TypeCell w) := hg
  have hgl := hg.lt
  clear hg
  by_cases h : 1048576 < len0
  · go_enter Tryz.func6, Tryz.ntmps6
    go_wp2
    go_ret
    exact ⟨rfl, Below.refl _ _⟩
  by_cases h' : 1048576 < len1
  · go_enter Tryz.func6, Tryz.ntmps6
    go_wp2
    go_ret
    exact ⟨rfl, Below.refl _ _⟩
  go_enter Tryz.func6, Tryz.ntmps6
  go_wp2_with (first
    | (go_at_call 31; refine (drawTreLay_any _ _ _ _ _ HS.out).mono ?_; rintro e w1 ⟨⟨v, L, rfl, hL, hSL, O1⟩, B⟩; have HSL : Hid (shortF L) := hSL; clear HS hSL)
    | (go_at_call 9; refine (drawPolPut_any _ _ _ _ _ (HR.out.below B)).mono ?_; rintro e w2 ⟨⟨vp, P, s, rfl, hP, hSP, hs, OP⟩, hb⟩; replace O1 := ownsUnder O1 hb (Nat.le_refl _); replace B := B.trans (hb.mono B.size); have HSP : Hid (shP P) := hSP; obtain ⟨AP, cP, rfl, PP⟩ := rdP_of_own OP; clear HR hb hSP OP)
    | (go_at_call 32; refine (backI_own v L _ O1 (by omega) HSL.out).mono ?_; rintro e w3 ⟨⟨vt, rfl, ot⟩, hb⟩; obtain ⟨T, hT⟩ : ∃ T, texT L = T := ⟨_, rfl⟩; obtain ⟨id, hid⟩ : ∃ id, texI L = id := ⟨_, rfl⟩; have HT : Hid (texT L = T) := hT; have HI : Hid (texI L = id) := hid; have hTn := texT_len L; rw [hT] at ot hTn; rw [hid]; rw [← sL_len T] at ot hTn; obtain ⟨AL, cL, rfl, FL⟩ := rdF_of_own O1; replace PP := PP.up hb; replace FL := FL.up hb; replace B := B.trans (hb.mono B.size); clear hT hid hb O1)
    | (go_at_call 33; refine (treLay_spec AL cL L _ FL (by omega) (smallOf HSL.out)).mono ?_; rw [HT.out, HI.out, ← sL_len T]; rintro e w4 ⟨⟨vu, rfl, ou⟩, hb⟩; replace ot := ownsUnder ot hb (Nat.le_refl _); replace PP := PP.up hb; replace FL := FL.up hb; replace B := B.trans (hb.mono B.size); clear hb)
    | (go_at_call 34; refine (chTexts_any _ _ vt vu (sL T) _ ot ou (by omega)).mono ?_; rintro e w5 ⟨rfl, hb⟩; replace ot := ownsUnder ot hb (Nat.le_refl _); replace PP := PP.up hb; replace FL := FL.up hb; replace B := B.trans (hb.mono B.size); obtain ⟨AT, cT, rfl, TT⟩ := rdT_of_own ot; clear hb ou ot; rcases backCases L P T id HT.out HI.out with ⟨rfl, HK⟩ | ⟨HK, HP⟩ | ⟨HK, HP, m, hm⟩))
  · go_wp2_with (first
      | (go_at_call 35; refine (treOk_spec AL cL L _ FL (by omega) (sizesF HSL.out)).mono ?_; rw [HK.out]; rintro e wA ⟨rfl, hb⟩; replace FL := FL.up hb; replace B := B.trans (hb.mono B.size); clear hb)
      | (go_at_call 15; refine (chOk_o _).mono ?_; rintro e wB ⟨rfl, rfl⟩))
    go_ret
    exact ⟨rfl, B⟩
  · go_wp2_with (first
      | (go_at_call 35; refine (treOk_spec AL cL L _ FL (by omega) (sizesF HSL.out)).mono ?_; rw [HK.out]; rintro e wA ⟨rfl, hb⟩; replace PP := PP.up hb; replace FL := FL.up hb; replace B := B.trans (hb.mono B.size); clear hb)
      | (go_at_call 13; refine (polOk_spec AP cP P _ PP (by omega) (shSizes HSP.out)).mono ?_; rw [HP.out]; rintro e wC ⟨rfl, hb⟩; replace PP := PP.up hb; replace FL := FL.up hb; replace B := B.trans (hb.mono B.size); clear hb)
      | (go_at_call 15; refine (chOk_o _).mono ?_; rintro e wB ⟨rfl, rfl⟩))
    go_ret
    exact ⟨rfl, B⟩
  · have HM : Hid ((sL T).length = m + 1) := hm
    rw [hm] at hTn
    clear hm
    go_wp2_with (first
      | (go_at_call 35; refine (treOk_spec AL cL L _ FL (by omega) (sizesF HSL.out)).mono ?_; rw [HK.out]; rintro e wA ⟨rfl, hb⟩; replace TT := TT.up hb; replace PP := PP.up hb; replace FL := FL.up hb; replace B := B.trans (hb.mono B.size); clear hb)
      | (go_at_call 13; refine (polOk_spec AP cP P _ PP (by omega) (shSizes HSP.out)).mono ?_; rw [HP.out]; rintro e w6 ⟨rfl, hb⟩; replace TT := TT.up hb; replace PP := PP.up hb; replace FL := FL.up hb; replace B := B.trans (hb.mono B.size); clear hb))
    have HTT : Hid (RdT w6.heap.size w6 AT (sL T)) := TT
    have HFL : Hid (RdF w6.heap.size w6 AL L) := FL
    have HPU : Hid (PutIn P (T.take 0)) := (show PutIn P (T.take 0) from ⟨HP.out, HSP.out, fun t ht => by simp at ht⟩)
    have hTm : T.length = m + 1 := by rw [← sL_len]; exact HM.out
    have HTS : Hid (∀ t ∈ T, t.size ≤ 1000 ∧ kd t ≠ 0) := (show ∀ t ∈ T, _ from fun t ht => by
      rw [← HT.out] at ht
      exact ⟨texT_short L HSL.out t ht, back_kind L HK.out t ht⟩)
    clear TT FL
    go_loopw [6, 12] (fun v iv wr => ∃ (j : Nat) (P' : List PI) (A' : Option Addr) (c' : Nat), v = .slice A' P'.length c' ∧ j ≤ m + 1 ∧ iv = .int .i64 j ∧ Hid (PutIn P' (T.take j)) ∧ P'.length ≤ 701 ∧ Hid (RdP wr.heap.size wr A' P') ∧ Below w6.heap.size w6 wr) (fun _ i _ => m + 1 - (intOf i).toNat)
    case atStart => exact ⟨0, P, AP, cP, rfl, by omega, rfl, HPU, hP, PP, Below.refl _ _⟩
    case round =>
      obtain ⟨j, P', A', c', rfl, hj, rfl, HPI, hP', HPP, hbl⟩ := hrel
      have hbs := hbl.size
      have HGr : Hid (TypeCell wr) := (HG.out.below B hgl).below hbl (by have := B.size; omega)
      by_cases hlt : j < m + 1
      · obtain ⟨b1, rfl, hbb, p1⟩ := cellT (HTT.out.below hbl (Nat.le_refl _)) j (by omega)
        obtain ⟨t, hx⟩ : ∃ t, T[j] = t := ⟨_, rfl⟩
        obtain ⟨hts, htk⟩ := HTS.out t (by rw [← hx]; exact List.getElem_mem _)
        have HTJ : Hid (T.take (j + 1) = T.take j ++ [t]) := (show _ = _ from by rw [List.take_succ_eq_append_getElem (by omega), hx])
        rw [hx] at p1
        clear hx
        have hjI : ((j : Nat) : Int) < ((m + 1 : Nat) : Int) := by omega
        obtain ⟨⟨X, n, c⟩, hX⟩ : ∃ q, putR P' t = q := ⟨_, rfl⟩
        have hst := putIn_step P' _ t X n c hX HPI.out htk hts
        have HX : Hid (putR P' t = (X, n, c)) := hX
        clear hX htk
        rcases hst with ⟨rfl, hXl⟩ | ⟨rfl | rfl, hXl, hst⟩
        · go_wp2_with (first
            | (go_at_call 10; refine (polPut_impl A' c' P' t _ HGr.out HPP.out (by omega) (shSizes HPI.out.2.1) (by omega)).mono ?_; rw [HX.out]; rintro e w7 ⟨⟨vx, rfl, ox⟩, hb⟩)
            | (go_at_call 15; refine (chOk_o _).mono ?_; rintro e wB ⟨rfl, rfl⟩))
          go_ret
          exact ⟨rfl, B.trans ((hbl.trans (hb.mono hbs)).mono B.size)⟩
        · have HPX : Hid (PutIn X (T.take (j + 1))) := (show PutIn _ _ from HTJ.out ▸ hst)
          clear hst
          go_wp2_with (go_at_call 10; refine (polPut_impl A' c' P' t _ HGr.out HPP.out (by omega) (shSizes HPI.out.2.1) (by omega)).mono ?_; rw [HX.out]; rintro e w7 ⟨⟨vx, rfl, ox⟩, hb⟩; obtain ⟨AX, cX, rfl, XX⟩ := rdP_of_own ox)
          have HXX : Hid (RdP w7.heap.size w7 AX X) := XX
          exact ⟨⟨j + 1, X, AX, cX, rfl, by omega, by go_num, HPX, by omega, HXX, hbl.trans (hb.mono hbs)⟩, by simp [intOf]; omega⟩
        · have HPX : Hid (PutIn X (T.take (j + 1))) := (show PutIn _ _ from HTJ.out ▸ hst)
          clear hst
          go_wp2_with (go_at_call 10; refine (polPut_impl A' c' P' t _ HGr.out HPP.out (by omega) (shSizes HPI.out.2.1) (by omega)).mono ?_; rw [HX.out]; rintro e w7 ⟨⟨vx, rfl, ox⟩, hb⟩; obtain ⟨AX, cX, rfl, XX⟩ := rdP_of_own ox)
          have HXX : Hid (RdP w7.heap.size w7 AX X) := XX
          exact ⟨⟨j + 1, X, AX, cX, rfl, by omega, by go_num, HPX, by omega, HXX, hbl.trans (hb.mono hbs)⟩, by simp [intOf]; omega⟩
      · obtain rfl : j = m + 1 := by omega
        have HRD : Hid (treR P' (id : Int) = some L) := (show _ = _ from by
          have h1 := HPI.out
          rw [← hTm, List.take_length, ← HT.out] at h1
          have := back_read L P' HK.out h1
          rw [HI.out] at this
          exact this)
        have hin := texI_in L
        rw [HI.out] at hin
        have HIN : Hid (inI (id : Int)) := hin
        obtain ⟨b1, rfl, hbb, p1⟩ := cellT (HTT.out.below hbl (Nat.le_refl _)) m (by omega)
        obtain ⟨t, hx⟩ : ∃ t, T[m] = t := ⟨_, rfl⟩
        obtain ⟨hts, _⟩ := HTS.out t (by rw [← hx]; exact List.getElem_mem _)
        have HID : Hid (idOfN t.data.toList = id) := (show _ = _ from by rw [← HI.out]; exact back_at L T m t HK.out HT.out hTm hx)
        rw [hx] at p1
        clear hx hin
        have FL := HFL.out.up hbl
        have hb1s := Nat.lt_of_lt_of_le hbb hbs
        go_wp2_with (first
          | (go_at_call 36; refine (treRead_impl A' c' P' id _ HGr.out HPP.out (by omega) (shSizes HPI.out.2.1) HIN.out).mono ?_; rw [HRD.out]; unfold TreEnd; simp only [Option.isSome_some, Option.getD_some]; rintro e w7 ⟨⟨vx, rfl, ox⟩, hb⟩; obtain ⟨AX, cX, rfl, XX⟩ := rdF_of_own ox; replace FL := FL.up hb; have hb8 := hbl.trans (hb.mono hbs); replace p1 := (hb.cell (p := ⟨b1, m, none⟩) hb1s).trans p1; have hs7 := hb.size; clear hb)
          | (go_at_call 37; refine (chFiles_same AX AL cX cL L _ XX FL (by omega)).mono ?_; rintro e w8 ⟨rfl, hb⟩; have hb9 := hb8.trans (hb.mono hb8.size); replace p1 := (hb.cell (p := ⟨b1, m, none⟩) (show b1 < w7.heap.size by omega)).trans p1; clear hb)
          | (go_at_call 17; refine (idI t id _ (by omega) HID.out).mono ?_; rintro e w9 ⟨rfl, hb⟩; have hb10 := hb9.trans (hb.mono hb9.size)))
        go_ret
        exact ⟨rfl, B.trans (hb10.mono B.size)⟩

set_option maxRecDepth 100000 in
theorem contract (H : Type) (enc : TypeId × Value → H) (W : World) (base : Nat) (args : Array Value) (ds gs : List (DataW H)) (before : List MemPlace)
    (hval0 : ∀ (j : Nat) t v, Tryz.f6.params[j]? = some t → args[j]? = some v → Value.okWide Tryz.prog W .any base t v)
    (hW : DataW.Whole enc Tryz.prog Tryz.f6.params.toList Rows.fnTreBackSpec.vars false W args.toList ds gs before) (hL : laidMetH Tryz.prog Rows.fnTreBackRow.laid W) :
    Calls Tryz.prog 6 args W fun e W' => ∃ v, e = .returned v ∧ Rows.fnTreBackSpec.post enc Tryz.prog Tryz.f6 false true false false W args v W' := by
  have hval := hval0
  have hW' := hW
  obtain ⟨p, q, hA0, hV, rfl, hfz, hnd⟩ := hW
  have hA : DataW.TrodAll enc Tryz.prog W 0 (fun _ => true) true Tryz.f6.params.toList args.toList ds p := hA0
  rw [Tryz.params6] at hA hval
  obtain ⟨v0, vs0, d0, ds0, p0, q0, hargs, rfl, rfl, h0, r0⟩ := trodAll_cons hA
  obtain ⟨v1, vs1, d1, ds1, p1, q1, rfl, rfl, rfl, h1, r1⟩ := trodAll_cons r0
  obtain ⟨rfl, rfl, rfl⟩ := trodAll_nil r1
  obtain rfl : args = #[v0, v1] := by cases args; simp_all
  obtain ⟨rfl, rfl⟩ := trodVars_none hV
  have k0 := h0
  have k1 := h1
  obtain ⟨a0, len0, cap0, rfl⟩ := okWide_slice Tryz.underlying22 (hval 0 22 v0 rfl rfl)
  obtain ⟨z0, s0⟩ : ∃ zs : List Int, Go.Proofs.YthfffpdkmoclbaaGreatDoor.W.Src W a0 len0 cap0 (fun i => zs.getD i 0) := by
    obtain ⟨fuel, hf⟩ := h0
    rcases open_ints Tryz.underlying22 Tryz.underlying5 (by kernel_rfl) hf with ⟨hcs, _⟩ | ⟨x, l, c, zs, hcs, _, hl, hm, hz, _, hcell, hwz⟩
    · simp [Value.cells] at hcs
      obtain ⟨rfl, rfl, rfl⟩ := hcs
      exact ⟨[], Go.Proofs.YthfffpdkmoclbaaGreatDoor.W.src_of W _ _ _ [] (.inl ⟨rfl, rfl, rfl, rfl⟩)⟩
    · simp [Value.cells] at hcs
      obtain ⟨rfl, rfl, rfl⟩ := hcs
      exact ⟨zs, Go.Proofs.YthfffpdkmoclbaaGreatDoor.W.src_of W _ _ _ zs (.inr ⟨_, rfl, hl, hm, by simpa using hz, hcell, hwz⟩)⟩
  obtain ⟨a1, len1, cap1, rfl⟩ := okWide_slice Tryz.underlying22 (hval 1 22 v1 rfl rfl)
  obtain ⟨z1, s1⟩ : ∃ zs : List Int, Go.Proofs.YthfffpdkmoclbaaGreatDoor.W.Src W a1 len1 cap1 (fun i => zs.getD i 0) := by
    obtain ⟨fuel, hf⟩ := h1
    rcases open_ints Tryz.underlying22 Tryz.underlying5 (by kernel_rfl) hf with ⟨hcs, _⟩ | ⟨x, l, c, zs, hcs, _, hl, hm, hz, _, hcell, hwz⟩
    · simp [Value.cells] at hcs
      obtain ⟨rfl, rfl, rfl⟩ := hcs
      exact ⟨[], Go.Proofs.YthfffpdkmoclbaaGreatDoor.W.src_of W _ _ _ [] (.inl ⟨rfl, rfl, rfl, rfl⟩)⟩
    · simp [Value.cells] at hcs
      obtain ⟨rfl, rfl, rfl⟩ := hcs
      exact ⟨zs, Go.Proofs.YthfffpdkmoclbaaGreatDoor.W.src_of W _ _ _ zs (.inr ⟨_, rfl, hl, hm, by simpa using hz, hcell, hwz⟩)⟩
  clear hA0 hval0
  simp only [List.append_nil] at hW'
  refine (walk a0 len0 cap0 z0 a1 len1 cap1 z1 W (handle_of_laid hL) s0 s1).mono fun e W' ⟨he, hg⟩ => ?_
  subst he
  exact ⟨_, rfl, _, _, _, [], _, [], hW', (trodAll_cons_mk (shut_bool Tryz.underlying4 _) trodAll_mk0), (trodAll_cons_mk (Below.trod laidOut (by kernel_rfl) (of_decide_eq_true (by kernel_rfl)) k0 hg (fun x hx => hW'.lt x (by first | (simp [hx]; done) | simp at hx))) (trodAll_cons_mk (Below.trod laidOut (by kernel_rfl) (of_decide_eq_true (by kernel_rfl)) k1 hg (fun x hx => hW'.lt x (by first | (simp [hx]; done) | simp at hx))) trodAll_mk0)), rfl, hg.frame _, fun h => by cases h⟩

noncomputable def laidWorld (os : Os) : World :=
  { World.holding Tryz.prog os ⟨#[], #[], []⟩ with heap := (World.holding Tryz.prog os ⟨#[], #[], []⟩).heap.modify 0 fun
      | .cells _ t frozen => .cells #[.iface 206 (.agg #[.pointer (some ⟨2, 155, none⟩)])] t frozen
      | o => o }
theorem laid_met (os : Os) : laidMetH Tryz.prog Rows.fnTreBackRow.laid ((laidWorld os).forCall (fun _ _ => 0) ⟨#[], #[.slice none 0 0, .slice none 0 0], []⟩).memory :=
  laidMetH_of_parts (laidMet_nil _ _) (by kernel_rfl)
theorem reads (os : Os) {H : Type} (enc : TypeId × Value → H) : ∃ places, DataW.whole enc Tryz.prog ((laidWorld os).forCall (fun _ _ => 0) ⟨#[], #[.slice none 0 0, .slice none 0 0], []⟩).memory Tryz.f6.params.toList Rows.fnTreBackSpec.vars false #[Value.slice none 0 0, .slice none 0 0].toList 8 = some ([.nil, .nil], [], places) :=
  ⟨[], by kernel_rfl⟩

set_option maxRecDepth 100000 in
theorem lifted (os : Os) (started : os.Started) (H : Type) (enc : TypeId × Value → H) (F : Stop.Interp) :
    ReturnsInHanded {} Tryz.checked os 6 .any ((OpenSpec.ofChange Rows.fnTreBackSpec).preRow enc Tryz.prog Tryz.f6 Rows.fnTreBackRow.domain false Rows.fnTreBackRow.laid) (((OpenSpec.ofChange Rows.fnTreBackSpec).at F).post enc Tryz.prog Tryz.f6 false true false false) := by
  obtain ⟨places, hx⟩ := reads os enc
  refine returnsInHanded_of_row (C := Tryz.checked) (s := OpenSpec.ofChange Rows.fnTreBackSpec) own started (by kernel_rfl) Tryz.func6
    (witness_row_at (enc := enc) (C := Tryz.checked) false (laidWorld os) #[.slice none 0 0, .slice none 0 0] rfl (by kernel_rfl) (by kernel_rfl) (by kernel_rfl)
      (OpenSpec.preRow_of_cond 8 hx (by kernel_rfl) (fun k hk => by cases hk) (by kernel_rfl) (laid_met os))) ?_
  intro W base args ds gs before hval hW _ _ _ hL _ _
  exact contract H enc W base args ds gs before hval hW hL

theorem said : Rows.FnTreBackSaid :=
  OpenClaim.holds_of_cond 6 Tryz.f6 rfl rfl rfl rfl rfl rfl rfl ⟨rfl, rfl, rfl, rfl, rfl⟩ rfl rfl rfl rfl rfl (by kernel_rfl) Tryz.func6 (by kernel_rfl)
    (of_decide_eq_true (by kernel_rfl)) (by unfold Func.isWrapper; first | (rw [if_pos (by decide +kernel)]; kernel_rfl) | (rw [if_neg (by decide +kernel)]; exact ⟨rfl, rfl⟩))
    (fun os started H enc _ F => by rw [OpenClaim.pre_eq_preRow]; exact lifted os started H enc F)
theorem plain (f : FuncId) (fn : Func) (hf : Tryz.pinned.checked.prog.funcNamed "loop.example/chartulary/laws.FnTreBack" = some f) (hfn : Tryz.pinned.checked.prog.funcs[f]? = some fn) :
    true = Tryz.pinned.checked.prog.looks [] ∧ ∀ (j : Nat) t, fn.params[j]? = some t → Tryz.pinned.checked.prog.wantsStandIn t = false := by
  obtain rfl : f = 6 := Option.some.inj ((show Tryz.prog.funcNamed "loop.example/chartulary/laws.FnTreBack" = some 6 by kernel_rfl).symm.trans hf) |>.symm
  obtain rfl : fn = Tryz.f6 := (Option.some.inj (Tryz.func6.symm.trans hfn)).symm
  refine ⟨by kernel_rfl, fun j t ht => ?_⟩
  rw [Tryz.params6] at ht
  obtain rfl : t = 22 := by simpa using Array.mem_of_getElem? ht
  exact (show Tryz.prog.wantsStandIn 22 = false by kernel_rfl)
theorem proved : Rows.FnTreBackCardSaid :=
  Claim7.holds_tied_plain_at .later [] _ _ _ _ said (fun _ h => by cases h) (by kernel_rfl) (fun _ h => by cases h) fnTreBack_row_tie rfl ⟨rfl, rfl⟩ (by kernel_rfl) rfl plain (by kernel_rfl)
#print axioms proved
end Go.Proofs.YthfffpdkmoclbaaGreatDoor.fnTreBack
