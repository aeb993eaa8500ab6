/-
  Of every code: what drawn ids lead to in a drawn pool the program tells as the specification does: it is there, each id once, rising; what it names is told, too, or is not there; all is there just if nothing lacks; and what is told leads to itself. The code reads as it did. errors.errorType holds what the program's text lays; the card ties it.
-/
import Derived.Test.YthfffpdkmoclbaaGreatDoorCards
import Derived.Test.YthfffpdkmoclbaaGreatDoorTie
import Derived.WalkKit
import Derived.ProofKit
import Derived.OpenShut
import Derived.ShutString
import Derived.Below
import Derived.Carry
import Derived.LaidLaws
import Derived.Test.YthfffpdkmoclbaaGreatDoorMg01
import Derived.LaidHandle
import Derived.Deep.DeepHandedRow
import Derived.Test.YthfffpdkmoclbaaGreatDoorMg41
import Derived.Test.YthfffpdkmoclbaaGreatDoorMg35
import Derived.Test.YthfffpdkmoclbaaGreatDoorMg42
namespace Go.Proofs.YthfffpdkmoclbaaGreatDoor.fnPolReach
open Go.ChangeShapes Go.WideShapes Go.ChangeAt Go.RowKit
open Go.ChangeMaps (open_string shut_string)
set_option linter.unusedVariables false

theorem own : ownKnob Tryz.prog.godebug = none := by kernel_rfl
theorem laidOut : laidOutB Tryz.prog = true := by kernel_rfl

theorem et : Tryz.prog.globalNamed "errors.errorType" = some 0 := by kernel_rfl
theorem rt : (Tryz.prog.cutTypes.find? (·.1 == "internal/reflectlite.rtype")).map (·.2) = some 206 := by kernel_rfl
theorem oneRow : ((List.range 282).filter fun t => Tryz.prog.rowNamed t [101, 114, 114, 111, 114]) = [155] := by kernel_rfl
theorem tsize : Tryz.prog.types.size = 282 := by kernel_rfl
theorem handle_of_laid {W : World} (h : laidMetH Tryz.prog Rows.fnPolReachRow.laid W) : Go.Proofs.YthfffpdkmoclbaaGreatDoor.W.TypeCell W := by
  have h' : laidMet Tryz.prog [] W ∧ handlesMet Tryz.prog Rows.fnPolReachRow.laid W := h
  obtain ⟨name, u, ty, e1, e2, e3, e4, e5⟩ := h'.2 _ (List.mem_singleton.2 rfl)
  have en : name = [101, 114, 114, 111, 114] := (Option.some.inj e1).symm
  subst en
  obtain rfl := Option.some.inj (rt.symm.trans e2)
  have hm : ty ∈ (List.range 282).filter fun t => Tryz.prog.rowNamed t [101, 114, 114, 111, 114] := List.mem_filter.2 ⟨List.mem_range.2 (by rw [← tsize]; exact e3), e4⟩
  rw [oneRow] at hm
  obtain rfl := List.mem_singleton.1 hm
  have hh : typeHandle Tryz.prog 155 = .pointer (some ⟨2, 155, none⟩) := by kernel_rfl
  rw [hh] at e5
  simpa [Go.Proofs.YthfffpdkmoclbaaGreatDoor.W.TypeCell] using World.var?_cell et e5 0

open Go.Proofs.YthfffpdkmoclbaaGreatDoor.W Go.Proofs.YthfffpdkmoclbaaGreatDoor.M in
theorem getV_found (L : List PI) (n : Int) (t : ByteArray) (hr : RiseP L) (h : findP L n = some t) : getV L n = .tuple #[.string t, .bool true] := by
  unfold getV; rw [getP_find L n hr, h]
open Go.Proofs.YthfffpdkmoclbaaGreatDoor.W Go.Proofs.YthfffpdkmoclbaaGreatDoor.M in
theorem getV_bool (L : List PI) (n : Int) (hr : RiseP L) : ∃ s : ByteArray, getV L n = .tuple #[.string s, .bool (findP L n).isSome] := by
  unfold getV; rw [getP_find L n hr]
  cases findP L n with
  | none => exact ⟨_, rfl⟩
  | some t => exact ⟨_, rfl⟩
open Go.Proofs.YthfffpdkmoclbaaGreatDoor.W Go.Proofs.YthfffpdkmoclbaaGreatDoor.M in
theorem split2 (L : List PI) (R N : List Int) (al : Bool) (h : ReachIs L R N al) : (okP L = false ∧ N = [] ∧ al = false) ∨ (okP L = true ∧ (R.length ≤ 700 → IsLed L R N al)) := by
  cases hk : okP L
  · exact .inl ⟨rfl, h.none hk⟩
  · exact .inr ⟨rfl, fun hr => h.led hk hr⟩
open Go.Proofs.YthfffpdkmoclbaaGreatDoor.W Go.Proofs.YthfffpdkmoclbaaGreatDoor.M in
theorem step9 (L : List PI) (M : List Int) (d : Bool) (i : Nat) (hi : i < M.length) (h : d = true ↔ ∃ k, ∃ hk : k < M.length, k < i ∧ findP L M[k] = none) : (d || !(findP L M[i]).isSome) = true ↔ ∃ k, ∃ hk : k < M.length, k < i + 1 ∧ findP L M[k] = none := by
  rw [Bool.or_eq_true, h, Bool.not_eq_true']
  constructor
  · rintro (⟨k, hk, h1, h2⟩ | h1)
    · exact ⟨k, hk, by omega, h2⟩
    · exact ⟨i, hi, by omega, by cases hf : findP L M[i] with | none => rfl | some t => rw [hf] at h1; cases h1⟩
  · rintro ⟨k, hk, h1, h2⟩
    rcases Nat.lt_or_eq_of_le (Nat.le_of_lt_succ h1) with h3 | rfl
    · exact .inl ⟨k, hk, h3, h2⟩
    · exact .inr (by rw [h2]; rfl)
open Go.Proofs.YthfffpdkmoclbaaGreatDoor.W Go.Proofs.YthfffpdkmoclbaaGreatDoor.M in
theorem step8 (N : List Int) (m : Int) (k : Nat) (hk : k < N.length) (e : Bool) (h : e = decide (m ∈ N.take k)) : (e || (N[k] == m)) = decide (m ∈ N.take (k + 1)) := by
  have h1 : m ∈ N.take (k + 1) ↔ m ∈ N.take k ∨ N[k] = m := by
    rw [List.take_succ_eq_append_getElem hk, List.mem_append, List.mem_singleton]
    constructor
    · rintro (h | h)
      · exact .inl h
      · exact .inr h.symm
    · rintro (h | h)
      · exact .inl h
      · exact .inr h.symm
  rw [Bool.eq_iff_iff, Bool.or_eq_true, h, decide_eq_true_eq, decide_eq_true_eq, beq_iff_eq, h1]
open Go.Proofs.YthfffpdkmoclbaaGreatDoor.W Go.Proofs.YthfffpdkmoclbaaGreatDoor.M in
theorem queNew (w : World) : Que w.heap.size (w.alloc (.cells #[] 3)) (.slice (some ⟨w.heap.size, 0, none⟩) ([] : List Int).length 0) [] := Que.of_own (by
  have := World.ownsRow_lit (base := w.heap.size) (e := 3) (size := 1) w #[] 0 (Nat.le_refl _) (by unfold maxLen; omega) rfl
  simpa [cellsI] using this)
open Go.Proofs.YthfffpdkmoclbaaGreatDoor.W Go.Proofs.YthfffpdkmoclbaaGreatDoor.M in
set_option maxRecDepth 100000 in
set_option maxHeartbeats 20000000 in
theorem walk (a0 : Option Addr) (len0 cap0 : Nat) (z0 : List Int) (w : World) (hg : Go.Proofs.YthfffpdkmoclbaaGreatDoor.W.TypeCell w) (s0 : Go.Proofs.YthfffpdkmoclbaaGreatDoor.W.Src w a0 len0 cap0 (fun i => z0.getD i 0)) :
    Calls Tryz.prog 5 #[.slice a0 len0 cap0] w fun e w' => e = .returned (.bool true) ∧ Below w.heap.size w w' := by
  have HS : Hid (W.Src w a0 len0 cap0 (fun i => z0.getD i 0)) := s0
  clear s0
  have HG : Hid (TypeCell w) := hg
  have hgl := hg.lt
  clear hg
  by_cases h : 1048576 < len0
  · go_enter Tryz.func5, Tryz.ntmps5
    go_wp2
    go_ret
    exact ⟨rfl, Below.refl _ _⟩
  have t1 : True := trivial
  obtain ⟨i0, hi, hz0, hz1, hz2⟩ := info_parts infoI
  go_enter Tryz.func5, Tryz.ntmps5
  go_wp2_with (first
    | (go_at_call 27; refine (drawPolReach_any _ _ _ _ _ HS.out).mono ?_; rintro e w1 ⟨⟨v1, u1, L, R, rfl, hL, hSL, hR, hRI, O1, U1⟩, B⟩; obtain ⟨A1, c1, rfl, LL⟩ := rdP_of_own O1; obtain ⟨AR, cR, rfl, II⟩ := rdI_of_own U1; have HSL : Hid (shP L) := hSL; have HRI : Hid (∀ r ∈ R, inI r) := hRI; clear hSL hRI HS O1 U1)
    | (go_at_call_of 28 AR; have _t := t1; refine (polReach_impl A1 c1 L AR cR R _ (HG.out.below B hgl) LL II (by omega) (by omega) (shSizes HSL.out) HRI.out).mono ?_; rintro e w2 ⟨⟨vn, N, al, rfl, hN, on⟩, hb⟩; obtain ⟨AN, cN, rfl, NN⟩ := rdI_of_own on; have hNl := hN.len; have HN : Hid (ReachIs L R N al) := hN; replace LL := LL.up hb; replace II := II.up hb; replace B := B.trans (hb.mono B.size); clear on hb hN _t t1)
    | (go_at_call_of 29 AR; refine (polReach_spec A1 c1 L AR cR R _ LL II (by omega) (by omega) (shSizes HSL.out)).mono ?_; rintro e w3 ⟨⟨vm, N', al', rfl, hN', om⟩, hb⟩; obtain ⟨rfl, rfl⟩ := HN.out.uniq hN'; obtain ⟨AM, cM, rfl, MM⟩ := rdI_of_own om; replace LL := LL.up hb; replace II := II.up hb; replace NN := NN.up hb; replace B := B.trans (hb.mono B.size); clear om hb hN')
    | (go_at_call_of 22 AM; refine (chInts_two AN AM cN cM N _ NN MM (by omega)).mono ?_; rintro e w4 ⟨rfl, hb⟩; replace LL := LL.up hb; replace II := II.up hb; replace NN := NN.up hb; replace B := B.trans (hb.mono B.size); clear MM hb; have tz : True := trivial)
    | (go_at_call_of 13 A1; have _t := tz; refine (polOk_spec A1 c1 L _ LL (by omega) (shSizes HSL.out)).mono ?_; rintro e w5 ⟨rfl, hb⟩; replace LL := LL.up hb; replace II := II.up hb; replace NN := NN.up hb; replace B := B.trans (hb.mono B.size); clear hb _t tz; have B6 : Below w5.heap.size w5 (w5.alloc (.cells #[] 3)) := (Below.refl _ _).alloc (Nat.le_refl _) _; have z6 := B6.size; have q6 := queNew w5; have I6 := II.up B6; have l6 : ([] : List Int).length + R.length ≤ 1000000 := (by simp; omega); rcases split2 L R N al HN.out with ⟨hk, rfl, rfl⟩ | ⟨hk, hl⟩ <;> rw [hk])
    | (go_at_call 15; refine (chOk_o _).mono ?_; rintro e wA ⟨rfl, rfl⟩)
    | (at_builtin; refine wpList_append_que _ rfl _ _ 41 rfl w5.heap.size i0 Tryz.underlying41 hi hz0 hz1 hz2 _ _ rfl q6 AR cR R rfl I6 l6 z6 ?_; intro v7 w7 q7 g7 d7; have B7 := B6.grown g7 z6 (queAt q6); rw [List.nil_append] at q7; clear q6 g7 d7 B6 z6 I6))
  · go_ret
    exact ⟨rfl, B⟩
  · have HK : Hid (okP L = true) := hk
    have HLed : Hid (IsLed L R N al) := hl (by omega)
    clear hk hl
    have HR : Hid (RiseP L) := (okP_rise L HK.out).1
    go_loopw [9, 10] (fun v iv wr => ∃ (j : Nat) (M : List Int), j ≤ N.length ∧ iv = .int .i64 j ∧ Hid (InIs L R N j M) ∧ Que w5.heap.size wr v M ∧ M.length ≤ 5 + 60 * j ∧ Below w5.heap.size w5 wr) (fun _ i _ => N.length - (intOf i).toNat)
    case atStart => exact ⟨0, R, Nat.zero_le _, rfl, InIs.start L R N, q7, by omega, B7⟩
    case round =>
      obtain ⟨j, M, hj, rfl, HM, que, hMl, hb⟩ := hrel
      have hsz := hb.size
      clear q7 B7
      by_cases hlt : j < N.length
      · obtain ⟨t, hft⟩ := HLed.out.found j hlt
        obtain ⟨b, o, rfl, hbl, k1⟩ := (NN.below hb (Nat.le_refl _)) j hlt
        have HNX : Hid (InIs L R N (j + 1) (M ++ kidsN t)) := HM.out.next hlt hft
        have HV : Hid (getV L (N[j]) = .tuple #[.string t, .bool true]) := getV_found L _ t HR.out hft
        have hts : t.size ≤ 1048576 := by
          have hm := findP_in L _ t hft
          have := HSL.out _ hm
          simp only at this
          omega
        have hUl := kidsN_len t
        have LLr := (LL.below hb (Nat.le_refl _)).mono hsz
        have Br := B.trans (hb.mono B.size)
        obtain ⟨U, hU⟩ : ∃ U, kidsN t = U := ⟨_, rfl⟩
        have HU : Hid (∀ W, TypeCell W → Calls Tryz.prog 30 #[.string t] W fun e w' => (∃ v, e = .returned v ∧ w'.ownsRow W.heap.size 3 1 v U.length (cellsI U)) ∧ Below W.heap.size W w') := (show ∀ W, _ → Calls _ _ _ _ _ from fun W hW => hU ▸ kids_impl t W hts hW)
        rw [hU] at HNX hUl
        have hne : Nonempty (Ext wr) := ⟨⟨wr, Below.refl _ _⟩⟩
        clear hft hU hts
        rcases Nat.eq_zero_or_pos j with rfl | hj0
        · obtain ⟨n, hn⟩ : ∃ n, N[0] = n := ⟨_, rfl⟩
          rw [hn] at k1 HV
          rw [Nat.add_zero] at k1
          clear hn
          go_wp2_with (go_at_call 16; refine (polGet_impl A1 c1 L n _ LLr (by omega)).mono ?_; rw [HV.out]; rintro e w' ⟨rfl, rfl⟩)
          refine region_ext (by kernel_rfl) (by kernel_rfl) ?_
          repeat (go_big_quiet_step (fail))
          refine wpQuiet_nil ?_
          rintro _ ⟨x, rfl⟩
          have hbx := x.below
          have hb2 := hb.trans (hbx.mono hsz)
          have que2 := que.below hbx
          have B2 := Br.trans (hbx.mono Br.size)
          go_wp2_with (first
            | (go_at_call 30; refine (HU.out _ (HG.out.below B2 hgl)).mono ?_; rintro e w9 ⟨⟨v9, rfl, o9⟩, hb9⟩; obtain ⟨A9, c9, rfl, rd9⟩ := rdI_of_own o9; have que9 := que2.below hb9; have hb29 := hb2.trans (hb9.mono hb2.size); have z9 := hb29.size)
            | (at_builtin; refine wpList_append_que _ rfl _ _ 41 rfl w5.heap.size i0 Tryz.underlying41 hi hz0 hz1 hz2 _ _ rfl que9 A9 c9 U rfl rd9 (by omega) z9 ?_; intro v10 w10 que10 g10 d10; have hb10 := hb29.grown g10 z9 (queAt que9)))
          go_roundw
          case rel => exact ⟨1, M ++ U, by omega, rfl, HNX, que10, by simp; omega, hb10⟩
          case measure => simp [intOf]; omega
        · obtain ⟨j, rfl⟩ : ∃ j', j = j' + 1 := ⟨j - 1, by omega⟩
          obtain ⟨b', o', e9, _, k2⟩ := (NN.below hb (Nat.le_refl _)) j (by omega)
          simp only [Option.some.injEq, Addr.mk.injEq] at e9
          obtain ⟨rfl, rfl, _⟩ := e9
          have hlt9 : N[j] < N[j + 1] := List.pairwise_iff_getElem.1 HLed.out.rise j (j + 1) (by omega) hlt (by omega)
          obtain ⟨n, hn⟩ : ∃ n, N[j + 1] = n := ⟨_, rfl⟩
          obtain ⟨n', hn'⟩ : ∃ n', N[j] = n' := ⟨_, rfl⟩
          rw [hn] at k1 HV hlt9
          rw [hn'] at k2 hlt9
          clear hn hn'
          have y1 : ¬ n ≤ n' := by omega
          have y2 : (0 : Int) < ((j + 1 : Nat) : Int) := by omega
          have y3 : (0 : Int) < (j : Int) + 1 := by omega
          have x1 : ∀ x : Ext wr, x.world.cell? ⟨b, o + (j + 1), none⟩ = some (.int .i64 n) := fun x => x.cell k1
          have x2 : ∀ x : Ext wr, x.world.cell? ⟨b, o + j, none⟩ = some (.int .i64 n') := fun x => x.cell k2
          go_wp2_with (go_at_call 16; refine (polGet_impl A1 c1 L n _ LLr (by omega)).mono ?_; rw [HV.out]; rintro e w' ⟨rfl, rfl⟩)
          refine region_ext (by kernel_rfl) (by kernel_rfl) ?_
          repeat (go_big_quiet_step (fail))
          refine wpQuiet_nil ?_
          rintro _ ⟨x, rfl⟩
          have hbx := x.below
          have hb2 := hb.trans (hbx.mono hsz)
          have que2 := que.below hbx
          have B2 := Br.trans (hbx.mono Br.size)
          go_wp2_with (first
            | (go_at_call 30; refine (HU.out _ (HG.out.below B2 hgl)).mono ?_; rintro e w9 ⟨⟨v9, rfl, o9⟩, hb9⟩; obtain ⟨A9, c9, rfl, rd9⟩ := rdI_of_own o9; have que9 := que2.below hb9; have hb29 := hb2.trans (hb9.mono hb2.size); have z9 := hb29.size)
            | (at_builtin; refine wpList_append_que _ rfl _ _ 41 rfl w5.heap.size i0 Tryz.underlying41 hi hz0 hz1 hz2 _ _ rfl que9 A9 c9 U rfl rd9 (by omega) z9 ?_; intro v10 w10 que10 g10 d10; have hb10 := hb29.grown g10 z9 (queAt que9)))
          go_roundw
          case rel => exact ⟨j + 1 + 1, M ++ U, by omega, by go_num, HNX, que10, by simp; omega, hb10⟩
          case measure => simp [intOf]; omega
      · obtain rfl : j = N.length := by omega
        obtain ⟨AQ, cQ, rfl, QQ⟩ := que.rd
        have LL9 := (LL.below hb (Nat.le_refl _)).mono hsz
        have NN9 := (NN.below hb (Nat.le_refl _)).mono hsz
        have B9 := B.trans (hb.mono B.size)
        have hMl2 : M.length ≤ 50000 := by omega
        obtain ⟨W9, hW9⟩ : ∃ W9, W9 = wr := ⟨_, rfl⟩
        subst hW9
        clear que hb hsz hMl
        go_wp2
        go_loopw [13, 14] (fun lv iv wr => ∃ (i : Nat) (d : Bool), i ≤ M.length ∧ iv = .int .i64 i ∧ lv = .bool d ∧ Hid (d = true ↔ ∃ k, ∃ hk : k < M.length, k < i ∧ findP L M[k] = none) ∧ Below W9.heap.size W9 wr) (fun _ i _ => M.length - (intOf i).toNat)
        case atStart => exact ⟨0, false, Nat.zero_le _, rfl, rfl, (show _ ↔ _ from ⟨(fun h => by cases h), fun ⟨k, _, h, _⟩ => by omega⟩), Below.refl _ _⟩
        case round =>
          obtain ⟨i, d, hi9, rfl, rfl, HD, hb⟩ := hrel
          have hsz := hb.size
          by_cases hlt9 : i < M.length
          · obtain ⟨b, o, rfl, hbl, k1⟩ := (QQ.below hb (Nat.le_refl _)) i hlt9
            obtain ⟨sv, hsv⟩ := getV_bool L (M[i]) HR.out
            have hth := HM.out.there HLed.out (M[i]) (List.getElem_mem hlt9)
            have HDN : Hid ((d || !(findP L M[i]).isSome) = true ↔ ∃ k, ∃ hk : k < M.length, k < i + 1 ∧ findP L M[k] = none) := (show _ ↔ _ from step9 L M d i hlt9 HD.out)
            obtain ⟨th, hthe⟩ : ∃ th, (findP L M[i]).isSome = th := ⟨_, rfl⟩
            rw [hthe] at hth hsv HDN
            obtain ⟨m, hm⟩ : ∃ m, M[i] = m := ⟨_, rfl⟩
            rw [hm] at hth hsv k1
            have HTH : Hid (decide (m ∈ N) = th) := hth
            have HV : Hid (getV L m = .tuple #[.string sv, .bool th]) := hsv
            clear hthe hm hth hsv HD
            have LLr := (LL9.below hb (Nat.le_refl _)).mono hsz
            obtain ⟨WA, hWA⟩ : ∃ WA, WA = wr := ⟨_, rfl⟩
            subst hWA
            go_wp2_with (go_at_call 16; refine (polGet_impl A1 c1 L m _ LLr (by omega)).mono ?_; rw [HV.out]; rintro e w' ⟨rfl, rfl⟩)
            go_loopw [17, 18] (fun hv kv wr => ∃ (k : Nat) (e : Bool), k ≤ N.length ∧ kv = .int .i64 k ∧ hv = .bool e ∧ Hid (e = decide (m ∈ N.take k)) ∧ Below WA.heap.size WA wr) (fun _ k _ => N.length - (intOf k).toNat)
            case atStart => exact ⟨0, false, Nat.zero_le _, rfl, rfl, (show _ = _ by simp), Below.refl _ _⟩
            case round =>
              obtain ⟨k, e, hk9, rfl, rfl, HE, hbA⟩ := hrel
              have hszA := hbA.size
              have hb2 := hb.trans (hbA.mono hsz)
              have hsz2 := hb2.size
              by_cases hltk : k < N.length
              · obtain ⟨b2, o2, rfl, hbl2, k2⟩ := (NN9.below hb2 (Nat.le_refl _)) k hltk
                have k3 := (hbA.cell (p := ⟨b, _, none⟩) (show b < WA.heap.size by omega)).trans k1
                have HEN : Hid ((e || (N[k] == m)) = decide (m ∈ N.take (k + 1))) := (show _ = _ from step8 N m k hltk e HE.out)
                obtain ⟨n, hn⟩ : ∃ n, N[k] = n := ⟨_, rfl⟩
                rw [hn] at k2 HEN
                have x1 : ∀ x : Ext wr, x.world.cell? ⟨b2, o2 + k, none⟩ = some (.int .i64 n) := fun x => x.cell k2
                have x2 : ∀ x : Ext wr, x.world.cell? ⟨b, o + i, none⟩ = some (.int .i64 m) := fun x => x.cell k3
                have hne : Nonempty (Ext wr) := ⟨⟨wr, Below.refl _ _⟩⟩
                clear hn HE
                cases e
                · cases hq : (n == m)
                  · rw [hq] at HEN
                    go_wp2
                    refine region_ext (by kernel_rfl) (by kernel_rfl) ?_
                    repeat (go_big_quiet_step (fail))
                    refine wpQuiet_nil ?_
                    rintro _ ⟨x, rfl⟩
                    have hbx := x.below
                    go_wp2
                    go_roundw
                    case rel => exact ⟨k + 1, false, by omega, by go_num, rfl, HEN, hbA.trans (hbx.mono hszA)⟩
                    case measure => simp [intOf]; omega
                  · rw [hq] at HEN
                    go_wp2
                    refine region_ext (by kernel_rfl) (by kernel_rfl) ?_
                    repeat (go_big_quiet_step (fail))
                    refine wpQuiet_nil ?_
                    rintro _ ⟨x, rfl⟩
                    have hbx := x.below
                    go_wp2
                    go_roundw
                    case rel => exact ⟨k + 1, true, by omega, by go_num, rfl, HEN, hbA.trans (hbx.mono hszA)⟩
                    case measure => simp [intOf]; omega
                · go_wp2
                  refine region_ext (by kernel_rfl) (by kernel_rfl) ?_
                  repeat (go_big_quiet_step (fail))
                  refine wpQuiet_nil ?_
                  rintro _ ⟨x, rfl⟩
                  have hbx := x.below
                  have HET : Hid (true = decide (m ∈ N.take (k + 1))) := (show _ = _ by have := HEN.out; simpa using this)
                  go_wp2
                  go_roundw
                  case rel => exact ⟨k + 1, true, by omega, by go_num, rfl, HET, hbA.trans (hbx.mono hszA)⟩
                  case measure => simp [intOf]; omega
              · obtain rfl : k = N.length := by omega
                have he : e = th := by
                  have := HE.out
                  rw [List.take_length] at this
                  exact this.trans HTH.out
                subst he
                cases e
                · cases d
                  · go_wp2
                    go_roundw
                    case rel => exact ⟨i + 1, true, by omega, by go_num, rfl, HDN, hb2⟩
                    case measure => simp [intOf]; omega
                  · go_wp2
                    go_roundw
                    case rel => exact ⟨i + 1, true, by omega, by go_num, rfl, HDN, hb2⟩
                    case measure => simp [intOf]; omega
                · cases d
                  · go_wp2
                    go_roundw
                    case rel => exact ⟨i + 1, false, by omega, by go_num, rfl, HDN, hb2⟩
                    case measure => simp [intOf]; omega
                  · go_wp2
                    go_roundw
                    case rel => exact ⟨i + 1, true, by omega, by go_num, rfl, HDN, hb2⟩
                    case measure => simp [intOf]; omega
          · obtain rfl : i = M.length := by omega
            have LLr := (LL9.below hb (Nat.le_refl _)).mono hsz
            have NNr := (NN9.below hb (Nat.le_refl _)).mono hsz
            have Br := B9.trans (hb.mono B9.size)
            have HALL : Hid ((al == !d) = true) := (show _ = _ from HM.out.all HLed.out d ⟨fun h => by obtain ⟨k, hk, _, h2⟩ := HD.out.1 h; exact ⟨k, hk, h2⟩, fun ⟨k, hk, h2⟩ => HD.out.2 ⟨k, hk, hk, h2⟩⟩)
            have hall := HALL.out
            have HNI : Hid (∀ n ∈ N, inI n) := (show ∀ n, _ → _ from HLed.out.inI HK.out)
            clear HD
            go_wp2_with (first
              | (go_at_call 28; refine (polReach_impl A1 c1 L AN cN N _ (HG.out.below Br hgl) LLr NNr (by omega) (by omega) (shSizes HSL.out) HNI.out).mono ?_; rintro e w11 ⟨⟨v11, N2, al2, rfl, hN2, o11⟩, hb11⟩; obtain rfl := HLed.out.again N2 al2 (hN2.led HK.out (by omega)); obtain ⟨A11, c11, rfl, N11⟩ := rdI_of_own o11; have NN11 := NNr.up hb11; have B11 := Br.trans (hb11.mono Br.size); clear hN2 o11)
              | (go_at_call 22; refine (chInts_two A11 _ c11 _ _ _ N11 NN11 (by omega)).mono ?_; rintro e w12 ⟨rfl, hb12⟩; replace B11 := B11.trans (hb12.mono B11.size))
              | (go_at_call 15; refine (chOk_o _).mono ?_; rintro e w13 ⟨rfl, rfl⟩))
            go_ret
            exact ⟨rfl, B11⟩

set_option maxRecDepth 100000 in
theorem contract (H : Type) (enc : TypeId × Value → H) (W : World) (base : Nat) (args : Array Value) (ds gs : List (DataW H)) (before : List MemPlace)
    (hval0 : ∀ (j : Nat) t v, Tryz.f5.params[j]? = some t → args[j]? = some v → Value.okWide Tryz.prog W .any base t v)
    (hW : DataW.Whole enc Tryz.prog Tryz.f5.params.toList Rows.fnPolReachSpec.vars false W args.toList ds gs before) (hL : laidMetH Tryz.prog Rows.fnPolReachRow.laid W) :
    Calls Tryz.prog 5 args W fun e W' => ∃ v, e = .returned v ∧ Rows.fnPolReachSpec.post enc Tryz.prog Tryz.f5 false true false false W args v W' := by
  have hval := hval0
  have hW' := hW
  obtain ⟨p, q, hA0, hV, rfl, hfz, hnd⟩ := hW
  have hA : DataW.TrodAll enc Tryz.prog W 0 (fun _ => true) true Tryz.f5.params.toList args.toList ds p := hA0
  rw [Tryz.params5] at hA hval
  obtain ⟨v0, vs0, d0, ds0, p0, q0, hargs, rfl, rfl, h0, r0⟩ := trodAll_cons hA
  obtain ⟨rfl, rfl, rfl⟩ := trodAll_nil r0
  obtain rfl : args = #[v0] := by cases args; simp_all
  obtain ⟨rfl, rfl⟩ := trodVars_none hV
  have k0 := h0
  obtain ⟨a0, len0, cap0, rfl⟩ := okWide_slice Tryz.underlying22 (hval 0 22 v0 rfl rfl)
  obtain ⟨z0, s0⟩ : ∃ zs : List Int, Go.Proofs.YthfffpdkmoclbaaGreatDoor.W.Src W a0 len0 cap0 (fun i => zs.getD i 0) := by
    obtain ⟨fuel, hf⟩ := h0
    rcases open_ints Tryz.underlying22 Tryz.underlying5 (by kernel_rfl) hf with ⟨hcs, _⟩ | ⟨x, l, c, zs, hcs, _, hl, hm, hz, _, hcell, hwz⟩
    · simp [Value.cells] at hcs
      obtain ⟨rfl, rfl, rfl⟩ := hcs
      exact ⟨[], Go.Proofs.YthfffpdkmoclbaaGreatDoor.W.src_of W _ _ _ [] (.inl ⟨rfl, rfl, rfl, rfl⟩)⟩
    · simp [Value.cells] at hcs
      obtain ⟨rfl, rfl, rfl⟩ := hcs
      exact ⟨zs, Go.Proofs.YthfffpdkmoclbaaGreatDoor.W.src_of W _ _ _ zs (.inr ⟨_, rfl, hl, hm, by simpa using hz, hcell, hwz⟩)⟩
  clear hA0 hval0
  simp only [List.append_nil] at hW'
  refine (walk a0 len0 cap0 z0 W (handle_of_laid hL) s0).mono fun e W' ⟨he, hg⟩ => ?_
  subst he
  exact ⟨_, rfl, _, _, _, [], _, [], hW', (trodAll_cons_mk (shut_bool Tryz.underlying4 _) trodAll_mk0), (trodAll_cons_mk (Below.trod laidOut (by kernel_rfl) (of_decide_eq_true (by kernel_rfl)) k0 hg (fun x hx => hW'.lt x (by first | (simp [hx]; done) | simp at hx))) trodAll_mk0), rfl, hg.frame _, fun h => by cases h⟩

noncomputable def laidWorld (os : Os) : World :=
  { World.holding Tryz.prog os ⟨#[], #[], []⟩ with heap := (World.holding Tryz.prog os ⟨#[], #[], []⟩).heap.modify 0 fun
      | .cells _ t frozen => .cells #[.iface 206 (.agg #[.pointer (some ⟨2, 155, none⟩)])] t frozen
      | o => o }
theorem laid_met (os : Os) : laidMetH Tryz.prog Rows.fnPolReachRow.laid ((laidWorld os).forCall (fun _ _ => 0) ⟨#[], #[.slice none 0 0], []⟩).memory :=
  laidMetH_of_parts (laidMet_nil _ _) (by kernel_rfl)
theorem reads (os : Os) {H : Type} (enc : TypeId × Value → H) : ∃ places, DataW.whole enc Tryz.prog ((laidWorld os).forCall (fun _ _ => 0) ⟨#[], #[.slice none 0 0], []⟩).memory Tryz.f5.params.toList Rows.fnPolReachSpec.vars false #[Value.slice none 0 0].toList 8 = some ([.nil], [], places) :=
  ⟨[], by kernel_rfl⟩

set_option maxRecDepth 100000 in
theorem lifted (os : Os) (started : os.Started) (H : Type) (enc : TypeId × Value → H) (F : Stop.Interp) :
    ReturnsInHanded {} Tryz.checked os 5 .any ((OpenSpec.ofChange Rows.fnPolReachSpec).preRow enc Tryz.prog Tryz.f5 Rows.fnPolReachRow.domain false Rows.fnPolReachRow.laid) (((OpenSpec.ofChange Rows.fnPolReachSpec).at F).post enc Tryz.prog Tryz.f5 false true false false) := by
  obtain ⟨places, hx⟩ := reads os enc
  refine returnsInHanded_of_row (C := Tryz.checked) (s := OpenSpec.ofChange Rows.fnPolReachSpec) own started (by kernel_rfl) Tryz.func5
    (witness_row_at (enc := enc) (C := Tryz.checked) false (laidWorld os) #[.slice none 0 0] rfl (by kernel_rfl) (by kernel_rfl) (by kernel_rfl)
      (OpenSpec.preRow_of_cond 8 hx (by kernel_rfl) (fun k hk => by cases hk) (by kernel_rfl) (laid_met os))) ?_
  intro W base args ds gs before hval hW _ _ _ hL _ _
  exact contract H enc W base args ds gs before hval hW hL

theorem said : Rows.FnPolReachSaid :=
  OpenClaim.holds_of_cond 5 Tryz.f5 rfl rfl rfl rfl rfl rfl rfl ⟨rfl, rfl, rfl, rfl, rfl⟩ rfl rfl rfl rfl rfl (by kernel_rfl) Tryz.func5 (by kernel_rfl)
    (of_decide_eq_true (by kernel_rfl)) (by unfold Func.isWrapper; first | (rw [if_pos (by decide +kernel)]; kernel_rfl) | (rw [if_neg (by decide +kernel)]; exact ⟨rfl, rfl⟩))
    (fun os started H enc _ F => by rw [OpenClaim.pre_eq_preRow]; exact lifted os started H enc F)
theorem plain (f : FuncId) (fn : Func) (hf : Tryz.pinned.checked.prog.funcNamed "loop.example/chartulary/laws.FnPolReach" = some f) (hfn : Tryz.pinned.checked.prog.funcs[f]? = some fn) :
    true = Tryz.pinned.checked.prog.looks [] ∧ ∀ (j : Nat) t, fn.params[j]? = some t → Tryz.pinned.checked.prog.wantsStandIn t = false := by
  obtain rfl : f = 5 := Option.some.inj ((show Tryz.prog.funcNamed "loop.example/chartulary/laws.FnPolReach" = some 5 by kernel_rfl).symm.trans hf) |>.symm
  obtain rfl : fn = Tryz.f5 := (Option.some.inj (Tryz.func5.symm.trans hfn)).symm
  refine ⟨by kernel_rfl, fun j t ht => ?_⟩
  rw [Tryz.params5] at ht
  obtain rfl : t = 22 := by simpa using Array.mem_of_getElem? ht
  exact (show Tryz.prog.wantsStandIn 22 = false by kernel_rfl)
theorem proved : Rows.FnPolReachCardSaid :=
  Claim7.holds_tied_plain_at .later [] _ _ _ _ said (fun _ h => by cases h) (by kernel_rfl) (fun _ h => by cases h) fnPolReach_row_tie rfl ⟨rfl, rfl⟩ (by kernel_rfl) rfl plain (by kernel_rfl)
#print axioms proved
end Go.Proofs.YthfffpdkmoclbaaGreatDoor.fnPolReach
