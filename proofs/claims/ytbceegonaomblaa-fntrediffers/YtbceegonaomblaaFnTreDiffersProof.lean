/-
  Of every code: what the program's TreDiffers tells of the two drawn lists of files is what the specification's tells, both ways; of two trees, each path that differs, turned to what the second tree has there, makes the second tree of the first one; a tree and itself differ nowhere. No condition.
-/
import Derived.Test.YtbceegonaomblaaRows
import Derived.Test.YtbceegonaomblaaMathTDi
import Derived.Test.YtbceegonaomblaaMathTTu3
import Derived.Test.YtbceegonaomblaaWalkChT
import Derived.Test.YtbceegonaomblaaWalkDifI
import Derived.Test.YtbceegonaomblaaWalkTreP
import Derived.Test.YtbceegonaomblaaWalkTurI
import Derived.WalkKit
import Derived.ProofKit
import Derived.OpenShut
import Derived.ShutString
import Derived.ChangeOld
import Derived.Below
namespace Go.Proofs.Ytbceegonaomblaa.fnTreDiffers
open Go.ChangeShapes Go.WideShapes Go.ChangeAt Go.RowKit
open Go.ChangeMaps (open_string shut_string)
set_option linter.unusedVariables false

theorem own : ownKnob Try.prog.godebug = none := by kernel_rfl
theorem laidOut : laidOutB Try.prog = true := by kernel_rfl

/-- WHAT THE WALK IS TOLD OF A SLICE OF INTEGERS THAT CAME IN: it is nil; or it leads to a row of 'cap' cells, the numbers 'zs' (the first 'len' are its elements, the rest its spare room), each fitting its kind. -/
def IsRow (k : IntKind) (w : World) (a : Option Addr) (len cap : Nat) (zs : List Int) : Prop :=
  (a = none ∧ len = 0 ∧ cap = 0 ∧ zs = []) ∨
  ∃ x, a = some x ∧ len ≤ cap ∧ cap ≤ maxLen ∧ zs.length = cap ∧ (∀ i, i < zs.length → w.cell? (x.add i) = some (.int k (zs.getD i 0))) ∧ ∀ n ∈ zs, (Lit.int k n).wf = true

open Go.Proofs.Ytbceegonaomblaa.W Go.Proofs.Ytbceegonaomblaa.M in
theorem sizesP {L : List TF} (h : shortF L) : ∀ j (h : j < L.length), (L[j]).pa.size ≤ 1048576 := fun j hj => (sizesF h j hj).1
open Go.Proofs.Ytbceegonaomblaa.W Go.Proofs.Ytbceegonaomblaa.M in
theorem dif_impl (A A' : Option Addr) (c c' : Nat) (L K : List TF) (D : List (List UInt8)) (w : World) (hD : D = diffD L K) (hL : RdF w.heap.size w A L) (hK : RdF w.heap.size w A' K) (hn : L.length ≤ 61) (hk : K.length ≤ 61) (sL : shortF L) (sK : shortF K) :
    Calls Try.prog 19 #[.slice A L.length c, .slice A' K.length c'] w fun e w' => (∃ X d, e = .returned (.slice X D.length d) ∧ RdT w'.heap.size w' X D) ∧ Below w.heap.size w w' := by
  refine (treDiffers_impl A A' c c' L K w hL hK (by omega) (sizesP sL) (sizesP sK)).mono ?_
  rintro e w' ⟨⟨v, rfl, o⟩, hb⟩
  subst hD
  obtain ⟨X, d, rfl, rd⟩ := rdT_of_own o
  exact ⟨⟨X, d, rfl, rd⟩, hb⟩
open Go.Proofs.Ytbceegonaomblaa.W Go.Proofs.Ytbceegonaomblaa.M in
theorem dif_spec (A A' : Option Addr) (c c' : Nat) (L K : List TF) (D : List (List UInt8)) (w : World) (hD : D = diffD L K) (hL : RdF w.heap.size w A L) (hK : RdF w.heap.size w A' K) (hn : L.length ≤ 61) (hk : K.length ≤ 61) :
    Calls Try.prog 20 #[.slice A L.length c, .slice A' K.length c'] w fun e w' => (∃ X d, e = .returned (.slice X D.length d) ∧ RdT w'.heap.size w' X D) ∧ Below w.heap.size w w' := by
  refine (treDiffers_spec A A' c c' L K w hL hK (by omega)).mono ?_
  rintro e w' ⟨⟨v, rfl, o⟩, hb⟩
  subst hD
  obtain ⟨X, d, rfl, rd⟩ := rdT_of_own o
  exact ⟨⟨X, d, rfl, rd⟩, hb⟩
open Go.Proofs.Ytbceegonaomblaa.W Go.Proofs.Ytbceegonaomblaa.M in
theorem stage_at (K : List TF) (D : List (List UInt8)) (ps i : Nat) (b : Bool) (hp : ps < 2) (hi : i < D.length) (hb : ((ps : Int) == 1) = b) : ∃ (s : ByteArray) (th : Bool), findV K ⟨(D[i]).toArray⟩ = .tuple #[.string s, .bool th] ∧ stageAt K D ps (i + 1) = stageAt K D ps i ++ (if th = b then [⟨⟨(D[i]).toArray⟩, s, !th⟩] else []) := by
  have hb' : decide (ps = 1) = b := by
    rw [← hb]
    have h01 : ps = 0 ∨ ps = 1 := by omega
    rcases h01 with rfl | rfl <;> rfl
  have hst := stage_step K D ps i hp hi
  rw [hb'] at hst
  cases hf : findF K ⟨(D[i]).toArray⟩ with
  | none =>
    refine ⟨_, false, findV_none hf, ?_⟩
    rw [hst]
    simp only [goneP, edAt, hf]
    rfl
  | some t =>
    refine ⟨t, true, findV_some hf, ?_⟩
    rw [hst]
    simp only [goneP, edAt, hf]
    rfl
open Go.Proofs.Ytbceegonaomblaa.W Go.Proofs.Ytbceegonaomblaa.M in
theorem stage_len' (L K : List TF) (ps i : Nat) (hL : L.length ≤ 61) (hK : K.length ≤ 61) : (stageAt K (diffD L K) ps i).length ≤ 122 := by
  have h1 := stage_len K (diffD L K) ps i
  have h2 := diff_len L K
  omega
open Go.Proofs.Ytbceegonaomblaa.W Go.Proofs.Ytbceegonaomblaa.M in
set_option maxRecDepth 100000 in
set_option maxHeartbeats 40000000 in
theorem walk (a0 : Option Addr) (len0 cap0 : Nat) (z0 : List Int) (w : World) (w0 : IsRow .u8 w a0 len0 cap0 z0) :
    Calls Try.prog 4 #[.slice a0 len0 cap0] w fun e w' => e = .returned (.bool true) ∧ Below w.heap.size w w' := by
  have hsrc := src_of w a0 len0 cap0 z0 w0
  have HS : Hid (Src w a0 len0 cap0 (fun i => z0.getD i 0)) := hsrc
  clear hsrc w0
  obtain ⟨i0, hi, hz0, hz1, hz2⟩ := info_parts infoE
  by_cases h : 1048576 < len0
  · go_enter Try.func4, Try.ntmps4
    go_wp2
    go_ret
    exact ⟨rfl, Below.refl _ _⟩
  · go_enter Try.func4, Try.ntmps4
    have t1 : True := trivial
    have t2 : True := trivial
    have t3 : True := trivial
    have t0 : True := trivial
    go_wp2_with (first
      | (go_at_call 18; refine (drawTreDiffers_any _ _ _ _ _ HS.out).mono ?_; rintro e w1 ⟨⟨v1, v2, L, K, rfl, hL, hSL, hK, hSK, O1, Q1⟩, B⟩; obtain ⟨A1, c1, rfl, LL⟩ := rdF_of_own O1; obtain ⟨A2, c2, rfl, KK⟩ := rdF_of_own Q1; have HSL : Hid (shortF L) := hSL; have HSK : Hid (shortF K) := hSK; obtain ⟨D, hD⟩ : ∃ D, D = diffD L K := ⟨_, rfl⟩; obtain ⟨D2, hD2⟩ : ∃ D2, D2 = diffD K L := ⟨_, rfl⟩; have hDn : D.length ≤ 122 := (by rw [hD]; have := diff_len L K; omega); have hDn2 : D2.length ≤ 122 := (by rw [hD2]; have := diff_len K L; omega); have HD : Hid (D = diffD L K) := hD; have HD2 : Hid (D2 = diffD K L) := hD2; clear hSL hSK Q1 HS hD hD2)
      | (go_at_call 19; have _t := t1; refine (dif_impl A1 A2 c1 c2 L K D _ HD.out LL KK hL hK HSL.out HSK.out).mono ?_; rintro e w2 ⟨⟨AN, cN, rfl, NN⟩, hb⟩; replace O1 := keptB O1 hb; replace LL := LL.up hb; replace KK := KK.up hb; replace B := B.trans (hb.mono B.size); clear hb _t t1)
      | (go_at_call 20; have _t := t2; refine (dif_spec A1 A2 c1 c2 L K D _ HD.out LL KK hL hK).mono ?_; rintro e w3 ⟨⟨AM, cM, rfl, MM⟩, hb⟩; replace O1 := keptB O1 hb; replace LL := LL.up hb; replace KK := KK.up hb; replace NN := NN.up hb; replace B := B.trans (hb.mono B.size); clear hb _t t2)
      | (go_at_call 10; have _t := t3; refine (chTexts_rd AN AM cN cM D _ NN MM (by omega)).mono ?_; rintro e w4 ⟨rfl, hb⟩; replace O1 := keptB O1 hb; replace LL := LL.up hb; replace KK := KK.up hb; replace NN := NN.up hb; replace B := B.trans (hb.mono B.size); clear MM hb _t t3)
      | (go_at_call 19; refine (dif_impl A2 A1 c2 c1 K L D2 _ HD2.out KK LL hK hL HSK.out HSL.out).mono ?_; rintro e w5 ⟨⟨AP, cP, rfl, PP⟩, hb⟩; replace O1 := keptB O1 hb; replace LL := LL.up hb; replace KK := KK.up hb; replace NN := NN.up hb; replace B := B.trans (hb.mono B.size); clear hb)
      | (go_at_call 20; refine (dif_spec A2 A1 c2 c1 K L D2 _ HD2.out KK LL hK hL).mono ?_; rintro e w6 ⟨⟨AQ, cQ, rfl, QQ⟩, hb⟩; replace O1 := keptB O1 hb; replace LL := LL.up hb; replace KK := KK.up hb; replace NN := NN.up hb; replace PP := PP.up hb; replace B := B.trans (hb.mono B.size); clear hb)
      | (go_at_call 10; refine (chTexts_rd AP AQ cP cQ D2 _ PP QQ (by omega)).mono ?_; rintro e w7 ⟨rfl, hb⟩; replace O1 := keptB O1 hb; replace LL := LL.up hb; replace KK := KK.up hb; replace NN := NN.up hb; replace B := B.trans (hb.mono B.size); clear PP QQ hb)
      | (go_at_call 12; have _t := t0; refine (treOk_spec A1 c1 L _ LL (by omega) (sizesF HSL.out)).mono ?_; rintro e w8 ⟨rfl, hb⟩; clear _t t0; replace O1 := keptB O1 hb; replace LL := LL.up hb; replace KK := KK.up hb; replace NN := NN.up hb; replace B := B.trans (hb.mono B.size); clear hb; obtain ⟨k, hk⟩ : ∃ k, okT L = k := ⟨_, rfl⟩; have HK : Hid (okT L = k) := hk; rw [hk]; clear hk; cases k))
    · go_wp2_with (first
        | (go_at_call 14; refine (treOk_impl A1 c1 L _ LL (by omega) (sizesF HSL.out)).mono ?_; rw [HK.out]; rintro e w9 ⟨rfl, hb⟩; replace LL := LL.up hb; replace B := B.trans (hb.mono B.size); clear hb)
        | (go_at_call 12; refine (treOk_spec A1 c1 L _ LL (by omega) (sizesF HSL.out)).mono ?_; rw [HK.out]; rintro e wA ⟨rfl, hb⟩; replace B := B.trans (hb.mono B.size); clear hb LL)
        | (go_at_call 15; refine (chOk_any _).mono ?_; rintro e wB ⟨rfl, rfl⟩))
      go_ret
      exact ⟨rfl, B⟩
    · obtain ⟨kp, hkp⟩ : ∃ kp, okT K = kp := ⟨_, rfl⟩
      have HP : Hid (okT K = kp) := hkp
      clear hkp
      have t4 : True := trivial
      cases kp
      · go_wp2_with (first
          | (go_at_call 12; have _t := t4; refine (treOk_spec A2 c2 K _ KK (by omega) (sizesF HSK.out)).mono ?_; rw [HP.out]; rintro e w9 ⟨rfl, hb⟩; replace LL := LL.up hb; replace B := B.trans (hb.mono B.size); clear hb _t t4)
          | (go_at_call 14; refine (treOk_impl A1 c1 L _ LL (by omega) (sizesF HSL.out)).mono ?_; rw [HK.out]; rintro e wA ⟨rfl, hb⟩; replace LL := LL.up hb; replace B := B.trans (hb.mono B.size); clear hb)
          | (go_at_call 12; refine (treOk_spec A1 c1 L _ LL (by omega) (sizesF HSL.out)).mono ?_; rw [HK.out]; rintro e wB ⟨rfl, hb⟩; replace B := B.trans (hb.mono B.size); clear hb LL)
          | (go_at_call 15; refine (chOk_any _).mono ?_; rintro e wC ⟨rfl, rfl⟩))
        go_ret
        exact ⟨rfl, B⟩
      · go_wp2_with (first
          | (go_at_call 12; have _t := t4; refine (treOk_spec A2 c2 K _ KK (by omega) (sizesF HSK.out)).mono ?_; rw [HP.out]; rintro e w9 ⟨rfl, hb⟩; clear _t t4; replace O1 := keptB O1 hb; replace LL := LL.up hb; replace KK := KK.up hb; replace NN := NN.up hb; replace B := B.trans (hb.mono B.size); clear hb))
        have HL9 : Hid (RdF w9.heap.size w9 A1 L) := LL
        have HK9 : Hid (RdF w9.heap.size w9 A2 K) := KK
        have HN9 : Hid (RdT w9.heap.size w9 AN D) := NN
        have HO9 : Hid (w9.ownsRow w.heap.size 51 2 (.slice A1 L.length c1) L.length (cellsF L)) := O1
        have HLe : Hid (∀ ps i, (stageAt K D ps i).length ≤ 122) := (show ∀ ps i, (stageAt K D ps i).length ≤ 122 from fun ps i => by rw [HD.out]; exact stage_len' L K ps i hL hK)
        have R0 : (w9.alloc (.cells #[] 43)).ownsRow w9.heap.size 43 3 (.slice (some ⟨w9.heap.size, 0, none⟩) 0 0) (stageAt K D 0 0).length (cellsE (stageAt K D 0 0)) := World.ownsRow_lit w9 #[] 0 (Nat.le_refl _) (by unfold maxLen; omega) rfl
        clear LL KK NN O1
        go_loopw [7, 6] (fun pv v wr => ∃ ps : Nat, ps ≤ 2 ∧ pv = .int .i64 ps ∧ wr.ownsRow w9.heap.size 43 3 v (stageAt K D ps 0).length (cellsE (stageAt K D ps 0)) ∧ Below w9.heap.size w9 wr) (fun p _ _ => 2 - (intOf p).toNat)
        case atStart => exact ⟨0, by omega, rfl, R0, (Below.refl _ _).alloc (Nat.le_refl _) _⟩
        case round =>
          clear R0
          obtain ⟨ps, hps, rfl, hown, hb⟩ := hrel
          have hsz := hb.size
          by_cases hps2 : ps < 2
          · obtain ⟨b1, hb1⟩ : ∃ b1, ((ps : Int) == 1) = b1 := ⟨_, rfl⟩
            have HB1 : Hid (((ps : Int) == 1) = b1) := hb1
            have HP2 : Hid (ps < 2) := hps2
            clear hb1
            go_wp2
            rename_i h9 hK9 hA9
            have h9' : (ps : Int) < 2 := h9
            clear h9' h9 hps2
            go_loopw [8, 6] (fun iv v wr => ∃ (i : Nat) (E : List TE), i ≤ D.length ∧ iv = .int .i64 i ∧ Hid (E = stageAt K D ps i) ∧ E.length ≤ 122 ∧ wr.ownsRow w9.heap.size 43 3 v E.length (cellsE E) ∧ Below w9.heap.size w9 wr) (fun i _ _ => D.length - (intOf i).toNat)
            case atStart => exact ⟨0, stageAt K D ps 0, Nat.zero_le _, rfl, rfl, HLe.out ps 0, hown, hb⟩
            case round =>
              clear hown hb hsz
              obtain ⟨i, E, hi2, rfl, HE, hE, hown, hb⟩ := hrel
              have hsz := hb.size
              by_cases hlt : i < D.length
              · obtain ⟨g, rfl, hg, k1⟩ := (HN9.out.below hb (Nat.le_refl _)) i hlt
                obtain ⟨s, th, hfv, hst⟩ := stage_at K D ps i b1 HP2.out hlt HB1.out
                have hle := HLe.out ps (i + 1)
                rw [hst] at hle
                rw [← HE.out] at hst hle
                obtain ⟨q, hq⟩ : ∃ q, ByteArray.mk (D[i]).toArray = q := ⟨_, rfl⟩
                rw [hq] at hst k1 hfv hle
                clear hq
                have HFV : Hid (findV K q = .tuple #[.string s, .bool th]) := hfv
                have KR := HK9.out.up hb
                have e1 := HB1.out
                clear hfv
                cases th <;> cases b1
                · have HST : Hid (E ++ [(⟨q, s, true⟩ : TE)] = stageAt K D ps (i + 1)) := hid9 (by simpa using hst.symm)
                  have hle1 : E.length + 1 ≤ 122 := (by simpa using hle)
                  clear hst hle HE
                  go_wp2_with (first
                    | (go_at_call 17; refine (treFind_impl A2 c2 K q _ KR (by omega)).mono ?_; rw [HFV.out]; rintro e w7 ⟨rfl, hb6⟩; have k2 := (hb6.cell (p := ⟨g, _, none⟩) (by show g < _; omega)).trans k1; replace hown := ownsUnder hown hb6 (Nat.le_refl _); replace hb := hb.trans (hb6.mono (by omega)); replace hsz := hb.size; clear hb6 KR)
                    | (at_builtin; refine wpList_append_own _ rfl _ _ 41 rfl w9.heap.size 43 i0 (.agg #[.string ByteArray.empty, .string ByteArray.empty, .bool false]) 3 40 Try.underlying41 hi hz0 hz1 hz2 rfl (by decide) _ _ _ rfl (hown.alloc _) ⟨w7.heap.size, 0, none⟩ 1 1 [.string q, .string s, .bool true] rfl rfl (cells_new w7 #[.string q, .string s, .bool true] 43) (by simp [Value.oneCell']) (by unfold maxLen; omega) (by omega) (by simp; omega) ?_; intro v8 w8 Q8 g8 _))
                  go_roundw
                  case rel =>
                    refine ⟨i + 1, E ++ [(⟨q, s, true⟩ : TE)], by omega, by go_num, HST, by simp; omega, ?_, ?_⟩
                    · rw [cellsE_snoc, List.length_append]; exact Q8
                    · exact growOwn (hb.alloc (by omega) _) (by simp; omega) (hown.alloc _) g8 (Nat.le_refl _)
                  case measure => simp [intOf]; omega
                · have HST : Hid (E = stageAt K D ps (i + 1)) := hid9 (by simpa using hst.symm)
                  clear hst hle HE
                  go_wp2_with (go_at_call 17; refine (treFind_impl A2 c2 K q _ KR (by omega)).mono ?_; rw [HFV.out]; rintro e w7 ⟨rfl, hb6⟩; replace hown := ownsUnder hown hb6 (Nat.le_refl _); replace hb := hb.trans (hb6.mono (by omega)); replace hsz := hb.size; clear hb6 KR)
                  go_roundw
                  case rel => exact ⟨i + 1, E, by omega, by go_num, HST, hE, hown, hb⟩
                  case measure => simp [intOf]; omega
                · have HST : Hid (E = stageAt K D ps (i + 1)) := hid9 (by simpa using hst.symm)
                  clear hst hle HE
                  go_wp2_with (go_at_call 17; refine (treFind_impl A2 c2 K q _ KR (by omega)).mono ?_; rw [HFV.out]; rintro e w7 ⟨rfl, hb6⟩; replace hown := ownsUnder hown hb6 (Nat.le_refl _); replace hb := hb.trans (hb6.mono (by omega)); replace hsz := hb.size; clear hb6 KR)
                  go_roundw
                  case rel => exact ⟨i + 1, E, by omega, by go_num, HST, hE, hown, hb⟩
                  case measure => simp [intOf]; omega
                · have HST : Hid (E ++ [(⟨q, s, false⟩ : TE)] = stageAt K D ps (i + 1)) := hid9 (by simpa using hst.symm)
                  have hle1 : E.length + 1 ≤ 122 := (by simpa using hle)
                  clear hst hle HE
                  go_wp2_with (first
                    | (go_at_call 17; refine (treFind_impl A2 c2 K q _ KR (by omega)).mono ?_; rw [HFV.out]; rintro e w7 ⟨rfl, hb6⟩; have k2 := (hb6.cell (p := ⟨g, _, none⟩) (by show g < _; omega)).trans k1; replace hown := ownsUnder hown hb6 (Nat.le_refl _); replace hb := hb.trans (hb6.mono (by omega)); replace hsz := hb.size; clear hb6 KR)
                    | (at_builtin; refine wpList_append_own _ rfl _ _ 41 rfl w9.heap.size 43 i0 (.agg #[.string ByteArray.empty, .string ByteArray.empty, .bool false]) 3 40 Try.underlying41 hi hz0 hz1 hz2 rfl (by decide) _ _ _ rfl (hown.alloc _) ⟨w7.heap.size, 0, none⟩ 1 1 [.string q, .string s, .bool false] rfl rfl (cells_new w7 #[.string q, .string s, .bool false] 43) (by simp [Value.oneCell']) (by unfold maxLen; omega) (by omega) (by simp; omega) ?_; intro v8 w8 Q8 g8 _))
                  go_roundw
                  case rel =>
                    refine ⟨i + 1, E ++ [(⟨q, s, false⟩ : TE)], by omega, by go_num, HST, by simp; omega, ?_, ?_⟩
                    · rw [cellsE_snoc, List.length_append]; exact Q8
                    · exact growOwn (hb.alloc (by omega) _) (by simp; omega) (hown.alloc _) g8 (Nat.le_refl _)
                  case measure => simp [intOf]; omega
              · obtain rfl : i = D.length := by omega
                have HN : Hid (E = stageAt K D (ps + 1) 0) := (show E = _ from by rw [stage_next K D ps HP2.out]; exact HE.out)
                clear HE
                go_wp2
                have hp9 := HP2.out
                go_roundw
                case rel => exact ⟨ps + 1, by omega, by go_num, by rw [← HN.out]; exact hown, hb⟩
                case measure => simp [intOf]; omega
          · obtain rfl : ps = 2 := by omega
            obtain ⟨E, hE⟩ : ∃ E, E = stageAt K D 2 0 := ⟨_, rfl⟩
            have hEn : E.length ≤ 122 := (by rw [hE]; exact HLe.out 2 0)
            have hEl : E.length = D.length := (by rw [hE]; exact stage_all K D)
            have q1 : ((E.length : Int) != (D.length : Int)) = false := (by rw [hEl]; simp)
            have q2 : ((E.length : Int) == (D.length : Int)) = true := (by rw [hEl]; simp)
            have HEE : Hid (E = stageAt K D 2 0) := hE
            rw [← hE] at hown
            obtain ⟨AE, cE, rfl, EE⟩ := rdE_of_own hown
            have rL : Hid (RiseF L) := (okT_rise L HK.out).1
            have rK : Hid (RiseF K) := (okT_rise K HP.out).1
            have HDs : Hid (D = diffD K L) := (show D = diffD K L from by rw [diff_sym L K rL.out rK.out]; exact HD.out)
            have LL := HL9.out.up hb
            have KK := HK9.out.up hb
            have NN := HN9.out.up hb
            have O1 := keptB HO9.out hb
            replace B := B.trans (hb.mono B.size)
            clear hEl hE hown hb hsz hps hps2
            have t5 : True := trivial
            by_cases h4 : 4 < E.length
            · go_wp2_with (first
                | (go_at_call 19; have _t := t5; refine (dif_impl A2 A1 c2 c1 K L D _ HDs.out KK LL hK hL HSK.out HSL.out).mono ?_; rintro e wA ⟨⟨AP, cP, rfl, PP⟩, hb⟩; replace LL := LL.up hb; replace NN := NN.up hb; replace B := B.trans (hb.mono B.size); clear hb KK _t t5)
                | (go_at_call 10; refine (chTexts_rd AP AN cP cN D _ PP NN (by omega)).mono ?_; rintro e wB ⟨rfl, hb⟩; replace LL := LL.up hb; replace B := B.trans (hb.mono B.size); clear hb PP NN)
                | (go_at_call 19; refine (dif_impl A1 A1 c1 c1 L L [] _ (diff_self L rL.out).symm LL LL hL hL HSL.out HSL.out).mono ?_; rintro e wC ⟨⟨AQ, cQ, rfl, QQ⟩, hb⟩; replace B := B.trans (hb.mono B.size); clear hb))
              go_ret
              exact ⟨rfl, B⟩
            · have HTT : Hid (turnT L E = some K) := (show turnT L E = some K from by rw [HEE.out, HD.out]; exact turn_diff L K HK.out HP.out (by rw [← HD.out, ← HEE.out]; omega))
              have HSE : Hid (short E) := (show short E from by rw [HEE.out, HD.out]; exact stage_short L K 2 0 HSL.out HSK.out)
              go_wp2_with (first
                | (go_at_call 19; have _t := t5; refine (dif_impl A2 A1 c2 c1 K L D _ HDs.out KK LL hK hL HSK.out HSL.out).mono ?_; rintro e wA ⟨⟨AP, cP, rfl, PP⟩, hb⟩; replace LL := LL.up hb; replace KK := KK.up hb; replace NN := NN.up hb; replace EE := EE.up hb; replace O1 := keptB O1 hb; replace B := B.trans (hb.mono B.size); clear hb _t t5)
                | (go_at_call 10; refine (chTexts_rd AP AN cP cN D _ PP NN (by omega)).mono ?_; rintro e wB ⟨rfl, hb⟩; replace LL := LL.up hb; replace KK := KK.up hb; replace EE := EE.up hb; replace O1 := keptB O1 hb; replace B := B.trans (hb.mono B.size); clear hb PP NN)
                | (go_at_call 19; refine (dif_impl A1 A1 c1 c1 L L [] _ (diff_self L rL.out).symm LL LL hL hL HSL.out HSL.out).mono ?_; rintro e wC ⟨⟨AQ, cQ, rfl, QQ⟩, hb⟩; replace KK := KK.up hb; replace EE := EE.up hb; replace O1 := keptB O1 hb; replace B := B.trans (hb.mono B.size); clear hb)
                | (go_at_call 21; refine (treTurn_impl _ L AE cE E _ O1 EE (by omega) (by omega) (sizesF HSL.out) (sizesE HSE.out)).mono ?_; intro e wD H2; obtain ⟨AX, cX, rfl, XX, hb⟩ := turn_some HTT.out H2; clear H2; replace KK := KK.up hb; replace B := B.trans (hb.mono B.size); clear hb)
                | (go_at_call 8; refine (chFiles_same AX A2 cX c2 K _ XX KK (by omega)).mono ?_; rintro e wE ⟨rfl, hb⟩; replace B := B.trans (hb.mono B.size); clear hb))
              go_ret
              exact ⟨rfl, B⟩

set_option maxRecDepth 100000 in
theorem lifted (os : Os) (started : os.Started) (H : Type) (enc : TypeId × Value → H) :
    ReturnsInHanded {} Try.checked os 4 .any (Rows.fnTreDiffersSpec.pre6 enc Try.prog Try.f4 Rows.fnTreDiffersRow.domain false) (Rows.fnTreDiffersSpec.post enc Try.prog Try.f4 false true false false) := by
  refine returnsInHanded_of_change (C := Try.checked) own started (by kernel_rfl) Try.func4
    (ChangeSpec.witness6 (enc := enc) (C := Try.checked) false ⟨#[], #[.slice none 0 0], []⟩ 8 (by kernel_rfl) (by kernel_rfl) (by kernel_rfl) (by kernel_rfl)) ?_
  intro W base args ds gs before hval0 hW hcnd _
  have hval : ∀ (j : Nat) t v, Try.f4.params[j]? = some t → args[j]? = some v → Value.okWide Try.prog W .any base t v := hval0
  have hW' := hW
  obtain ⟨p, q, hA0, hV, rfl, hfz, hnd⟩ := hW
  have hA : DataW.TrodAll enc Try.prog W 0 (fun _ => true) true Try.f4.params.toList args.toList ds p := hA0
  rw [Try.params4] at hA hval
  obtain ⟨v0, vs0, d0, ds0, p0, q0, hargs, rfl, rfl, h0, r0⟩ := trodAll_cons hA
  obtain ⟨rfl, rfl, rfl⟩ := trodAll_nil r0
  obtain rfl : args = #[v0] := by cases args; simp_all
  obtain ⟨rfl, rfl⟩ := trodVars_none hV
  obtain ⟨a0, len0, cap0, rfl⟩ := okWide_slice Try.underlying22 (hval 0 22 v0 rfl rfl)
  have k0 := h0
  have lt0 : ∀ x ∈ p0, x.block < W.heap.size := by obtain ⟨m, hm⟩ := k0; exact DataW.trod_lt m _ _ _ hm
  obtain ⟨z0, w0⟩ : ∃ zs, IsRow .u8 W a0 len0 cap0 zs := by
    obtain ⟨fuel, hf⟩ := h0
    rcases open_ints Try.underlying22 Try.underlying5 (by kernel_rfl) hf with ⟨hcs, _⟩ | ⟨x, l, c, zs, hcs, _, hl, hm, hz, _, hcell, hwz⟩
    · simp [Value.cells] at hcs
      obtain ⟨rfl, rfl, rfl⟩ := hcs
      exact ⟨[], .inl ⟨rfl, rfl, rfl, rfl⟩⟩
    · simp [Value.cells] at hcs
      obtain ⟨rfl, rfl, rfl⟩ := hcs
      exact ⟨zs, .inr ⟨_, rfl, hl, hm, by simpa using hz, hcell, hwz⟩⟩
  clear hA0 hval0
  refine (walk a0 len0 cap0 z0 W w0).mono fun e W' ⟨he, bel⟩ => ?_
  subst he
  exact ⟨_, rfl, _, _, _, [], _, [], hW', trodAll_mk1 (shut_bool Try.underlying4 _), (trodAll_cons_mk (Below.trod laidOut (by kernel_rfl) (of_decide_eq_true (by kernel_rfl)) k0 bel lt0) trodAll_mk0), rfl, bel.frame _, fun h => by cases h⟩

theorem over : Rows.fnTreDiffersRow.holds Try.pinned (OpenSpec.ofChange Rows.fnTreDiffersSpec) :=
  OpenClaim.holds_of_wide 4 Try.f4 rfl rfl rfl rfl rfl rfl rfl ⟨rfl, rfl, rfl, rfl, rfl⟩ rfl rfl rfl rfl rfl (by kernel_rfl) Try.func4 (by kernel_rfl)
    (of_decide_eq_true (by kernel_rfl)) (by unfold Func.isWrapper; first | (rw [if_pos (by decide +kernel)]; kernel_rfl) | (rw [if_neg (by decide +kernel)]; exact ⟨rfl, rfl⟩))
    (fun os started H enc _ => lifted os started H enc)

theorem proved : Rows.FnTreDiffersSaid := over
#print axioms proved
end Go.Proofs.Ytbceegonaomblaa.fnTreDiffers
