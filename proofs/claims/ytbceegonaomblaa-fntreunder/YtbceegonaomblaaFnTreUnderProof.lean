/-
  Of every code: what the program's TreUnder and TreNames tell of the drawn files and text is what the specification's tell; of a tree and a path the part is a tree, the names rise, and what lies under each name adds up to the part, but where a file stands at the path itself. No condition.
-/
import Derived.Test.YtbceegonaomblaaRows
import Derived.Test.YtbceegonaomblaaMathTUn
import Derived.Test.YtbceegonaomblaaWalkDrawU
import Derived.Test.YtbceegonaomblaaWalkChT
import Derived.Test.YtbceegonaomblaaWalkTNam
import Derived.Test.YtbceegonaomblaaWalkTNai
import Derived.Test.YtbceegonaomblaaWalkTreP
import Derived.Test.YtbceegonaomblaaWalkChF
import Derived.Test.YtbceegonaomblaaWalkPth4
import Derived.WalkKit
import Derived.ProofKit
import Derived.OpenShut
import Derived.ShutString
import Derived.ChangeOld
import Derived.Below
namespace Go.Proofs.Ytbceegonaomblaa.fnTreUnder
open Go.ChangeShapes Go.WideShapes Go.ChangeAt Go.RowKit
open Go.ChangeMaps (open_string shut_string)
set_option linter.unusedVariables false

theorem own : ownKnob Try.prog.godebug = none := by kernel_rfl
theorem laidOut : laidOutB Try.prog = true := by kernel_rfl

/-- WHAT THE WALK IS TOLD OF A SLICE OF INTEGERS THAT CAME IN: it is nil; or it leads to a row of 'cap' cells, the numbers 'zs' (the first 'len' are its elements, the rest its spare room), each fitting its kind. -/
def IsRow (k : IntKind) (w : World) (a : Option Addr) (len cap : Nat) (zs : List Int) : Prop :=
  (a = none ∧ len = 0 ∧ cap = 0 ∧ zs = []) ∨
  ∃ x, a = some x ∧ len ≤ cap ∧ cap ≤ maxLen ∧ zs.length = cap ∧ (∀ i, i < zs.length → w.cell? (x.add i) = some (.int k (zs.getD i 0))) ∧ ∀ n ∈ zs, (Lit.int k n).wf = true

open Go.Proofs.Ytbceegonaomblaa.W Go.Proofs.Ytbceegonaomblaa.M in
theorem join_size (a b : ByteArray) (ha : a.size ≤ 64) (hb : b.size ≤ 64) : (joinB a b).size ≤ 1048576 := by
  have e : (joinB a b).size = (joinL a.data.toList b.data.toList).length := by unfold joinB; exact size_mk _
  have h1 : a.data.toList.length ≤ 64 := by rw [Array.length_toList]; exact ha
  have h2 : b.data.toList.length ≤ 64 := by rw [Array.length_toList]; exact hb
  rw [e]
  unfold joinL
  split
  · split
    · omega
    · split
      · omega
      · split
        · simp; omega
        · simp
  · simp
open Go.Proofs.Ytbceegonaomblaa.W Go.Proofs.Ytbceegonaomblaa.M in
theorem find_parts (L : List TF) (p : ByteArray) : ∃ (s : ByteArray) (th : Bool), findV L p = .tuple #[.string s, .bool th] ∧ (findF L p).isSome = th := by
  cases hf : findF L p with
  | none => exact ⟨_, false, findV_none hf, rfl⟩
  | some t => exact ⟨t, true, findV_some hf, rfl⟩
open Go.Proofs.Ytbceegonaomblaa.W Go.Proofs.Ytbceegonaomblaa.M in
theorem short_und (L : List TF) (p : ByteArray) (h : shortF L) : shortF (undF L p) := fun x hx => h x (List.mem_filter.1 hx).1
open Go.Proofs.Ytbceegonaomblaa.W Go.Proofs.Ytbceegonaomblaa.M in
theorem sizesP {L : List TF} (h : shortF L) : ∀ j (h : j < L.length), (L[j]).pa.size ≤ 1048576 := fun j hj => (sizesF h j hj).1
open Go.Proofs.Ytbceegonaomblaa.W Go.Proofs.Ytbceegonaomblaa.M in
theorem name_small (L : List TF) (p : List UInt8) (N : List (List UInt8)) (hN : N = namesB (rawN L p)) : ∀ i (h : i < N.length), (ByteArray.mk (N[i]).toArray).size ≤ 64 := fun i h => by
  have hm : N[i] ∈ namesB (rawN L p) := hN ▸ List.getElem_mem h
  have h1 := (raw_name L p _ ((mem_namesB _ _).1 hm)).1
  have h2 := namB_le _ h1
  rw [size_mk]; omega
open Go.Proofs.Ytbceegonaomblaa.W Go.Proofs.Ytbceegonaomblaa.M in
set_option maxRecDepth 100000 in
set_option maxHeartbeats 40000000 in
theorem walk (a0 : Option Addr) (len0 cap0 : Nat) (z0 : List Int) (w : World) (w0 : IsRow .u8 w a0 len0 cap0 z0) :
    Calls Try.prog 3 #[.slice a0 len0 cap0] w fun e w' => e = .returned (.bool true) ∧ Below w.heap.size w w' := by
  have hsrc := src_of w a0 len0 cap0 z0 w0
  have HS : Hid (Src w a0 len0 cap0 (fun i => z0.getD i 0)) := hsrc
  clear hsrc w0
  by_cases h : 1048576 < len0
  · go_enter Try.func3, Try.ntmps3
    go_wp2
    go_ret
    exact ⟨rfl, Below.refl _ _⟩
  · go_enter Try.func3, Try.ntmps3
    have t1 : True := trivial
    go_wp2_with (first
      | (go_at_call 5; refine (drawTreUnder_any _ _ _ _ _ HS.out).mono ?_; rintro e w1 ⟨⟨v1, L, p, rfl, hL, hSL, hp, O1⟩, B⟩; obtain ⟨A1, c1, rfl, LL⟩ := rdF_of_own O1; have HSL : Hid (shortF L) := hSL; clear hSL O1 HS; have hU := undF_len L p L.length; rw [List.take_length] at hU; have HUL : Hid (undF L p = undF L p) := rfl; obtain ⟨U, hUe⟩ : ∃ U, U = undF L p := ⟨_, rfl⟩; obtain ⟨N, hNe⟩ : ∃ N, N = namesB (rawN L p.data.toList) := ⟨_, rfl⟩; have hUn : U.length ≤ 61 := (by rw [hUe]; omega); have hNn : N.length ≤ 61 := (by rw [hNe]; exact Nat.le_trans (Nat.le_trans (namesB_len _) (rawN_len _ _)) hL); have HU : Hid (U = undF L p) := hUe; have HN : Hid (N = namesB (rawN L p.data.toList)) := hNe; have HSU : Hid (shortF U) := (by rw [hUe]; exact short_und L p HSL.out); clear hU HUL hUe hNe)
      | (go_at_call 6; refine (treUnder_impl A1 c1 L p _ LL (by omega) (by omega) (sizesP HSL.out)).mono ?_; rw [← HU.out]; rintro e w2 ⟨⟨vx, rfl, ox⟩, hb⟩; obtain ⟨AX, cX, rfl, XX⟩ := rdF_of_own ox; replace LL := LL.up hb; replace B := B.trans (hb.mono B.size); clear ox hb)
      | (go_at_call 7; refine (treNames_impl A1 c1 L p _ LL (by omega) (by omega) (sizesP HSL.out)).mono ?_; rw [← HN.out]; rintro e w3 ⟨⟨vn, rfl, on⟩, hb⟩; obtain ⟨AN, cN, rfl, NN⟩ := rdT_of_own on; replace LL := LL.up hb; replace XX := XX.up hb; replace B := B.trans (hb.mono B.size); clear on hb)
      | (go_at_call 9; refine (treUnder_spec A1 c1 L p _ LL (by omega) (by omega) (sizesP HSL.out)).mono ?_; rw [← HU.out]; rintro e w4 ⟨⟨vy, rfl, oy⟩, hb⟩; obtain ⟨AY, cY, rfl, YY⟩ := rdF_of_own oy; replace LL := LL.up hb; replace XX := XX.up hb; replace NN := NN.up hb; replace B := B.trans (hb.mono B.size); clear oy hb)
      | (go_at_call 8; refine (chFiles_same AX AY cX cY U _ XX YY (by omega)).mono ?_; rintro e w5 ⟨rfl, hb⟩; replace LL := LL.up hb; replace XX := XX.up hb; replace NN := NN.up hb; replace B := B.trans (hb.mono B.size); clear YY hb)
      | (go_at_call 11; refine (treNames_spec A1 c1 L p _ LL (by omega) (by omega) (sizesP HSL.out)).mono ?_; rw [← HN.out]; rintro e w6 ⟨⟨vm, rfl, om⟩, hb⟩; obtain ⟨AM, cM, rfl, MM⟩ := rdT_of_own om; replace LL := LL.up hb; replace XX := XX.up hb; replace NN := NN.up hb; replace B := B.trans (hb.mono B.size); clear om hb)
      | (go_at_call 10; refine (chTexts_rd AN AM cN cM N _ NN MM (by omega)).mono ?_; rintro e w7 ⟨rfl, hb⟩; replace LL := LL.up hb; replace XX := XX.up hb; replace NN := NN.up hb; replace B := B.trans (hb.mono B.size); clear MM hb)
      | (go_at_call 12; have _t := t1; refine (treOk_spec A1 c1 L _ LL (by omega) (sizesF HSL.out)).mono ?_; rintro e w8 ⟨rfl, hb⟩; replace LL := LL.up hb; replace XX := XX.up hb; replace NN := NN.up hb; replace B := B.trans (hb.mono B.size); clear hb _t t1; obtain ⟨k, hk⟩ : ∃ k, okT L = k := ⟨_, rfl⟩; have HK : Hid (okT L = k) := hk; rw [hk]; clear hk; cases k))
    · go_wp2_with (first
        | (go_at_call 14; refine (treOk_impl A1 c1 L _ LL (by omega) (sizesF HSL.out)).mono ?_; rw [HK.out]; rintro e w9 ⟨rfl, hb⟩; replace LL := LL.up hb; replace B := B.trans (hb.mono B.size); clear hb)
        | (go_at_call 12; refine (treOk_spec A1 c1 L _ LL (by omega) (sizesF HSL.out)).mono ?_; rw [HK.out]; rintro e wA ⟨rfl, hb⟩; replace B := B.trans (hb.mono B.size); clear hb LL)
        | (go_at_call 15; refine (chOk_any _).mono ?_; rintro e wB ⟨rfl, rfl⟩))
      go_ret
      exact ⟨rfl, B⟩
    · obtain ⟨kp, hkp⟩ : ∃ kp, pthB p.data.toList = kp := ⟨_, rfl⟩
      have HP : Hid (pthB p.data.toList = kp) := hkp
      clear hkp
      cases kp
      · go_wp2_with (first
          | (go_at_call 13; refine (pthOk_spec p _ (by omega)).mono ?_; rw [HP.out]; rintro e w9 ⟨rfl, hb⟩; replace LL := LL.up hb; replace B := B.trans (hb.mono B.size); clear hb)
          | (go_at_call 14; refine (treOk_impl A1 c1 L _ LL (by omega) (sizesF HSL.out)).mono ?_; rw [HK.out]; rintro e wA ⟨rfl, hb⟩; replace LL := LL.up hb; replace B := B.trans (hb.mono B.size); clear hb)
          | (go_at_call 12; refine (treOk_spec A1 c1 L _ LL (by omega) (sizesF HSL.out)).mono ?_; rw [HK.out]; rintro e wB ⟨rfl, hb⟩; replace B := B.trans (hb.mono B.size); clear hb LL)
          | (go_at_call 15; refine (chOk_any _).mono ?_; rintro e wC ⟨rfl, rfl⟩))
        go_ret
        exact ⟨rfl, B⟩
      · go_wp2_with (first
          | (go_at_call 13; refine (pthOk_spec p _ (by omega)).mono ?_; rw [HP.out]; rintro e w9 ⟨rfl, hb⟩; replace LL := LL.up hb; replace XX := XX.up hb; replace NN := NN.up hb; replace B := B.trans (hb.mono B.size); clear hb))
        have HR : Hid (RiseF L) := (okT_rise L HK.out).1
        have HL9 : Hid (RdF w9.heap.size w9 A1 L) := LL
        have HX9 : Hid (RdF w9.heap.size w9 AX U) := XX
        have HN9 : Hid (RdT w9.heap.size w9 AN N) := NN
        have HNr : Hid (Rises N) := (show Rises N from by rw [HN.out]; exact rises_namesB _)
        have HNs : Hid (∀ i (h : i < N.length), (ByteArray.mk (N[i]).toArray).size ≤ 64) := name_small L _ N HN.out
        clear LL XX NN
        go_loopw [8, 7] (fun iv nv wr => ∃ i n : Nat, i ≤ N.length ∧ iv = .int .i64 i ∧ nv = .int .i64 n ∧ n ≤ 10000 ∧ Hid (n = sumU L p (N.take i)) ∧ Below w9.heap.size w9 wr) (fun i _ _ => N.length - (intOf i).toNat)
        case atStart => exact ⟨0, 0, Nat.zero_le _, rfl, rfl, Nat.zero_le _, rfl, Below.refl _ _⟩
        case round =>
          obtain ⟨i, n, hi, rfl, rfl, hn, HM, hb⟩ := hrel
          have hsz := hb.size
          by_cases hlt : i < N.length
          · obtain ⟨g, rfl, hg, k1⟩ := (HN9.out.below hb (Nat.le_refl _)) i hlt
            have hz := HNs.out i hlt
            have HST : Hid (sumU L p (N.take (i + 1)) = sumU L p (N.take i) + (undF L (joinB p ⟨(N[i]).toArray⟩)).length) := sumU_step L p N i hlt
            have HLE : Hid (sumU L p (N.take (i + 1)) ≤ 10000) := sumU_le L p N (i + 1) (by omega) (by omega)
            have hne : Nonempty (Ext wr) := ⟨⟨wr, Below.refl _ _⟩⟩
            rcases Nat.eq_zero_or_pos i with rfl | hi0
            · obtain ⟨q, hq⟩ : ∃ q, ByteArray.mk (N[0]).toArray = q := ⟨_, rfl⟩
              rw [hq] at HST k1 hz
              clear hq
              have hjs := join_size p q hp hz
              go_wp2
              refine region_ext (by kernel_rfl) (by kernel_rfl) ?_
              repeat (go_big_quiet_step (fail))
              refine wpQuiet_nil ?_
              rintro _ ⟨x, rfl⟩
              have hbx := x.below
              have k2 := x.cell k1
              have hbq := hb.trans (hbx.mono (by omega))
              have hsq := hbq.size
              go_wp2_with (first
                | (go_at_call 16; refine (join_impl p q _ (by omega) (by omega)).mono ?_; rintro e wA ⟨rfl, hbA⟩; have bA := hbq.trans (hbA.mono hsq); have zA := bA.size)
                | (go_at_call 6; refine (treUnder_impl A1 c1 L (joinB p q) _ (HL9.out.up bA) (by omega) hjs (sizesP HSL.out)).mono ?_; rintro e wB ⟨⟨vu, rfl, ou⟩, hbB⟩; obtain ⟨AU, cU, rfl, _⟩ := rdF_of_own ou; have bB := bA.trans (hbB.mono zA); have HQ : Hid (n + (undF L (joinB p q)).length = sumU L p (N.take (0 + 1))) := (show _ = _ from by rw [HST.out, ← HM.out]); obtain ⟨m, hm⟩ : ∃ m, (undF L (joinB p q)).length = m := ⟨_, rfl⟩; rw [hm] at HQ ⊢; have hle := HLE.out; rw [← HQ.out] at hle; clear hm ou))
              go_roundw
              case rel => exact ⟨1, n + m, by omega, rfl, by go_num, hle, HQ, bB⟩
              case measure => simp [intOf]; omega
            · obtain ⟨j, rfl⟩ : ∃ j, i = j + 1 := ⟨i - 1, by omega⟩
              obtain ⟨g', e9, _, d1⟩ := (HN9.out.below hb (Nat.le_refl _)) j (by omega)
              simp only [Option.some.injEq, Addr.mk.injEq] at e9
              obtain ⟨rfl, _⟩ := e9
              have hlt9 : N[j] < N[j + 1] := List.pairwise_iff_getElem.1 HNr.out j (j + 1) (by omega) hlt (by omega)
              obtain ⟨q, hq⟩ : ∃ q, ByteArray.mk (N[j + 1]).toArray = q := ⟨_, rfl⟩
              obtain ⟨q', hq'⟩ : ∃ q', ByteArray.mk (N[j]).toArray = q' := ⟨_, rfl⟩
              have k5 : Op.bytesLess q'.toList q.toList = true := by
                rw [bl_lt, ← hq, ← hq', Lib.toList_data, Lib.toList_data]
                simpa using hlt9
              rw [hq] at HST k1 hz
              rw [hq'] at d1
              clear hq hq' hlt9
              have htri2 := blTri q.toList q'.toList
              rw [k5] at htri2
              have y2 : (0 : Int) < ((j + 1 : Nat) : Int) := by omega
              have y3 : (0 : Int) < (j : Int) + 1 := by omega
              have x1 : ∀ x : Ext wr, x.world.cell? ⟨g, j + 1, none⟩ = some (.string q) := fun x => x.cell k1
              have x3 : ∀ x : Ext wr, x.world.cell? ⟨g, j, none⟩ = some (.string q') := fun x => x.cell d1
              have hjs := join_size p q hp hz
              go_wp2
              refine region_ext (by kernel_rfl) (by kernel_rfl) ?_
              repeat (go_big_quiet_step (fail))
              refine wpQuiet_nil ?_
              rintro _ ⟨x, rfl⟩
              have hbx := x.below
              have k2 := x.cell k1
              have hbq := hb.trans (hbx.mono (by omega))
              have hsq := hbq.size
              clear k5 htri2 x1 x3
              go_wp2_with (first
                | (go_at_call 16; refine (join_impl p q _ (by omega) (by omega)).mono ?_; rintro e wA ⟨rfl, hbA⟩; have bA := hbq.trans (hbA.mono hsq); have zA := bA.size)
                | (go_at_call 6; refine (treUnder_impl A1 c1 L (joinB p q) _ (HL9.out.up bA) (by omega) hjs (sizesP HSL.out)).mono ?_; rintro e wB ⟨⟨vu, rfl, ou⟩, hbB⟩; obtain ⟨AU, cU, rfl, _⟩ := rdF_of_own ou; have bB := bA.trans (hbB.mono zA); have HQ : Hid (n + (undF L (joinB p q)).length = sumU L p (N.take (j + 1 + 1))) := (show _ = _ from by rw [HST.out, ← HM.out]); obtain ⟨m, hm⟩ : ∃ m, (undF L (joinB p q)).length = m := ⟨_, rfl⟩; rw [hm] at HQ ⊢; have hle := HLE.out; rw [← HQ.out] at hle; clear hm ou))
              go_roundw
              case rel => exact ⟨j + 1 + 1, n + m, by omega, by go_num, by go_num, hle, HQ, bB⟩
              case measure => simp [intOf]; omega
          · obtain rfl : i = N.length := by omega
            have HE := tre_end L p HK.out HR.out
            rw [← HU.out, ← HN.out] at HE
            have e9 := HM.out
            rw [List.take_length] at e9
            rw [← e9] at HE
            have HEE := hid9 HE
            have HUO : Hid (okT U = true) := (show okT U = true from by rw [HU.out]; exact (undF_ok L p HK.out HR.out).1)
            obtain ⟨s, th, hfv, hth⟩ := find_parts L p
            have HFV : Hid (findV L p = .tuple #[.string s, .bool th]) := hfv
            have HTH : Hid ((findF L p).isSome = th) := hth
            clear HE e9 hfv hth HM
            have LL := HL9.out.up hb
            have XX := HX9.out.up hb
            have t2 : True := trivial
            have t3 : True := trivial
            go_wp2_with (go_at_call 17; refine (treFind_impl A1 c1 L p _ LL (by omega)).mono ?_; rw [HFV.out]; rintro e wA ⟨rfl, hbA⟩; replace LL := LL.up hbA; replace XX := XX.up hbA; have bA := hb.trans (hbA.mono (by omega)); clear hbA; cases th)
            · have q1 : ((n : Int) == (U.length : Int)) = true := (by rw [HEE.out.2 HTH.out]; simp)
              go_wp2_with (first
                | (go_at_call 14; refine (treOk_impl AX cX U _ XX (by omega) (sizesF HSU.out)).mono ?_; rw [HUO.out]; rintro e wB ⟨rfl, hb9⟩; replace LL := LL.up hb9; replace XX := XX.up hb9; replace bA := bA.trans (hb9.mono bA.size); clear hb9)
                | (go_at_call 6; have _t := t2; refine (treUnder_impl A1 c1 L ⟨#[]⟩ _ LL (by omega) (by decide) (sizesP HSL.out)).mono ?_; rw [undF_all L HK.out]; rintro e wC ⟨⟨vz, rfl, oz⟩, hb9⟩; obtain ⟨AZ, cZ, rfl, ZZ⟩ := rdF_of_own oz; replace LL := LL.up hb9; replace XX := XX.up hb9; replace bA := bA.trans (hb9.mono bA.size); clear hb9 _t t2 oz)
                | (go_at_call 8; have _t := t3; refine (chFiles_same AZ A1 cZ c1 L _ ZZ LL (by omega)).mono ?_; rintro e wD ⟨rfl, hb9⟩; replace XX := XX.up hb9; replace bA := bA.trans (hb9.mono bA.size); clear hb9 _t t3 ZZ LL)
                | (go_at_call 6; refine (treUnder_impl AX cX U p _ XX (by omega) (by omega) (sizesP HSU.out)).mono ?_; rw [show undF U p = U from by rw [HU.out]; exact undF_twice L p]; rintro e wE ⟨⟨vz, rfl, oz⟩, hb9⟩; obtain ⟨AZ, cZ, rfl, ZZ⟩ := rdF_of_own oz; replace XX := XX.up hb9; replace bA := bA.trans (hb9.mono bA.size); clear hb9 oz)
                | (go_at_call 8; refine (chFiles_same AZ AX cZ cX U _ ZZ XX (by omega)).mono ?_; rintro e wF ⟨rfl, hb9⟩; replace bA := bA.trans (hb9.mono bA.size); clear hb9))
              go_ret
              exact ⟨rfl, B.trans (bA.mono B.size)⟩
            · have q1 : ((U.length : Int) == 1) = true := (by rw [(HEE.out.1 HTH.out).1]; rfl)
              have q2 : ((n : Int) == 0) = true := (by rw [(HEE.out.1 HTH.out).2]; rfl)
              go_wp2_with (first
                | (go_at_call 14; refine (treOk_impl AX cX U _ XX (by omega) (sizesF HSU.out)).mono ?_; rw [HUO.out]; rintro e wB ⟨rfl, hb9⟩; replace LL := LL.up hb9; replace XX := XX.up hb9; replace bA := bA.trans (hb9.mono bA.size); clear hb9)
                | (go_at_call 6; have _t := t2; refine (treUnder_impl A1 c1 L ⟨#[]⟩ _ LL (by omega) (by decide) (sizesP HSL.out)).mono ?_; rw [undF_all L HK.out]; rintro e wC ⟨⟨vz, rfl, oz⟩, hb9⟩; obtain ⟨AZ, cZ, rfl, ZZ⟩ := rdF_of_own oz; replace LL := LL.up hb9; replace XX := XX.up hb9; replace bA := bA.trans (hb9.mono bA.size); clear hb9 _t t2 oz)
                | (go_at_call 8; have _t := t3; refine (chFiles_same AZ A1 cZ c1 L _ ZZ LL (by omega)).mono ?_; rintro e wD ⟨rfl, hb9⟩; replace XX := XX.up hb9; replace bA := bA.trans (hb9.mono bA.size); clear hb9 _t t3 ZZ LL)
                | (go_at_call 6; refine (treUnder_impl AX cX U p _ XX (by omega) (by omega) (sizesP HSU.out)).mono ?_; rw [show undF U p = U from by rw [HU.out]; exact undF_twice L p]; rintro e wE ⟨⟨vz, rfl, oz⟩, hb9⟩; obtain ⟨AZ, cZ, rfl, ZZ⟩ := rdF_of_own oz; replace XX := XX.up hb9; replace bA := bA.trans (hb9.mono bA.size); clear hb9 oz)
                | (go_at_call 8; refine (chFiles_same AZ AX cZ cX U _ ZZ XX (by omega)).mono ?_; rintro e wF ⟨rfl, hb9⟩; replace bA := bA.trans (hb9.mono bA.size); clear hb9))
              go_ret
              exact ⟨rfl, B.trans (bA.mono B.size)⟩

set_option maxRecDepth 100000 in
theorem lifted (os : Os) (started : os.Started) (H : Type) (enc : TypeId × Value → H) :
    ReturnsInHanded {} Try.checked os 3 .any (Rows.fnTreUnderSpec.pre6 enc Try.prog Try.f3 Rows.fnTreUnderRow.domain false) (Rows.fnTreUnderSpec.post enc Try.prog Try.f3 false true false false) := by
  refine returnsInHanded_of_change (C := Try.checked) own started (by kernel_rfl) Try.func3
    (ChangeSpec.witness6 (enc := enc) (C := Try.checked) false ⟨#[], #[.slice none 0 0], []⟩ 8 (by kernel_rfl) (by kernel_rfl) (by kernel_rfl) (by kernel_rfl)) ?_
  intro W base args ds gs before hval0 hW hcnd _
  have hval : ∀ (j : Nat) t v, Try.f3.params[j]? = some t → args[j]? = some v → Value.okWide Try.prog W .any base t v := hval0
  have hW' := hW
  obtain ⟨p, q, hA0, hV, rfl, hfz, hnd⟩ := hW
  have hA : DataW.TrodAll enc Try.prog W 0 (fun _ => true) true Try.f3.params.toList args.toList ds p := hA0
  rw [Try.params3] at hA hval
  obtain ⟨v0, vs0, d0, ds0, p0, q0, hargs, rfl, rfl, h0, r0⟩ := trodAll_cons hA
  obtain ⟨rfl, rfl, rfl⟩ := trodAll_nil r0
  obtain rfl : args = #[v0] := by cases args; simp_all
  obtain ⟨rfl, rfl⟩ := trodVars_none hV
  obtain ⟨a0, len0, cap0, rfl⟩ := okWide_slice Try.underlying22 (hval 0 22 v0 rfl rfl)
  have k0 := h0
  have lt0 : ∀ x ∈ p0, x.block < W.heap.size := by obtain ⟨m, hm⟩ := k0; exact DataW.trod_lt m _ _ _ hm
  obtain ⟨z0, w0⟩ : ∃ zs, IsRow .u8 W a0 len0 cap0 zs := by
    obtain ⟨fuel, hf⟩ := h0
    rcases open_ints Try.underlying22 Try.underlying5 (by kernel_rfl) hf with ⟨hcs, _⟩ | ⟨x, l, c, zs, hcs, _, hl, hm, hz, _, hcell, hwz⟩
    · simp [Value.cells] at hcs
      obtain ⟨rfl, rfl, rfl⟩ := hcs
      exact ⟨[], .inl ⟨rfl, rfl, rfl, rfl⟩⟩
    · simp [Value.cells] at hcs
      obtain ⟨rfl, rfl, rfl⟩ := hcs
      exact ⟨zs, .inr ⟨_, rfl, hl, hm, by simpa using hz, hcell, hwz⟩⟩
  clear hA0 hval0
  refine (walk a0 len0 cap0 z0 W w0).mono fun e W' ⟨he, bel⟩ => ?_
  subst he
  exact ⟨_, rfl, _, _, _, [], _, [], hW', trodAll_mk1 (shut_bool Try.underlying4 _), (trodAll_cons_mk (Below.trod laidOut (by kernel_rfl) (of_decide_eq_true (by kernel_rfl)) k0 bel lt0) trodAll_mk0), rfl, bel.frame _, fun h => by cases h⟩

theorem over : Rows.fnTreUnderRow.holds Try.pinned (OpenSpec.ofChange Rows.fnTreUnderSpec) :=
  OpenClaim.holds_of_wide 3 Try.f3 rfl rfl rfl rfl rfl rfl rfl ⟨rfl, rfl, rfl, rfl, rfl⟩ rfl rfl rfl rfl rfl (by kernel_rfl) Try.func3 (by kernel_rfl)
    (of_decide_eq_true (by kernel_rfl)) (by unfold Func.isWrapper; first | (rw [if_pos (by decide +kernel)]; kernel_rfl) | (rw [if_neg (by decide +kernel)]; exact ⟨rfl, rfl⟩))
    (fun os started H enc _ => lifted os started H enc)

theorem proved : Rows.FnTreUnderSaid := over
#print axioms proved
end Go.Proofs.Ytbceegonaomblaa.fnTreUnder
