/-
  Of every code: two drawn trees have one id only if they are the same; both are laid and their texts put into one pool, which then has as many items as came new, and both are read as they were; or the pool is full. The code reads as it did. errors.errorType holds what the program's text lays; the card ties it.
-/
import Derived.Test.YthfffpdkmoclbaaGreatDoorCards
import Derived.Test.YthfffpdkmoclbaaGreatDoorTie
import Derived.WalkKit
import Derived.ProofKit
import Derived.OpenShut
import Derived.ShutString
import Derived.Below
import Derived.Carry
import Derived.LaidLaws
import Derived.Test.YthfffpdkmoclbaaGreatDoorMg01
import Derived.LaidHandle
import Derived.Deep.DeepHandedRow
import Derived.Test.YthfffpdkmoclbaaGreatDoorMg49
import Derived.Test.YthfffpdkmoclbaaGreatDoorMg50
import Derived.Test.YthfffpdkmoclbaaGreatDoorMg37
import Derived.Test.YthfffpdkmoclbaaGreatDoorMg30
import Derived.Test.YthfffpdkmoclbaaGreatDoorMg41
namespace Go.Proofs.YthfffpdkmoclbaaGreatDoor.fnTreSame
open Go.ChangeShapes Go.WideShapes Go.ChangeAt Go.RowKit
open Go.ChangeMaps (open_string shut_string)
set_option linter.unusedVariables false

theorem own : ownKnob Tryz.prog.godebug = none := by kernel_rfl
theorem laidOut : laidOutB Tryz.prog = true := by kernel_rfl

theorem et : Tryz.prog.globalNamed "errors.errorType" = some 0 := by kernel_rfl
theorem rt : (Tryz.prog.cutTypes.find? (·.1 == "internal/reflectlite.rtype")).map (·.2) = some 206 := by kernel_rfl
theorem oneRow : ((List.range 282).filter fun t => Tryz.prog.rowNamed t [101, 114, 114, 111, 114]) = [155] := by kernel_rfl
theorem tsize : Tryz.prog.types.size = 282 := by kernel_rfl
theorem handle_of_laid {W : World} (h : laidMetH Tryz.prog Rows.fnTreSameRow.laid W) : Go.Proofs.YthfffpdkmoclbaaGreatDoor.W.TypeCell W := by
  have h' : laidMet Tryz.prog [] W ∧ handlesMet Tryz.prog Rows.fnTreSameRow.laid W := h
  obtain ⟨name, u, ty, e1, e2, e3, e4, e5⟩ := h'.2 _ (List.mem_singleton.2 rfl)
  have en : name = [101, 114, 114, 111, 114] := (Option.some.inj e1).symm
  subst en
  obtain rfl := Option.some.inj (rt.symm.trans e2)
  have hm : ty ∈ (List.range 282).filter fun t => Tryz.prog.rowNamed t [101, 114, 114, 111, 114] := List.mem_filter.2 ⟨List.mem_range.2 (by rw [← tsize]; exact e3), e4⟩
  rw [oneRow] at hm
  obtain rfl := List.mem_singleton.1 hm
  have hh : typeHandle Tryz.prog 155 = .pointer (some ⟨2, 155, none⟩) := by kernel_rfl
  rw [hh] at e5
  simpa [Go.Proofs.YthfffpdkmoclbaaGreatDoor.W.TypeCell] using World.var?_cell et e5 0

open Go.Proofs.YthfffpdkmoclbaaGreatDoor.W Go.Proofs.YthfffpdkmoclbaaGreatDoor.M in
theorem backI_own {b : Nat} {e : TypeId} (v : Value) (L : List TF) (w : World) (h : w.ownsRow b e 2 v L.length (cellsF L)) (hn : L.length ≤ 1000) (hz : shortF L) :
    Calls Tryz.prog 32 #[v] w fun e w' => (∃ v, e = .returned (.tuple #[v, .int .i64 (texI L)]) ∧ w'.ownsRow w.heap.size 9 1 v (texT L).length (strs (sL (texT L)))) ∧ Below w.heap.size w w' := by
  have hl := h.lt
  obtain ⟨A, c, e, rd⟩ := rdF_of_own h
  rcases h.2 with ⟨e2, h0⟩ | ⟨g, c2, cur, e2, h1, h2, h3, h4, _⟩
  · rw [e] at e2
    injection e2 with e3 e4 e5
    subst e3
    subst e5
    subst e
    exact treLay_impl none 0 L w rd (by omega) (by unfold maxLen; omega) (fun b o e => by cases e) (by omega) (smallOf hz)
  · have hg : g < w.heap.size := (Array.getElem?_eq_some_iff.1 h2).1
    rw [e] at e2
    injection e2 with e3 e4 e5
    subst e3
    subst e5
    subst e
    exact treLay_impl _ c L w rd h3 h4 (fun b o e => by obtain ⟨rfl, _⟩ : g = b ∧ 0 = o := by simpa using e
                                                        exact hg) (by omega) (smallOf hz)
open Go.Proofs.YthfffpdkmoclbaaGreatDoor.W Go.Proofs.YthfffpdkmoclbaaGreatDoor.M in
theorem cellT {B : Nat} {w : World} {A : Option Addr} {T : List ByteArray} (h : RdT B w A (sL T)) (j : Nat) (hj : j < T.length) : ∃ b, A = some ⟨b, 0, none⟩ ∧ b < B ∧ w.cell? ⟨b, j, none⟩ = some (.string T[j]) := by
  obtain ⟨b, e, hb, c⟩ := h j (by rw [sL_len]; exact hj)
  refine ⟨b, e, hb, ?_⟩
  rw [c]
  simp [sL]
open Go.Proofs.YthfffpdkmoclbaaGreatDoor.W Go.Proofs.YthfffpdkmoclbaaGreatDoor.M in
theorem insP_len (M : List PI) (x : PI) : (insP M x).length = M.length + 1 := by
  induction M with
  | nil => rfl
  | cons y l ih =>
    unfold insP
    split
    · simp [ih]
    · simp
open Go.Proofs.YthfffpdkmoclbaaGreatDoor.W Go.Proofs.YthfffpdkmoclbaaGreatDoor.M in
theorem same_step (P : List PI) (T : List ByteArray) (s : ByteArray) (X : List PI) (n c : Int) (h : putR P s = (X, n, c)) (hP : PutIn P T) (hk : kd s ≠ 0) (hs : s.size ≤ 1000) : c = 3 ∨ (c = 1 ∧ X.length = P.length + 1 ∧ X.length ≤ 700 ∧ Hid (PutIn X (T ++ [s]))) ∨ (c = 2 ∧ X.length = P.length ∧ X.length ≤ 700 ∧ Hid (PutIn X (T ++ [s]))) := by
  rcases putIn_step P T s X n c h hP hk hs with ⟨h1, _⟩ | ⟨h1, h2, h3⟩
  · exact .inl h1
  · unfold putR at h
    rw [if_pos ⟨hP.1, hk⟩] at h
    unfold putPool at h
    split at h
    · split at h
      · cases h; exact .inr (.inr ⟨rfl, rfl, h2, h3⟩)
      · cases h; exact .inl rfl
    · split at h
      · cases h; exact .inl rfl
      · cases h
        refine .inr (.inl ⟨rfl, ?_, h2, h3⟩)
        exact insP_len _ _
open Go.Proofs.YthfffpdkmoclbaaGreatDoor.W Go.Proofs.YthfffpdkmoclbaaGreatDoor.M in
theorem sameCases (L K : List TF) (ia ib : Nat) (hI : texI L = ia) (hJ : texI K = ib) : (ia = 0 ∧ Hid (okT L = false)) ∨ (ib = 0 ∧ Hid (okT L = true) ∧ Hid (okT K = false)) ∨ (Hid (okT L = true) ∧ Hid (okT K = true) ∧ ∃ m n, (sL (texT L)).length = m ∧ (sL (texT K)).length = n) := by
  cases hk : okT L with
  | false =>
    refine .inl ⟨?_, rfl⟩
    rw [← hI]; unfold texI; rw [hk]; rfl
  | true =>
    cases hp : okT K with
    | false =>
      refine .inr (.inl ⟨?_, rfl, rfl⟩)
      rw [← hJ]; unfold texI; rw [hp]; rfl
    | true => exact .inr (.inr ⟨rfl, rfl, _, _, rfl, rfl⟩)
open Go.Proofs.YthfffpdkmoclbaaGreatDoor.W Go.Proofs.YthfffpdkmoclbaaGreatDoor.M in
theorem putIn_sub {P : List PI} {T U : List ByteArray} (h : PutIn P T) (hs : ∀ t ∈ U, t ∈ T) : PutIn P U := ⟨h.1, h.2.1, fun t ht => h.2.2 t (hs t ht)⟩
open Go.Proofs.YthfffpdkmoclbaaGreatDoor.W Go.Proofs.YthfffpdkmoclbaaGreatDoor.M in
set_option maxRecDepth 100000 in
set_option maxHeartbeats 16000000 in
theorem walk (a0 : Option Addr) (len0 cap0 : Nat) (z0 : List Int) (w : World) (hg : Go.Proofs.YthfffpdkmoclbaaGreatDoor.W.TypeCell w) (s0 : Go.Proofs.YthfffpdkmoclbaaGreatDoor.W.Src w a0 len0 cap0 (fun i => z0.getD i 0)) :
    Calls Tryz.prog 7 #[.slice a0 len0 cap0] w fun e w' => e = .returned (.bool true) ∧ Below w.heap.size w w' := by
  have HS : Hid (W.Src w a0 len0 cap0 (fun i => z0.getD i 0)) := s0
  clear s0
  have HG : Hid (TypeCell w) := hg
  have hgl := hg.lt
  clear hg
  by_cases h : 1048576 < len0
  · go_enter Tryz.func7, Tryz.ntmps7
    go_wp2
    go_ret
    exact ⟨rfl, Below.refl _ _⟩
  go_enter Tryz.func7, Tryz.ntmps7
  have t1 : True := trivial
  go_wp2_with (first
    | (go_at_call 38; refine (drawTreDiffers_any _ _ _ _ _ HS.out).mono ?_; rintro e w1 ⟨⟨v, u, L, K, rfl, hL, hSL, hK, hSK, O1, O2⟩, B⟩; have HSL : Hid (shortF L) := hSL; have HSK : Hid (shortF K) := hSK; clear HS hSL hSK)
    | (go_at_call 32; have _t := t1; refine (backI_own v L _ O1 (by omega) HSL.out).mono ?_; rintro e w3 ⟨⟨vt, rfl, ot⟩, hb⟩; clear _t t1; obtain ⟨T, hT⟩ : ∃ T, texT L = T := ⟨_, rfl⟩; obtain ⟨ia, hid⟩ : ∃ id, texI L = id := ⟨_, rfl⟩; have HT : Hid (texT L = T) := hT; have HI : Hid (texI L = ia) := hid; have hTn := texT_len L; rw [hT] at ot hTn; rw [hid]; rw [← sL_len T] at ot hTn; obtain ⟨AL, cL, rfl, FL⟩ := rdF_of_own O1; replace FL := FL.up hb; replace O2 := ownsUnder O2 hb (Nat.le_refl _); replace B := B.trans (hb.mono B.size); clear hT hid hb O1)
    | (go_at_call 32; refine (backI_own u K _ O2 (by omega) HSK.out).mono ?_; rintro e w4 ⟨⟨vk, rfl, ok⟩, hb⟩; obtain ⟨U, hU⟩ : ∃ U, texT K = U := ⟨_, rfl⟩; obtain ⟨ib, hib⟩ : ∃ id, texI K = id := ⟨_, rfl⟩; have HU : Hid (texT K = U) := hU; have HJ : Hid (texI K = ib) := hib; have hUn := texT_len K; rw [hU] at ok hUn; rw [hib]; rw [← sL_len U] at ok hUn; obtain ⟨AK, cK, rfl, FK⟩ := rdF_of_own O2; replace FK := FK.up hb; replace FL := FL.up hb; replace ot := ownsUnder ot hb (Nat.le_refl _); replace B := B.trans (hb.mono B.size); clear hU hib hb O2)
    | (go_at_call 33; refine (treLay_spec AL cL L _ FL (by omega) (smallOf HSL.out)).mono ?_; rw [HT.out, HI.out, ← sL_len T]; rintro e w5 ⟨⟨vu, rfl, ou⟩, hb⟩; replace ot := ownsUnder ot hb (Nat.le_refl _); replace ok := ownsUnder ok hb (Nat.le_refl _); replace FL := FL.up hb; replace FK := FK.up hb; replace B := B.trans (hb.mono B.size); clear hb)
    | (go_at_call 34; refine (chTexts_any _ _ vt vu (sL T) _ ot ou (by omega)).mono ?_; rintro e w6 ⟨rfl, hb⟩; replace ot := ownsUnder ot hb (Nat.le_refl _); replace ok := ownsUnder ok hb (Nat.le_refl _); replace FL := FL.up hb; replace FK := FK.up hb; replace B := B.trans (hb.mono B.size); obtain ⟨AT, cT, rfl, TT⟩ := rdT_of_own ot; obtain ⟨AU, cU, rfl, UU⟩ := rdT_of_own ok; clear hb ou ot ok; have hcs := sameCases L K ia ib HI.out HJ.out; rw [HT.out, HU.out] at hcs; rcases hcs with ⟨rfl, HK⟩ | ⟨rfl, HK, HQ⟩ | ⟨HK, HQ, m, n, hm, hn⟩))
  · go_wp2_with (first
      | (go_at_call 35; refine (treOk_spec AL cL L _ FL (by omega) (sizesF HSL.out)).mono ?_; rw [HK.out]; rintro e wA ⟨rfl, hb⟩; replace B := B.trans (hb.mono B.size); clear hb)
      | (go_at_call 15; refine (chOk_o _).mono ?_; rintro e wB ⟨rfl, rfl⟩))
    go_ret
    exact ⟨rfl, B⟩
  · go_wp2_with (first
      | (go_at_call_of 35 AL; refine (treOk_spec AL cL L _ FL (by omega) (sizesF HSL.out)).mono ?_; rw [HK.out]; rintro e wA ⟨rfl, hb⟩; replace FK := FK.up hb; replace B := B.trans (hb.mono B.size); clear hb)
      | (go_at_call_of 35 AK; refine (treOk_spec AK cK K _ FK (by omega) (sizesF HSK.out)).mono ?_; rw [HQ.out]; rintro e wC ⟨rfl, hb⟩; replace B := B.trans (hb.mono B.size); clear hb)
      | (go_at_call 15; refine (chOk_o _).mono ?_; rintro e wB ⟨rfl, rfl⟩))
    all_goals
      go_ret
      exact ⟨rfl, B⟩
  · go_wp2_with (first
      | (go_at_call_of 35 AL; refine (treOk_spec AL cL L _ FL (by omega) (sizesF HSL.out)).mono ?_; rw [HK.out]; rintro e wA ⟨rfl, hb⟩; replace TT := TT.up hb; replace UU := UU.up hb; replace FL := FL.up hb; replace FK := FK.up hb; replace B := B.trans (hb.mono B.size); clear hb)
      | (go_at_call_of 35 AK; refine (treOk_spec AK cK K _ FK (by omega) (sizesF HSK.out)).mono ?_; rw [HQ.out]; rintro e w7 ⟨rfl, hb⟩; replace TT := TT.up hb; replace UU := UU.up hb; replace FL := FL.up hb; replace FK := FK.up hb; replace B := B.trans (hb.mono B.size); clear hb))
    have HTT : Hid (RdT w7.heap.size w7 AT (sL T)) := TT
    have HUU : Hid (RdT w7.heap.size w7 AU (sL U)) := UU
    have HFL : Hid (RdF w7.heap.size w7 AL L) := FL
    have HFK : Hid (RdF w7.heap.size w7 AK K) := FK
    have hTm : T.length = m := by rw [← sL_len]; exact hm
    have hUm : U.length = n := by rw [← sL_len]; exact hn
    have HPU : Hid (PutIn [] ((T ++ U).take 0)) := (show PutIn [] ((T ++ U).take 0) from ⟨by decide, fun x hx => (by cases hx), fun t ht => by simp at ht⟩)
    have HTS : Hid (∀ t ∈ T ++ U, t.size ≤ 1000 ∧ kd t ≠ 0) := (show ∀ t ∈ T ++ U, _ from fun t ht => by
      rcases List.mem_append.1 ht with ht | ht
      · rw [← HT.out] at ht
        exact ⟨texT_short L HSL.out t ht, back_kind L HK.out t ht⟩
      · rw [← HU.out] at ht
        exact ⟨texT_short K HSK.out t ht, back_kind K HQ.out t ht⟩)
    have HMN : Hid ((T ++ U).length = m + n) := (show _ = _ from by rw [List.length_append, hTm, hUm])
    have HLM : Hid (T.length = m ∧ U.length = n) := ⟨hTm, hUm⟩
    have hm60 : m ≤ 13400000 := by omega
    have hn60 : n ≤ 13400000 := by omega
    have BW : Below w7.heap.size w7 (w7.alloc (.cells #[] 35)) := (Below.refl _ _).alloc (Nat.le_refl _) _
    clear TT UU FL FK hm hn hTm hUm hTn hUn
    go_loopw [11, 12, 13] (fun v nv iv wr => ∃ (j : Nat) (P' : List PI) (A' : Option Addr) (c' : Nat), v = .slice A' P'.length c' ∧ nv = .int .i64 (P'.length : Nat) ∧ j ≤ m + n ∧ iv = .int .i64 j ∧ Hid (PutIn P' ((T ++ U).take j)) ∧ P'.length ≤ 700 ∧ Hid (RdP wr.heap.size wr A' P') ∧ Below w7.heap.size w7 wr) (fun _ _ i _ => m + n - (intOf i).toNat)
    case atStart => exact ⟨0, [], _, _, rfl, rfl, by omega, rfl, HPU, by simp, (show RdP _ _ _ [] from fun j h => by simp at h), BW⟩
    case round =>
      obtain ⟨j, P', A', c', rfl, rfl, hj, rfl, HPI, hP', HPP, hbl⟩ := hrel
      have hbs := hbl.size
      have HGr : Hid (TypeCell wr) := (HG.out.below B hgl).below hbl (by have := B.size; omega)
      by_cases hlt : j < m + n
      · have hjI : ((j : Nat) : Int) < ((m : Nat) : Int) + ((n : Nat) : Int) := by omega
        by_cases hjm : j < m
        · have hjM : ((j : Nat) : Int) < ((m : Nat) : Int) := by omega
          obtain ⟨b1, rfl, hbb, p1⟩ := cellT (HTT.out.below hbl (Nat.le_refl _)) j (by have := HLM.out.1; omega)
          obtain ⟨t, hx⟩ : ∃ t, T[j]'(by have := HLM.out.1; omega) = t := ⟨_, rfl⟩
          have hx2 : (T ++ U)[j]'(by have := HMN.out; omega) = t := by rw [← hx]; exact List.getElem_append_left _
          obtain ⟨hts, htk⟩ := HTS.out t (by rw [← hx2]; exact List.getElem_mem _)
          have HTJ : Hid ((T ++ U).take (j + 1) = (T ++ U).take j ++ [t]) := (show _ = _ from by rw [List.take_succ_eq_append_getElem (by have := HMN.out; omega), hx2])
          rw [hx] at p1
          clear hx hx2
          obtain ⟨⟨X, q, c⟩, hX⟩ : ∃ q, putR P' t = q := ⟨_, rfl⟩
          have hst := same_step P' _ t X q c hX HPI.out htk hts
          have HX : Hid (putR P' t = (X, q, c)) := hX
          clear hX htk
          rcases hst with rfl | ⟨rfl, hl, hXl, HPX⟩ | ⟨rfl, hl, hXl, HPX⟩
          · go_wp2_with (go_at_call 10; refine (polPut_impl A' c' P' t _ HGr.out HPP.out (by omega) (shSizes HPI.out.2.1) (by omega)).mono ?_; rw [HX.out]; rintro e w8 ⟨⟨vx, rfl, ox⟩, hb⟩)
            go_ret
            exact ⟨rfl, B.trans ((hbl.trans (hb.mono hbs)).mono B.size)⟩
          · have HPX2 : Hid (PutIn X ((T ++ U).take (j + 1))) := (show PutIn _ _ from HTJ.out ▸ HPX.out)
            have HL2 := (show Hid (X.length = _) from hl)
            clear hl HPX
            go_wp2_with (go_at_call 10; refine (polPut_impl A' c' P' t _ HGr.out HPP.out (by omega) (shSizes HPI.out.2.1) (by omega)).mono ?_; rw [HX.out]; rintro e w8 ⟨⟨vx, rfl, ox⟩, hb⟩; obtain ⟨AX, cX, rfl, XX⟩ := rdP_of_own ox)
            have HXX : Hid (RdP w8.heap.size w8 AX X) := XX
            have hl := HL2.out
            exact ⟨⟨j + 1, X, AX, cX, rfl, (by first | (rw [hl]; done) | (rw [hl]; rfl) | (rw [hl]; go_num)), by omega, by go_num, HPX2, by omega, HXX, hbl.trans (hb.mono hbs)⟩, by simp [intOf]; omega⟩
          · have HPX2 : Hid (PutIn X ((T ++ U).take (j + 1))) := (show PutIn _ _ from HTJ.out ▸ HPX.out)
            have HL2 := (show Hid (X.length = _) from hl)
            clear hl HPX
            go_wp2_with (go_at_call 10; refine (polPut_impl A' c' P' t _ HGr.out HPP.out (by omega) (shSizes HPI.out.2.1) (by omega)).mono ?_; rw [HX.out]; rintro e w8 ⟨⟨vx, rfl, ox⟩, hb⟩; obtain ⟨AX, cX, rfl, XX⟩ := rdP_of_own ox)
            have HXX : Hid (RdP w8.heap.size w8 AX X) := XX
            have hl := HL2.out
            exact ⟨⟨j + 1, X, AX, cX, rfl, (by first | (rw [hl]; done) | (rw [hl]; rfl) | (rw [hl]; go_num)), by omega, by go_num, HPX2, by omega, HXX, hbl.trans (hb.mono hbs)⟩, by simp [intOf]; omega⟩
        · obtain ⟨i, rfl⟩ : ∃ i, j = m + i := ⟨j - m, by omega⟩
          have hjM : ¬ ((m + i : Nat) : Int) < ((m : Nat) : Int) := by omega
          have hiI : ((i : Nat) : Int) < ((n : Nat) : Int) := by omega
          obtain ⟨b1, rfl, hbb, p1⟩ := cellT (HUU.out.below hbl (Nat.le_refl _)) i (by have := HLM.out.2; omega)
          obtain ⟨t, hx⟩ : ∃ t, U[i]'(by have := HLM.out.2; omega) = t := ⟨_, rfl⟩
          have hx2 : (T ++ U)[m + i]'(by have := HMN.out; omega) = t := by
            rw [List.getElem_append_right (by have := HLM.out.1; omega), ← hx]
            congr 1
            have := HLM.out.1; omega
          obtain ⟨hts, htk⟩ := HTS.out t (by rw [← hx2]; exact List.getElem_mem _)
          have HTJ : Hid ((T ++ U).take (m + i + 1) = (T ++ U).take (m + i) ++ [t]) := (show _ = _ from by rw [List.take_succ_eq_append_getElem (by have := HMN.out; omega), hx2])
          rw [hx] at p1
          clear hx hx2
          obtain ⟨⟨X, q, c⟩, hX⟩ : ∃ q, putR P' t = q := ⟨_, rfl⟩
          have hst := same_step P' _ t X q c hX HPI.out htk hts
          have HX : Hid (putR P' t = (X, q, c)) := hX
          clear hX htk
          rcases hst with rfl | ⟨rfl, hl, hXl, HPX⟩ | ⟨rfl, hl, hXl, HPX⟩
          · go_wp2_with (go_at_call 10; refine (polPut_impl A' c' P' t _ HGr.out HPP.out (by omega) (shSizes HPI.out.2.1) (by omega)).mono ?_; rw [HX.out]; rintro e w8 ⟨⟨vx, rfl, ox⟩, hb⟩)
            go_ret
            exact ⟨rfl, B.trans ((hbl.trans (hb.mono hbs)).mono B.size)⟩
          · have HPX2 : Hid (PutIn X ((T ++ U).take (m + i + 1))) := (show PutIn _ _ from HTJ.out ▸ HPX.out)
            have HL2 := (show Hid (X.length = _) from hl)
            clear hl HPX
            go_wp2_with (go_at_call 10; refine (polPut_impl A' c' P' t _ HGr.out HPP.out (by omega) (shSizes HPI.out.2.1) (by omega)).mono ?_; rw [HX.out]; rintro e w8 ⟨⟨vx, rfl, ox⟩, hb⟩; obtain ⟨AX, cX, rfl, XX⟩ := rdP_of_own ox)
            have HXX : Hid (RdP w8.heap.size w8 AX X) := XX
            have hl := HL2.out
            exact ⟨⟨m + i + 1, X, AX, cX, rfl, (by first | (rw [hl]; done) | (rw [hl]; rfl) | (rw [hl]; go_num)), by omega, by go_num, HPX2, by omega, HXX, hbl.trans (hb.mono hbs)⟩, by simp [intOf]; omega⟩
          · have HPX2 : Hid (PutIn X ((T ++ U).take (m + i + 1))) := (show PutIn _ _ from HTJ.out ▸ HPX.out)
            have HL2 := (show Hid (X.length = _) from hl)
            clear hl HPX
            go_wp2_with (go_at_call 10; refine (polPut_impl A' c' P' t _ HGr.out HPP.out (by omega) (shSizes HPI.out.2.1) (by omega)).mono ?_; rw [HX.out]; rintro e w8 ⟨⟨vx, rfl, ox⟩, hb⟩; obtain ⟨AX, cX, rfl, XX⟩ := rdP_of_own ox)
            have HXX : Hid (RdP w8.heap.size w8 AX X) := XX
            have hl := HL2.out
            exact ⟨⟨m + i + 1, X, AX, cX, rfl, (by first | (rw [hl]; done) | (rw [hl]; rfl) | (rw [hl]; go_num)), by omega, by go_num, HPX2, by omega, HXX, hbl.trans (hb.mono hbs)⟩, by simp [intOf]; omega⟩
      · obtain rfl : j = m + n := by omega
        have hall : PutIn P' (T ++ U) := by
          have h1 := HPI.out
          rw [← HMN.out, List.take_length] at h1
          exact h1
        have HRL : Hid (treR P' (ia : Int) = some L) := (show _ = _ from by
          have := back_read L P' HK.out (putIn_sub hall (fun t ht => List.mem_append.2 (.inl (HT.out ▸ ht))))
          rw [HI.out] at this
          exact this)
        have HRK : Hid (treR P' (ib : Int) = some K) := (show _ = _ from by
          have := back_read K P' HQ.out (putIn_sub hall (fun t ht => List.mem_append.2 (.inr (HU.out ▸ ht))))
          rw [HJ.out] at this
          exact this)
        have hia := texI_in L
        rw [HI.out] at hia
        have hib := texI_in K
        rw [HJ.out] at hib
        have HIA : Hid (inI (ia : Int)) := hia
        have HIB : Hid (inI (ib : Int)) := hib
        have HAB : Hid (ia = ib ↔ L = K) := (show _ ↔ _ from ⟨fun e => by have := HRL.out; rw [e, HRK.out] at this; exact (Option.some.inj this).symm, fun e => by rw [← HI.out, ← HJ.out, e]⟩)
        have FL := HFL.out.up hbl
        have FK := HFK.out.up hbl
        clear hall hia hib
        have t2 : True := trivial
        by_cases hab : ia = ib
        · subst hab
          go_wp2_with (first
            | (go_at_call 36; have _t := t2; refine (treRead_impl A' c' P' ia _ HGr.out HPP.out (by omega) (shSizes HPI.out.2.1) HIA.out).mono ?_; rw [HRL.out]; unfold TreEnd; simp only [Option.isSome_some, Option.getD_some]; rintro e w8 ⟨⟨vx, rfl, ox⟩, hb⟩; clear _t t2; obtain ⟨AX, cX, rfl, XX⟩ := rdF_of_own ox; replace FL := FL.up hb; replace FK := FK.up hb; have hPP8 := HPP.out.up hb; have hb8 := hbl.trans (hb.mono hbs); have HG8 : Hid (TypeCell w8) := HGr.out.below hb HGr.out.lt; clear hb)
            | (go_at_call 36; refine (treRead_impl A' c' P' ia _ HG8.out hPP8 (by omega) (shSizes HPI.out.2.1) HIB.out).mono ?_; rw [HRK.out]; unfold TreEnd; simp only [Option.isSome_some, Option.getD_some]; rintro e w9 ⟨⟨vy, rfl, oy⟩, hb⟩; obtain ⟨AY, cY, rfl, YY⟩ := rdF_of_own oy; replace FL := FL.up hb; replace FK := FK.up hb; replace XX := XX.up hb; have hb9 := hb8.trans (hb.mono hb8.size); clear hb hPP8)
            | (go_at_call_of 37 AX; refine (chFiles_same AX AL cX cL L _ XX FL (by omega)).mono ?_; rintro e wB ⟨rfl, hb⟩; replace FK := FK.up hb; replace YY := YY.up hb; have hb11 := hb10.trans (hb.mono hb10.size); clear hb)
            | (go_at_call_of 37 AY; refine (chFiles_same AY AK cY cK K _ YY FK (by omega)).mono ?_; rintro e wC ⟨rfl, hb⟩; have hb12 := hb11.trans (hb.mono hb11.size); clear hb)
            | (go_at_call 37; refine (chFiles_two AL AK cL cK L K _ FL FK (by omega) (by omega)).mono ?_; rintro e wA ⟨⟨r, rfl, hr⟩, hb⟩; obtain rfl : r = true := hr.2 (HAB.out.1 (by first | trivial | rfl)); replace FL := FL.up hb; replace FK := FK.up hb; replace XX := XX.up hb; replace YY := YY.up hb; have hb10 := hb9.trans (hb.mono hb9.size); clear hb hr))
          go_ret
          exact ⟨rfl, B.trans (hb12.mono B.size)⟩
        · have habI : ¬ ((ia : Nat) : Int) = ((ib : Nat) : Int) := by omega
          have habB : (((ia : Nat) : Int) == ((ib : Nat) : Int)) = false := by simpa using habI
          have habC : (!(((ia : Nat) : Int) == ((ib : Nat) : Int))) = true := by rw [habB]; rfl
          go_wp2_with (first
            | (go_at_call 36; have _t := t2; refine (treRead_impl A' c' P' ia _ HGr.out HPP.out (by omega) (shSizes HPI.out.2.1) HIA.out).mono ?_; rw [HRL.out]; unfold TreEnd; simp only [Option.isSome_some, Option.getD_some]; rintro e w8 ⟨⟨vx, rfl, ox⟩, hb⟩; clear _t t2; obtain ⟨AX, cX, rfl, XX⟩ := rdF_of_own ox; replace FL := FL.up hb; replace FK := FK.up hb; have hPP8 := HPP.out.up hb; have hb8 := hbl.trans (hb.mono hbs); have HG8 : Hid (TypeCell w8) := HGr.out.below hb HGr.out.lt; clear hb)
            | (go_at_call 36; refine (treRead_impl A' c' P' ib _ HG8.out hPP8 (by omega) (shSizes HPI.out.2.1) HIB.out).mono ?_; rw [HRK.out]; unfold TreEnd; simp only [Option.isSome_some, Option.getD_some]; rintro e w9 ⟨⟨vy, rfl, oy⟩, hb⟩; obtain ⟨AY, cY, rfl, YY⟩ := rdF_of_own oy; replace FL := FL.up hb; replace FK := FK.up hb; replace XX := XX.up hb; have hb9 := hb8.trans (hb.mono hb8.size); clear hb hPP8)
            | (go_at_call_of 37 AX; refine (chFiles_same AX AL cX cL L _ XX FL (by omega)).mono ?_; rintro e wB ⟨rfl, hb⟩; replace FK := FK.up hb; replace YY := YY.up hb; have hb11 := hb10.trans (hb.mono hb10.size); clear hb)
            | (go_at_call_of 37 AY; refine (chFiles_same AY AK cY cK K _ YY FK (by omega)).mono ?_; rintro e wC ⟨rfl, hb⟩; have hb12 := hb11.trans (hb.mono hb11.size); clear hb)
            | (go_at_call 37; refine (chFiles_two AL AK cL cK L K _ FL FK (by omega) (by omega)).mono ?_; rintro e wA ⟨⟨r, rfl, hr⟩, hb⟩; obtain rfl : r = false := (by cases r with | false => rfl | true => exact absurd (HAB.out.2 (hr.1 rfl)) hab); replace FL := FL.up hb; replace FK := FK.up hb; replace XX := XX.up hb; replace YY := YY.up hb; have hb10 := hb9.trans (hb.mono hb9.size); clear hb hr))
          go_ret
          first | exact ⟨rfl, B.trans (hb12.mono B.size)⟩ | exact ⟨ret_bool habC, B.trans (hb12.mono B.size)⟩

set_option maxRecDepth 100000 in
theorem contract (H : Type) (enc : TypeId × Value → H) (W : World) (base : Nat) (args : Array Value) (ds gs : List (DataW H)) (before : List MemPlace)
    (hval0 : ∀ (j : Nat) t v, Tryz.f7.params[j]? = some t → args[j]? = some v → Value.okWide Tryz.prog W .any base t v)
    (hW : DataW.Whole enc Tryz.prog Tryz.f7.params.toList Rows.fnTreSameSpec.vars false W args.toList ds gs before) (hL : laidMetH Tryz.prog Rows.fnTreSameRow.laid W) :
    Calls Tryz.prog 7 args W fun e W' => ∃ v, e = .returned v ∧ Rows.fnTreSameSpec.post enc Tryz.prog Tryz.f7 false true false false W args v W' := by
  have hval := hval0
  have hW' := hW
  obtain ⟨p, q, hA0, hV, rfl, hfz, hnd⟩ := hW
  have hA : DataW.TrodAll enc Tryz.prog W 0 (fun _ => true) true Tryz.f7.params.toList args.toList ds p := hA0
  rw [Tryz.params7] at hA hval
  obtain ⟨v0, vs0, d0, ds0, p0, q0, hargs, rfl, rfl, h0, r0⟩ := trodAll_cons hA
  obtain ⟨rfl, rfl, rfl⟩ := trodAll_nil r0
  obtain rfl : args = #[v0] := by cases args; simp_all
  obtain ⟨rfl, rfl⟩ := trodVars_none hV
  have k0 := h0
  obtain ⟨a0, len0, cap0, rfl⟩ := okWide_slice Tryz.underlying22 (hval 0 22 v0 rfl rfl)
  obtain ⟨z0, s0⟩ : ∃ zs : List Int, Go.Proofs.YthfffpdkmoclbaaGreatDoor.W.Src W a0 len0 cap0 (fun i => zs.getD i 0) := by
    obtain ⟨fuel, hf⟩ := h0
    rcases open_ints Tryz.underlying22 Tryz.underlying5 (by kernel_rfl) hf with ⟨hcs, _⟩ | ⟨x, l, c, zs, hcs, _, hl, hm, hz, _, hcell, hwz⟩
    · simp [Value.cells] at hcs
      obtain ⟨rfl, rfl, rfl⟩ := hcs
      exact ⟨[], Go.Proofs.YthfffpdkmoclbaaGreatDoor.W.src_of W _ _ _ [] (.inl ⟨rfl, rfl, rfl, rfl⟩)⟩
    · simp [Value.cells] at hcs
      obtain ⟨rfl, rfl, rfl⟩ := hcs
      exact ⟨zs, Go.Proofs.YthfffpdkmoclbaaGreatDoor.W.src_of W _ _ _ zs (.inr ⟨_, rfl, hl, hm, by simpa using hz, hcell, hwz⟩)⟩
  clear hA0 hval0
  simp only [List.append_nil] at hW'
  refine (walk a0 len0 cap0 z0 W (handle_of_laid hL) s0).mono fun e W' ⟨he, hg⟩ => ?_
  subst he
  exact ⟨_, rfl, _, _, _, [], _, [], hW', (trodAll_cons_mk (shut_bool Tryz.underlying4 _) trodAll_mk0), (trodAll_cons_mk (Below.trod laidOut (by kernel_rfl) (of_decide_eq_true (by kernel_rfl)) k0 hg (fun x hx => hW'.lt x (by first | (simp [hx]; done) | simp at hx))) trodAll_mk0), rfl, hg.frame _, fun h => by cases h⟩

noncomputable def laidWorld (os : Os) : World :=
  { World.holding Tryz.prog os ⟨#[], #[], []⟩ with heap := (World.holding Tryz.prog os ⟨#[], #[], []⟩).heap.modify 0 fun
      | .cells _ t frozen => .cells #[.iface 206 (.agg #[.pointer (some ⟨2, 155, none⟩)])] t frozen
      | o => o }
theorem laid_met (os : Os) : laidMetH Tryz.prog Rows.fnTreSameRow.laid ((laidWorld os).forCall (fun _ _ => 0) ⟨#[], #[.slice none 0 0], []⟩).memory :=
  laidMetH_of_parts (laidMet_nil _ _) (by kernel_rfl)
theorem reads (os : Os) {H : Type} (enc : TypeId × Value → H) : ∃ places, DataW.whole enc Tryz.prog ((laidWorld os).forCall (fun _ _ => 0) ⟨#[], #[.slice none 0 0], []⟩).memory Tryz.f7.params.toList Rows.fnTreSameSpec.vars false #[Value.slice none 0 0].toList 8 = some ([.nil], [], places) :=
  ⟨[], by kernel_rfl⟩

set_option maxRecDepth 100000 in
theorem lifted (os : Os) (started : os.Started) (H : Type) (enc : TypeId × Value → H) (F : Stop.Interp) :
    ReturnsInHanded {} Tryz.checked os 7 .any ((OpenSpec.ofChange Rows.fnTreSameSpec).preRow enc Tryz.prog Tryz.f7 Rows.fnTreSameRow.domain false Rows.fnTreSameRow.laid) (((OpenSpec.ofChange Rows.fnTreSameSpec).at F).post enc Tryz.prog Tryz.f7 false true false false) := by
  obtain ⟨places, hx⟩ := reads os enc
  refine returnsInHanded_of_row (C := Tryz.checked) (s := OpenSpec.ofChange Rows.fnTreSameSpec) own started (by kernel_rfl) Tryz.func7
    (witness_row_at (enc := enc) (C := Tryz.checked) false (laidWorld os) #[.slice none 0 0] rfl (by kernel_rfl) (by kernel_rfl) (by kernel_rfl)
      (OpenSpec.preRow_of_cond 8 hx (by kernel_rfl) (fun k hk => by cases hk) (by kernel_rfl) (laid_met os))) ?_
  intro W base args ds gs before hval hW _ _ _ hL _ _
  exact contract H enc W base args ds gs before hval hW hL

theorem said : Rows.FnTreSameSaid :=
  OpenClaim.holds_of_cond 7 Tryz.f7 rfl rfl rfl rfl rfl rfl rfl ⟨rfl, rfl, rfl, rfl, rfl⟩ rfl rfl rfl rfl rfl (by kernel_rfl) Tryz.func7 (by kernel_rfl)
    (of_decide_eq_true (by kernel_rfl)) (by unfold Func.isWrapper; first | (rw [if_pos (by decide +kernel)]; kernel_rfl) | (rw [if_neg (by decide +kernel)]; exact ⟨rfl, rfl⟩))
    (fun os started H enc _ F => by rw [OpenClaim.pre_eq_preRow]; exact lifted os started H enc F)
theorem plain (f : FuncId) (fn : Func) (hf : Tryz.pinned.checked.prog.funcNamed "loop.example/chartulary/laws.FnTreSame" = some f) (hfn : Tryz.pinned.checked.prog.funcs[f]? = some fn) :
    true = Tryz.pinned.checked.prog.looks [] ∧ ∀ (j : Nat) t, fn.params[j]? = some t → Tryz.pinned.checked.prog.wantsStandIn t = false := by
  obtain rfl : f = 7 := Option.some.inj ((show Tryz.prog.funcNamed "loop.example/chartulary/laws.FnTreSame" = some 7 by kernel_rfl).symm.trans hf) |>.symm
  obtain rfl : fn = Tryz.f7 := (Option.some.inj (Tryz.func7.symm.trans hfn)).symm
  refine ⟨by kernel_rfl, fun j t ht => ?_⟩
  rw [Tryz.params7] at ht
  obtain rfl : t = 22 := by simpa using Array.mem_of_getElem? ht
  exact (show Tryz.prog.wantsStandIn 22 = false by kernel_rfl)
theorem proved : Rows.FnTreSameCardSaid :=
  Claim7.holds_tied_plain_at .later [] _ _ _ _ said (fun _ h => by cases h) (by kernel_rfl) (fun _ h => by cases h) fnTreSame_row_tie rfl ⟨rfl, rfl⟩ (by kernel_rfl) rfl plain (by kernel_rfl)
#print axioms proved
end Go.Proofs.YthfffpdkmoclbaaGreatDoor.fnTreSame
