/-
  At every answer DskAnswer of the program answers as the specification's DskAnswer, line by line, in new memory, which nothing else holds; the answer reads as it did. No condition but the card's: Go's own tables that the row names hold what the program's text lays; the card ties them.
-/
import Derived.Test.YtfpchfmjgjlelaaDoorCards
import Derived.Test.YtfpchfmjgjlelaaDoorTie
import Derived.WalkKit
import Derived.ProofKit
import Derived.OpenShut
import Derived.ShutString
import Derived.Below
import Derived.Carry
import Derived.LaidLaws
import Derived.Lay
import Derived.LaidHandle
import Derived.Stop.LaidErr
import Derived.Deep.DeepHandedRow
import Derived.Test.YtfpchfmjgjlelaaDoorOpenA1
import Derived.Test.YtfpchfmjgjlelaaDoorRowAM
import Derived.Test.YtfpchfmjgjlelaaDoorWalkDskI
import Derived.Test.YtfpchfmjgjlelaaDoorMathOwn
import Derived.Deep.RegionWith
namespace Go.Proofs.YtfpchfmjgjlelaaDoor.fnExactDskAnswer
open Go.ChangeShapes Go.WideShapes Go.ChangeAt Go.RowKit
open Go.ChangeMaps (open_string shut_string)
set_option linter.unusedVariables false

theorem own : ownKnob Tryd.prog.godebug = none := by kernel_rfl
theorem laidOut : laidOutB Tryd.prog = true := by kernel_rfl

theorem tab_of {W : World} (h : laidMetH Tryd.prog Rows.fnExactDskAnswerRow.laid W) : Go.Proofs.YtfpchfmjgjlelaaDoor.W.Tab W := by
  have hL : laidMet Tryd.prog Rows.fnExactDskAnswerRow.laid W := h
  exact Lib.tabIs_of_head (g := 0) (by kernel_rfl) (by kernel_rfl) Tryd.underlying64 Tryd.underlying57 (by kernel_rfl) (by kernel_rfl) hL.tail.tail

open Go.Proofs.YtfpchfmjgjlelaaDoor.W Go.Proofs.YtfpchfmjgjlelaaDoor.M in
theorem szF_each (L : List TF) (j : Nat) (h : j < L.length) : (L[j]).pa.size ≤ szF L ∧ (L[j]).by_.size ≤ szF L := by
  have h1 := szF_snoc L j h
  have h2 := szF_le L (j + 1)
  omega
open Go.Proofs.YtfpchfmjgjlelaaDoor.W Go.Proofs.YtfpchfmjgjlelaaDoor.M in
theorem szT_each (N : List (List UInt8)) (j : Nat) (h : j < N.length) : (N[j]).length ≤ szT N := by
  have h1 := szT_snoc N j h
  have h2 := szT_le N (j + 1)
  omega
open Go.Proofs.YtfpchfmjgjlelaaDoor.W Go.Proofs.YtfpchfmjgjlelaaDoor.M in
theorem fits (x : AN) (hz : szA x ≤ 1048576) : x.files.length ≤ 1048576 ∧ x.names.length ≤ 1048576 ∧ (∀ j (h : j < x.files.length), (x.files[j]).pa.size ≤ 1048576 ∧ (x.files[j]).by_.size ≤ 1048576) ∧ (∀ j (h : j < x.names.length), (x.names[j]).length ≤ 1048576) := by
  unfold szA at hz
  exact ⟨by omega, by omega, fun j h => by have := szF_each x.files j h; omega, fun j h => by have := szT_each x.names j h; omega⟩
open Go.Proofs.YtfpchfmjgjlelaaDoor.W Go.Proofs.YtfpchfmjgjlelaaDoor.M in
theorem dskS_own (x : AN) {b1 b2 : Nat} (v u : Value) (w : World) (o1 : w.ownsRow b1 41 2 v x.files.length (cellsF x.files)) (o2 : w.ownsRow b2 9 1 u x.names.length (strs x.names)) (hz : szA x ≤ 1048576) :
    Calls Tryd.prog 5 #[.agg (x.at_ v u)] w fun e w' => (∃ v, e = .returned v ∧ w'.ownsRow w.heap.size 9 1 v (ansL x).length (strs (ansL x))) ∧ Below w.heap.size w w' := by
  obtain ⟨f1, f2, f3, f4⟩ := fits x hz
  unfold ansL
  cases hk : okA x
  · rw [if_neg (by decide)]
    exact dsk_bad x v u w hk
  · rw [if_pos rfl]
    obtain ⟨A, c, rfl, r1⟩ := rdF_of_own o1
    obtain ⟨B, d, rfl, r2⟩ := rdS_of_own o2
    exact dsk_good x A B c d w hk r1 r2 f1 f2 f3 f4
open Go.Proofs.YtfpchfmjgjlelaaDoor.W Go.Proofs.YtfpchfmjgjlelaaDoor.M in
theorem dskI_own (x : AN) {b1 b2 : Nat} (v u : Value) (w : World) (hT : Tab w) (o1 : w.ownsRow b1 41 2 v x.files.length (cellsF x.files)) (o2 : w.ownsRow b2 9 1 u x.names.length (strs x.names)) (hz : szA x ≤ 1048576) :
    Calls Tryd.prog 7 #[.agg (x.at_ v u)] w fun e w' => (∃ v, e = .returned v ∧ w'.ownsRow w.heap.size 9 1 v (ansL x).length (strs (ansL x))) ∧ Below w.heap.size w w' := by
  obtain ⟨f1, f2, f3, f4⟩ := fits x hz
  unfold ansL
  cases hk : okA x
  · rw [if_neg (by decide)]
    exact dskI_bad x v u w hk
  · rw [if_pos rfl]
    obtain ⟨A, c, rfl, r1⟩ := rdF_of_own o1
    obtain ⟨B, d, rfl, r2⟩ := rdS_of_own o2
    exact dskI_good x A B c d w hT hk r1 r2 f1 f2 f3 f4
open Go.Proofs.YtfpchfmjgjlelaaDoor.W Go.Proofs.YtfpchfmjgjlelaaDoor.M in
theorem markS_big (base : Nat) (v : Value) (L : List (List UInt8)) (w : World) (o : w.ownsRow base 9 1 v L.length (strs L)) (hbase : base ≤ w.heap.size) (hL : L.length ≤ 10000000) :
    Calls Tryd.prog 11 #[v, .int .i64 1] w fun e w' => e = .returned (.int .i64 ((1 + L.length : Nat) : Int)) ∧ w'.ownsRow base 9 1 v L.length (strs (marks 1 L.length)) ∧ Below base w w' := by
  by_cases h0 : L.length = 0
  · exact markS_row base v L w o hbase (by omega)
  · rcases o.2 with ⟨_, h⟩ | ⟨g, cap, _, rfl, hg, _⟩
    · exact absurd h h0
    · exact markS_any base g cap 1 L w o hbase hg (by omega) (by omega)
open Go.Proofs.YtfpchfmjgjlelaaDoor.W Go.Proofs.YtfpchfmjgjlelaaDoor.M in
theorem heldS_big (base : Nat) (v : Value) (n : Nat) (w : World) (o : w.ownsRow base 9 1 v n (strs (marks 1 n))) (hL : n ≤ 10000000) :
    Calls Tryd.prog 12 #[v, .int .i64 1] w fun e w' => e = .returned (.int .i64 ((1 + n : Nat) : Int)) ∧ Below w.heap.size w w' := by
  by_cases h0 : n = 0
  · exact heldS_row base v n w o (by omega)
  · rcases o.2 with ⟨_, h⟩ | ⟨g, cap, _, rfl, _⟩
    · exact absurd h h0
    · exact heldS_any base g cap 1 n w o (by omega) (by omega)
open Go.Proofs.YtfpchfmjgjlelaaDoor.W Go.Proofs.YtfpchfmjgjlelaaDoor.M in
set_option maxRecDepth 100000 in
set_option maxHeartbeats 16000000 in
theorem walk (x0 : Go.Proofs.YtfpchfmjgjlelaaDoor.W.AN) (A0 : Option Addr) (c0 : Nat) (B0 : Option Addr) (e0 : Nat) (y0 : Go.Proofs.YtfpchfmjgjlelaaDoor.W.fitA x0) (w : World) (rd0 : Go.Proofs.YtfpchfmjgjlelaaDoor.W.RdF w.heap.size w A0 x0.files) (rs0 : Go.Proofs.YtfpchfmjgjlelaaDoor.W.RdS w.heap.size w B0 x0.names) (G : Go.Proofs.YtfpchfmjgjlelaaDoor.W.Tab w) :
    Calls Tryd.prog 3 #[.agg (x0.at_ (.slice A0 x0.files.length c0) (.slice B0 x0.names.length e0))] w fun e w' => e = .returned (.bool true) ∧ Below w.heap.size w w' := by
  obtain ⟨N, hN⟩ : ∃ N, N = ansL x0 := ⟨_, rfl⟩
  have hNl : szA x0 ≤ 1048576 → N.length ≤ 1048576 * 3 := fun h => by
    rw [hN]; have h1 := ansL_len x0; have h2 := fits x0 h; omega
  have HP : Hid (∀ {b1 b2 : Nat} (v u : Value) (w : World) (o1 : w.ownsRow b1 41 2 v x0.files.length (cellsF x0.files)) (o2 : w.ownsRow b2 9 1 u x0.names.length (strs x0.names)) (hz : szA x0 ≤ 1048576), Calls Tryd.prog 5 #[.agg (x0.at_ v u)] w fun e w' => (∃ v, e = .returned v ∧ w'.ownsRow w.heap.size 9 1 v N.length (strs N)) ∧ Below w.heap.size w w') := fun v u w o1 o2 hz => by rw [hN]; exact dskS_own x0 v u w o1 o2 hz
  have HI : Hid (∀ {b1 b2 : Nat} (v u : Value) (w : World) (hT : Tab w) (o1 : w.ownsRow b1 41 2 v x0.files.length (cellsF x0.files)) (o2 : w.ownsRow b2 9 1 u x0.names.length (strs x0.names)) (hz : szA x0 ≤ 1048576), Calls Tryd.prog 7 #[.agg (x0.at_ v u)] w fun e w' => (∃ v, e = .returned v ∧ w'.ownsRow w.heap.size 9 1 v N.length (strs N)) ∧ Below w.heap.size w w') := fun v u w hT o1 o2 hz => by rw [hN]; exact dskI_own x0 v u w hT o1 o2 hz
  clear hN
  have tk1 : True := trivial
  have tk2 : True := trivial
  obtain ⟨w0, hw0, D, BW⟩ : ∃ w0, w.alloc (.cells (x0.at_ (.slice A0 x0.files.length c0) (.slice B0 x0.names.length e0)) 25) = w0 ∧ AtA w0 w.heap.size x0 (.slice A0 x0.files.length c0) (.slice B0 x0.names.length e0) ∧ Below w.heap.size w w0 := ⟨_, rfl, atA_new w x0 _ _ _, (Below.refl _ w).alloc (Nat.le_refl _) _⟩
  replace rd0 := rd0.up BW
  replace rs0 := rs0.up BW
  have G0 : Hid (Tab w0) := G.up BW
  have hlt := D.lt
  have HD : Hid (AtA w0 w.heap.size x0 (.slice A0 x0.files.length c0) (.slice B0 x0.names.length e0)) := D
  have HRd : Hid (RdF w0.heap.size w0 A0 x0.files) := rd0
  have HRs : Hid (RdS w0.heap.size w0 B0 x0.names) := rs0
  have HBW : Hid (Below w.heap.size w w0) := BW
  have BB := Below.refl w0.heap.size w0
  obtain ⟨d0, d1, d2, d3⟩ := D.all
  simp only [AN.at_] at hw0 ⊢
  clear D G rd0 rs0 BW
  go_enter Tryd.func3, Tryd.ntmps3
  go_wp2_with (first
    | (go_at_call 4; refine (szA_any x0 A0 B0 c0 e0 _ HRd.out HRs.out y0).mono ?_; rintro e w1 ⟨⟨r, rfl, hr | ⟨hr, hz⟩⟩, hb⟩; rotate_left; clear d0 d1 d2 d3; (try replace hz4 := Nat.le_trans hz4 hb.size); replace BB := BB.trans (hb.mono BB.size); obtain ⟨d0, d1, d2, d3⟩ := (HD.out.below BB hlt).all; clear hb)
    | (go_at_call 6; have _t := tk1; refine (toA_any x0 A0 B0 c0 e0 _ ((HRd.out.below BB (Nat.le_refl _)).mono BB.size) ((HRs.out.below BB (Nat.le_refl _)).mono BB.size) (fits x0 hz).1 (fits x0 hz).2.1).mono ?_; simp only [AN.at_]; rintro e w2 ⟨⟨v1, u1, rfl, o1, o2⟩, hb⟩; clear _t tk1; clear d0 d1 d2 d3; (try replace hz4 := Nat.le_trans hz4 hb.size); replace BB := BB.trans (hb.mono BB.size); obtain ⟨d0, d1, d2, d3⟩ := (HD.out.below BB hlt).all; clear hb)
    | (go_at_call 5; refine (HP.out v1 u1 _ o1 o2 hz).mono ?_; rintro e w3 ⟨⟨v0, rfl, o0⟩, hb⟩; clear d0 d1 d2 d3; (try replace hz4 := Nat.le_trans hz4 hb.size); replace BB := BB.trans (hb.mono BB.size); obtain ⟨d0, d1, d2, d3⟩ := (HD.out.below BB hlt).all; clear hb o1 o2)
    | (go_at_call 6; have _t := tk2; refine (toA_any x0 A0 B0 c0 e0 _ ((HRd.out.below BB (Nat.le_refl _)).mono BB.size) ((HRs.out.below BB (Nat.le_refl _)).mono BB.size) (fits x0 hz).1 (fits x0 hz).2.1).mono ?_; simp only [AN.at_]; rintro e w4 ⟨⟨xv, xu, rfl, ox, oy⟩, hb⟩; obtain ⟨AX, cX, rfl, rx9⟩ := rdF_of_own ox; obtain ⟨AU, cU, rfl, ru9⟩ := rdS_of_own oy; clear _t tk2 rx9 ru9; have s0x := ownsLt o0; have bx := BB.size; replace o0 := ownsUnder o0 hb (Nat.le_refl _); clear d0 d1 d2 d3; (try replace hz4 := Nat.le_trans hz4 hb.size); replace BB := BB.trans (hb.mono BB.size); obtain ⟨d0, d1, d2, d3⟩ := (HD.out.below BB hlt).all; clear hb)
    | (go_at_call 7; have hb := (Below.refl w4.heap.size w4).alloc (Nat.le_refl _) (.cells (x0.at_ (.slice AX x0.files.length cX) (.slice AU x0.names.length cU)) 30); have E := atA_new w4 x0 (.slice AX x0.files.length cX) (.slice AU x0.names.length cU) 30; have sxg := ownsLt ox; have syg := ownsLt oy; have s0g := ownsLt o0; have bg := BB.size; replace o0 := ownsUnder o0 hb (Nat.le_refl _); replace ox := ownsUnder ox hb (Nat.le_refl _); replace oy := ownsUnder oy hb (Nat.le_refl _); replace BB := BB.trans (hb.mono BB.size); clear hb; refine (HI.out (.slice AX x0.files.length cX) (.slice AU x0.names.length cU) _ (G0.out.up BB) ox oy hz).mono ?_; rintro e w5 ⟨⟨g, rfl, og⟩, hb⟩; replace og := ownsUpA og (show w4.heap.size ≤ _ by simp); replace E := E.up hb; replace o0 := ownsUnder o0 hb (Nat.le_refl _); replace ox := ownsUnder ox hb (Nat.le_refl _); replace oy := ownsUnder oy hb (Nat.le_refl _); clear d0 d1 d2 d3; (try replace hz4 := Nat.le_trans hz4 hb.size); replace BB := BB.trans (hb.mono BB.size); obtain ⟨d0, d1, d2, d3⟩ := (HD.out.below BB hlt).all; have hz4 : w4.heap.size ≤ w5.heap.size := Nat.le_trans (by simp) hb.size; clear hb; have hE := E.lt; obtain ⟨f0, f1, f2, f3⟩ := E.all)
    | (go_at_call_of 8 g; refine (eqS_any _ _ g v0 _ _ og o0 (by have := hNl hz; omega)).mono ?_; rintro e w6 ⟨rfl, hb⟩; replace o0 := ownsUnder o0 hb (Nat.le_refl _); replace ox := ownsUnder ox hb (Nat.le_refl _); replace oy := ownsUnder oy hb (Nat.le_refl _); replace og := ownsUnder og hb (Nat.le_refl _); replace E := E.up hb; clear f0 f1 f2 f3; obtain ⟨f0, f1, f2, f3⟩ := E.all; clear d0 d1 d2 d3; (try replace hz4 := Nat.le_trans hz4 hb.size); replace BB := BB.trans (hb.mono BB.size); obtain ⟨d0, d1, d2, d3⟩ := (HD.out.below BB hlt).all; clear hb))
  · have hb := (Below.refl w6.heap.size w6).drew
    replace o0 := ownsUnder o0 hb (Nat.le_refl _)
    replace ox := ownsUnder ox hb (Nat.le_refl _)
    replace oy := ownsUnder oy hb (Nat.le_refl _)
    replace og := ownsUnder og hb (Nat.le_refl _)
    replace E := E.up hb
    clear f0 f1 f2 f3 d0 d1 d2 d3
    replace hz4 := Nat.le_trans hz4 hb.size
    replace BB := BB.trans (hb.mono BB.size)
    obtain ⟨f0, f1, f2, f3⟩ := E.all
    obtain ⟨d0, d1, d2, d3⟩ := (HD.out.below BB hlt).all
    clear hb
    go_region_with (first
      | (go_at_call 6; refine (toA_any x0 A0 B0 c0 e0 _ ((HRd.out.below BB (Nat.le_refl _)).mono BB.size) ((HRs.out.below BB (Nat.le_refl _)).mono BB.size) (fits x0 hz).1 (fits x0 hz).2.1).mono ?_; simp only [AN.at_]; rintro e w7 ⟨⟨yv, yu, rfl, p1, p2⟩, hb⟩; replace o0 := ownsUnder o0 hb (Nat.le_refl _); replace ox := ownsUnder ox hb (Nat.le_refl _); replace oy := ownsUnder oy hb (Nat.le_refl _); replace og := ownsUnder og hb (Nat.le_refl _); replace E := E.up hb; clear f0 f1 f2 f3; obtain ⟨f0, f1, f2, f3⟩ := E.all; clear d0 d1 d2 d3; (try replace hz4 := Nat.le_trans hz4 hb.size); replace BB := BB.trans (hb.mono BB.size); obtain ⟨d0, d1, d2, d3⟩ := (HD.out.below BB hlt).all; clear hb)
      | (go_at_call 9; refine (eqA_same x0 (.slice AX x0.files.length cX) (.slice AU x0.names.length cU) yv yu _ ox oy p1 p2 (fits x0 hz).1 (fits x0 hz).2.1).mono ?_; rintro e w8 ⟨rfl, hb⟩; replace o0 := ownsUnder o0 hb (Nat.le_refl _); replace ox := ownsUnder ox hb (Nat.le_refl _); replace oy := ownsUnder oy hb (Nat.le_refl _); replace og := ownsUnder og hb (Nat.le_refl _); replace E := E.up hb; clear f0 f1 f2 f3; obtain ⟨f0, f1, f2, f3⟩ := E.all; clear d0 d1 d2 d3; (try replace hz4 := Nat.le_trans hz4 hb.size); replace BB := BB.trans (hb.mono BB.size); obtain ⟨d0, d1, d2, d3⟩ := (HD.out.below BB hlt).all; clear hb p1 p2))
    all_goals
      have tk3 : True := trivial
      go_wp2_with (first
        | (go_at_call 10; refine (markA_own x0 (.slice AX x0.files.length cX) (.slice AU x0.names.length cU) _ ox oy (fits x0 hz).1 (fits x0 hz).2.1).mono ?_; rintro e w9 ⟨⟨k, rfl⟩, wa, wb, hb, hg1, hg2⟩; clear d0 d1 d2 d3 f0 f1 f2 f3 E hE; replace o0 := ownsUnder o0 hb (Nat.le_refl _); replace ox := ownsUnder ox hb (Nat.le_refl _); replace oy := ownsUnder oy hb (Nat.le_refl _); replace og := ownsUnder og hb (Nat.le_refl _); replace hz4 := Nat.le_trans (Nat.le_trans (Nat.le_trans hz4 hb.size) hg1.size) hg2.size; replace BB := BB.trans (hb.mono BB.size); clear hb; have oy' := oy.kept hg1 (apartA oy ox (by decide)); replace o0 := keptLo o0 s0x ox hg1; replace og := keptHi og ox sxg hg1; replace BB := growOwn BB BB.size ox hg1 bx; replace o0 := keptLo o0 s0x oy' hg2; replace og := keptHi og oy' syg hg2; replace BB := growOwn BB BB.size oy' hg2 bx; clear hg1 hg2 ox oy oy'; obtain ⟨d0, d1, d2, d3⟩ := (HD.out.below BB hlt).all)
        | (go_at_call_of 8 g; have _t := tk3; refine (eqS_any _ _ g v0 _ _ og o0 (by have := hNl hz; omega)).mono ?_; rintro e wA ⟨rfl, hb⟩; clear _t tk3; replace o0 := ownsUnder o0 hb (Nat.le_refl _); replace og := ownsUnder og hb (Nat.le_refl _); clear d0 d1 d2 d3; (try replace hz4 := Nat.le_trans hz4 hb.size); replace BB := BB.trans (hb.mono BB.size); obtain ⟨d0, d1, d2, d3⟩ := (HD.out.below BB hlt).all; clear hb)
        | (go_at_call 11; refine (markS_big w4.heap.size g _ _ og hz4 (by have := hNl hz; omega)).mono ?_; rintro e wB ⟨rfl, og', hb⟩; replace o0 := ownsBelow' o0 hb s0g; clear d0 d1 d2 d3; replace BB := BB.trans (hb.mono bg); obtain ⟨d0, d1, d2, d3⟩ := (HD.out.below BB hlt).all; clear og hb)
        | (go_at_call 12; refine (heldS_big _ g _ _ og' (by have := hNl hz; omega)).mono ?_; rintro e wC ⟨rfl, hb⟩; replace o0 := ownsUnder o0 hb (Nat.le_refl _); replace og' := ownsUnder og' hb (Nat.le_refl _); clear d0 d1 d2 d3; (try replace hz4 := Nat.le_trans hz4 hb.size); replace BB := BB.trans (hb.mono BB.size); obtain ⟨d0, d1, d2, d3⟩ := (HD.out.below BB hlt).all; clear hb)
        | (go_at_call 6; refine (toA_any x0 A0 B0 c0 e0 _ ((HRd.out.below BB (Nat.le_refl _)).mono BB.size) ((HRs.out.below BB (Nat.le_refl _)).mono BB.size) (fits x0 hz).1 (fits x0 hz).2.1).mono ?_; simp only [AN.at_]; rintro e wD ⟨⟨zv, zu, rfl, q1, q2⟩, hb⟩; replace o0 := ownsUnder o0 hb (Nat.le_refl _); replace og' := ownsUnder og' hb (Nat.le_refl _); clear d0 d1 d2 d3; (try replace hz4 := Nat.le_trans hz4 hb.size); replace BB := BB.trans (hb.mono BB.size); obtain ⟨d0, d1, d2, d3⟩ := (HD.out.below BB hlt).all; clear hb)
        | (go_at_call 7; refine (HI.out zv zu _ (G0.out.up BB) q1 q2 hz).mono ?_; rintro e wE ⟨⟨h, rfl, oh⟩, hb⟩; replace o0 := ownsUnder o0 hb (Nat.le_refl _); replace og' := ownsUnder og' hb (Nat.le_refl _); clear d0 d1 d2 d3; (try replace hz4 := Nat.le_trans hz4 hb.size); replace BB := BB.trans (hb.mono BB.size); obtain ⟨d0, d1, d2, d3⟩ := (HD.out.below BB hlt).all; clear hb q1 q2)
        | (go_at_call_of 8 h; refine (eqS_any _ _ h v0 _ _ oh o0 (by have := hNl hz; omega)).mono ?_; rintro e wF ⟨rfl, hb⟩; replace o0 := ownsUnder o0 hb (Nat.le_refl _); replace og' := ownsUnder og' hb (Nat.le_refl _); clear d0 d1 d2 d3; (try replace hz4 := Nat.le_trans hz4 hb.size); replace BB := BB.trans (hb.mono BB.size); obtain ⟨d0, d1, d2, d3⟩ := (HD.out.below BB hlt).all; clear hb))
      go_ret
      exact ⟨rfl, HBW.out.trans (BB.mono HBW.out.size)⟩
  all_goals
    go_ret
    exact ⟨rfl, HBW.out.trans ((BB.trans (hb.mono BB.size)).mono HBW.out.size)⟩

set_option maxRecDepth 100000 in
theorem contract (H : Type) (enc : TypeId × Value → H) (W : World) (base : Nat) (args : Array Value) (ds gs : List (DataW H)) (before : List MemPlace)
    (hval0 : ∀ (j : Nat) t v, Tryd.f3.params[j]? = some t → args[j]? = some v → Value.okWide Tryd.prog W .any base t v)
    (hW : DataW.Whole enc Tryd.prog Tryd.f3.params.toList Rows.fnExactDskAnswerSpec.vars false W args.toList ds gs before) (hL : laidMetH Tryd.prog Rows.fnExactDskAnswerRow.laid W) :
    Calls Tryd.prog 3 args W fun e W' => ∃ v, e = .returned v ∧ Rows.fnExactDskAnswerSpec.post enc Tryd.prog Tryd.f3 false true false false W args v W' := by
  have hval := hval0
  have hW' := hW
  obtain ⟨p, q, hA0, hV, rfl, hfz, hnd⟩ := hW
  have hA : DataW.TrodAll enc Tryd.prog W 0 (fun _ => true) true Tryd.f3.params.toList args.toList ds p := hA0
  rw [Tryd.params3] at hA hval
  obtain ⟨v0, vs0, d0, ds0, p0, q0, hargs, rfl, rfl, h0, r0⟩ := trodAll_cons hA
  obtain ⟨rfl, rfl, rfl⟩ := trodAll_nil r0
  obtain rfl : args = #[v0] := by cases args; simp_all
  obtain ⟨rfl, rfl⟩ := trodVars_none hV
  have k0 := h0
  obtain ⟨x0, A0, c0, B0, e0, rfl, rd0, rs0, y0⟩ := Go.Proofs.YtfpchfmjgjlelaaDoor.W.open_a h0 (okWide_struct Tryd.underlying25 (hval 0 25 v0 rfl rfl))
  clear hA0 hval0
  simp only [List.append_nil] at hW'
  refine (walk x0 A0 c0 B0 e0 y0 W rd0 rs0 (tab_of hL)).mono fun e W' ⟨he, hg⟩ => ?_
  subst he
  exact ⟨_, rfl, _, _, _, [], _, [], hW', (trodAll_cons_mk (shut_bool Tryd.underlying4 _) trodAll_mk0), (trodAll_cons_mk (Below.trod laidOut (by kernel_rfl) (of_decide_eq_true (by kernel_rfl)) k0 hg (fun x hx => hW'.lt x (by first | (simp [hx]; done) | simp at hx))) trodAll_mk0), rfl, hg.frame _, fun h => by cases h⟩

noncomputable def laidWorld (os : Os) : World := World.laidAll Tryd.prog os Rows.fnExactDskAnswerRow.laid
theorem laid_met (os : Os) : laidMetH Tryd.prog Rows.fnExactDskAnswerRow.laid ((laidWorld os).forCall (fun _ _ => 0) ⟨#[], #[.agg #[.int .i64 0, .slice none 0 0, .slice none 0 0, .int .i64 0]], []⟩).memory := by
  refine laidMetH_of_parts ?_ (by kernel_rfl)
  exact laidMet_laidAll _ (by kernel_rfl) (by kernel_rfl)
theorem reads (os : Os) {H : Type} (enc : TypeId × Value → H) : ∃ places, DataW.whole enc Tryd.prog ((laidWorld os).forCall (fun _ _ => 0) ⟨#[], #[.agg #[.int .i64 0, .slice none 0 0, .slice none 0 0, .int .i64 0]], []⟩).memory Tryd.f3.params.toList Rows.fnExactDskAnswerSpec.vars false #[Value.agg #[.int .i64 0, .slice none 0 0, .slice none 0 0, .int .i64 0]].toList 8 = some ([.agg [.lit (.int .i64 0), .nil, .nil, .lit (.int .i64 0)]], [], places) :=
  ⟨[], by kernel_rfl⟩

set_option maxRecDepth 100000 in
theorem lifted (os : Os) (started : os.Started) (H : Type) (enc : TypeId × Value → H) (F : Stop.Interp) :
    ReturnsInHanded {} Tryd.checked os 3 .any ((OpenSpec.ofChange Rows.fnExactDskAnswerSpec).preRow enc Tryd.prog Tryd.f3 Rows.fnExactDskAnswerRow.domain false Rows.fnExactDskAnswerRow.laid) (((OpenSpec.ofChange Rows.fnExactDskAnswerSpec).at F).post enc Tryd.prog Tryd.f3 false true false false) := by
  obtain ⟨places, hx⟩ := reads os enc
  refine returnsInHanded_of_row (C := Tryd.checked) (s := OpenSpec.ofChange Rows.fnExactDskAnswerSpec) own started (by kernel_rfl) Tryd.func3
    (witness_row_at (enc := enc) (C := Tryd.checked) false (laidWorld os) #[.agg #[.int .i64 0, .slice none 0 0, .slice none 0 0, .int .i64 0]] (World.laidAll_os _ _ _) (by kernel_rfl) (by kernel_rfl) (by kernel_rfl)
      (OpenSpec.preRow_of_cond 8 hx (by kernel_rfl) (fun k hk => by cases hk) (by kernel_rfl) (laid_met os))) ?_
  intro W base args ds gs before hval hW _ _ _ hL _ _
  exact contract H enc W base args ds gs before hval hW hL

theorem said : Rows.FnExactDskAnswerSaid :=
  OpenClaim.holds_of_cond 3 Tryd.f3 rfl rfl rfl rfl rfl rfl rfl ⟨rfl, rfl, rfl, rfl, rfl⟩ rfl rfl rfl rfl rfl (by kernel_rfl) Tryd.func3 (by kernel_rfl)
    (of_decide_eq_true (by kernel_rfl)) (by unfold Func.isWrapper; first | (rw [if_pos (by decide +kernel)]; kernel_rfl) | (rw [if_neg (by decide +kernel)]; exact ⟨rfl, rfl⟩))
    (fun os started H enc _ F => by rw [OpenClaim.pre_eq_preRow]; exact lifted os started H enc F)
theorem plain (f : FuncId) (fn : Func) (hf : Tryd.pinned.checked.prog.funcNamed "loop.example/chartulary/laws.FnExactDskAnswer" = some f) (hfn : Tryd.pinned.checked.prog.funcs[f]? = some fn) :
    false = Tryd.pinned.checked.prog.looks [] ∧ ∀ (j : Nat) t, fn.params[j]? = some t → Tryd.pinned.checked.prog.wantsStandIn t = false := by
  obtain rfl : f = 3 := Option.some.inj ((show Tryd.prog.funcNamed "loop.example/chartulary/laws.FnExactDskAnswer" = some 3 by kernel_rfl).symm.trans hf) |>.symm
  obtain rfl : fn = Tryd.f3 := (Option.some.inj (Tryd.func3.symm.trans hfn)).symm
  refine ⟨by kernel_rfl, fun j t ht => ?_⟩
  rw [Tryd.params3] at ht
  obtain rfl : t = 25 := by simpa using Array.mem_of_getElem? ht
  exact (show Tryd.prog.wantsStandIn 25 = false by kernel_rfl)
theorem proved : Rows.FnExactDskAnswerCardSaid :=
  Claim7.holds_tied_plain_at .later [] _ _ _ _ said (fun _ h => by cases h) (by kernel_rfl) (fun _ h => by cases h) fnExactDskAnswer_row_tie rfl ⟨rfl, rfl⟩ (by kernel_rfl) rfl plain (by kernel_rfl)
#print axioms proved
end Go.Proofs.YtfpchfmjgjlelaaDoor.fnExactDskAnswer
