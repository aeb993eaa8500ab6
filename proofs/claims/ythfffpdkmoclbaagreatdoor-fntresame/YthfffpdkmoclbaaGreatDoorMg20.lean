/-
  The walk of the specification's TreTurn: a tree, behind edits one behind the other. Files and edits that a call has made, of at most 1048576 bytes.
  The walks of the draws of edits: 'l20Edit', 'l20Edits', 'DrawTreSize'. No condition but that the reader is open.
  Draws of trees: l20Files, l20AnyFiles and DrawTreTurn of the specification: few files, few edits, all short.
-/
import Derived.Test.YthfffpdkmoclbaaGreatDoorMg19
import Derived.Test.YthfffpdkmoclbaaGreatDoorMg17
import Derived.Test.YthfffpdkmoclbaaGreatDoorMg14
import Derived.Test.YthfffpdkmoclbaaGreatDoorMg13
namespace Go.Proofs.YthfffpdkmoclbaaGreatDoor.W
open Go.RowKit Go.Lib Go.Proofs.YthfffpdkmoclbaaGreatDoor.M

def edOf (E : List TE) : List (Bool × ByteArray × ByteArray) := E.map fun e => (e.gone, e.pa, e.by_)
/-- what TreTurn makes of files and edits -/
def turnT (L : List TF) (E : List TE) : Option (List TF) :=
  if okT L = true ∧ E.length ≤ 4 then (turnAll L (edOf E)).bind fun K => if okT K = true then some K else none else none
def turnL (L : List TF) (E : List TE) : List TF := (turnT L E).getD []
theorem okT_rise (L : List TF) (h : okT L = true) : RiseF L ∧ L.length ≤ 60 := by
  unfold okT at h
  simp only [Bool.and_eq_true, decide_eq_true_eq, List.all_eq_true, List.mem_range] at h
  obtain ⟨h0, h1, _⟩ := h
  have step : ∀ i (hi : i + 1 < L.length), (L[i]).pa.data.toList < (L[i + 1]).pa.data.toList := by
    intro i hi
    have := h1 (i + 1) hi
    unfold g1 at this
    simp only [Bool.and_eq_true, Bool.or_eq_true, decide_eq_true_eq] at this
    obtain ⟨_, _, _, h5⟩ := this
    rcases h5 with h5 | h5
    · omega
    · rw [Nat.add_sub_cancel, paL_at L i (by omega), paL_at L (i + 1) hi, bl_lt, decide_eq_true_eq] at h5
      exact h5
  refine ⟨?_, h0⟩
  have all : ∀ d i (hi : i + d + 1 < L.length), (L[i]).pa.data.toList < (L[i + d + 1]).pa.data.toList := by
    intro d
    induction d with
    | zero => intro i hi; exact step i hi
    | succ d ih => intro i hi; exact List.lt_trans (ih i (by omega)) (step (i + d + 1) hi)
  unfold RiseF
  rw [List.pairwise_iff_getElem]
  intro i j hi hj hij
  have := all (j - i - 1) i (by omega)
  have e : i + (j - i - 1) + 1 = j := by omega
  simpa only [e] using this

set_option maxHeartbeats 1000000 in
set_option maxRecDepth 100000 in
theorem l4Copy_none (c : Nat) (w : World) :
    Calls Tryz.prog 108 #[.slice none 0 c] w fun e w' => (∃ g cap, e = .returned (.slice (some ⟨g, 0, none⟩) 0 cap) ∧ w'.ownsRow w.heap.size 98 2 (.slice (some ⟨g, 0, none⟩) 0 cap) 0 []) ∧ Below w.heap.size w w' := by
  have o1 : (w.alloc (.cells #[] 98)).ownsRow w.heap.size 98 2 (.slice (some ⟨w.heap.size, 0, none⟩) 0 0) 0 [] := World.ownsRow_lit w #[] 0 (Nat.le_refl _) (by unfold maxLen; omega) rfl
  have B1 : Below w.heap.size w (w.alloc (.cells #[] 98)) := (Below.refl _ _).alloc (Nat.le_refl _) _
  go_enter Tryz.func108, Tryz.ntmps108
  go_wp2_with (show Oper.upon Tryz.prog _ _ _ _ (Result.ok (Next.value (.slice (some ⟨w.heap.size, 0, none⟩) 0 0)) (w.alloc (.cells #[] 98))))
  go_ret
  exact ⟨⟨_, _, rfl, o1⟩, B1⟩
set_option maxRecDepth 100000 in
/-- l4Copy of a row that a call has made -/
theorem l4Copy_row {b : Nat} {e : TypeId} (v : Value) (L : List TF) (w : World) (h : w.ownsRow b e 2 v L.length (cellsF L)) (hn : L.length ≤ 1048576) :
    Calls Tryz.prog 108 #[v] w fun e w' => (∃ g cap, e = .returned (.slice (some ⟨g, 0, none⟩) L.length cap) ∧ w'.ownsRow w.heap.size 98 2 (.slice (some ⟨g, 0, none⟩) L.length cap) L.length (cellsF L)) ∧ Below w.heap.size w w' := by
  obtain ⟨A, c, e1, hR⟩ := rdF_of_own h
  rcases h.2 with ⟨h1, h2⟩ | ⟨g, cap, cur, h1, _⟩
  · have hl : L = [] := List.length_eq_zero_iff.1 h2
    subst h1; subst hl
    exact l4Copy_none 0 w
  · subst e1
    obtain rfl : A = some ⟨g, 0, none⟩ := by injection h1
    exact l4Copy_some g 0 c L w hR hn
theorem l4Turn_fail (g c : Nat) (L : List TF) (p b : ByteArray) (gone : Bool) (w : World) (hL : RdF w.heap.size w (some ⟨g, 0, none⟩) L) (hn : L.length ≤ 500) (ht : turnF L gone p b = none) :
    Calls Tryz.prog 109 #[.slice (some ⟨g, 0, none⟩) L.length c, .agg #[.string p, .string b, .bool gone]] w fun e w' => (∃ v, e = .returned (.tuple #[v, .bool false])) ∧ Below w.heap.size w w' := by
  unfold turnF at ht
  cases gone with
  | true =>
    rw [if_pos rfl] at ht
    split at ht
    · rename_i h; exact l4Turn_no g c L p b w hL hn h
    · cases ht
  | false =>
    rw [if_neg (by decide)] at ht
    split at ht <;> cases ht
theorem l4Turn_yes (g c : Nat) (L K : List TF) (p b : ByteArray) (gone : Bool) (w : World) (hL : RdF w.heap.size w (some ⟨g, 0, none⟩) L) (hn : L.length ≤ 500) (hc : L.length ≤ c) (ht : turnF L gone p b = some K) :
    Calls Tryz.prog 109 #[.slice (some ⟨g, 0, none⟩) L.length c, .agg #[.string p, .string b, .bool gone]] w fun e w' => (∃ g' c', e = .returned (.tuple #[.slice (some ⟨g', 0, none⟩) K.length c', .bool true]) ∧ w'.ownsRow w.heap.size 98 2 (.slice (some ⟨g', 0, none⟩) K.length c') K.length (cellsF K)) ∧ Below w.heap.size w w' := by
  unfold turnF at ht
  cases gone with
  | true =>
    rw [if_pos rfl] at ht
    split at ht
    · cases ht
    · rename_i h
      cases ht
      have h1 : ¬ findF L p = none := fun e => h (.inl e)
      have h2 : b = ByteArray.empty := Decidable.byContradiction fun e => h (.inr e)
      cases hf : findF L p with
      | none => exact absurd hf h1
      | some t => exact l4Turn_cut g c L p b w hL hn hc t hf h2
  | false =>
    rw [if_neg (by decide)] at ht
    split at ht
    · rename_i h
      cases ht
      rw [show (sortF (L ++ [⟨p, b⟩])).length = L.length + 1 by rw [len_sortF]; simp]
      exact l4Turn_ins g c L p b w hL hn h
    · rename_i h
      cases ht
      cases hf : findF L p with
      | none => exact absurd hf h
      | some t => rw [len_putF]; exact l4Turn_put g c L p b w hL hn t hf

set_option maxHeartbeats 4000000 in
set_option maxRecDepth 100000 in
theorem treTurn_spec {b0 : Nat} {e0 : TypeId} (v : Value) (L : List TF) (A : Option Addr) (cE : Nat) (E : List TE) (w : World) (h : w.ownsRow b0 e0 2 v L.length (cellsF L)) (hE : RdE w.heap.size w A E) (hn : L.length ≤ 1048576) (hnE : E.length ≤ 1048576)
    (ht : ∀ j (h : j < L.length), (L[j]).pa.size ≤ 1048576 ∧ (L[j]).by_.size ≤ 1048576) (htE : ∀ j (h : j < E.length), (E[j]).pa.size ≤ 1048576 ∧ (E[j]).by_.size ≤ 1048576) :
    Calls Tryz.prog 72 #[v, .slice A E.length cE] w fun e w' => ∃ v', e = .returned (.tuple #[v', .bool (turnT L E).isSome]) ∧ w'.ownsRow w.heap.size 98 2 v' (turnL L E).length (cellsF (turnL L E)) ∧ Below w.heap.size w w' := by
  obtain ⟨A1, c1, rfl, hR⟩ := rdF_of_own h
  have HE : Hid (RdE w.heap.size w A E) := hE
  have HO : Hid (w.ownsRow b0 e0 2 (.slice A1 L.length c1) L.length (cellsF L)) := h
  have HT : Hid (∀ j (h : j < L.length), (L[j]).pa.size ≤ 1048576 ∧ (L[j]).by_.size ≤ 1048576) := ht
  have HTE : Hid (∀ j (h : j < E.length), (E[j]).pa.size ≤ 1048576 ∧ (E[j]).by_.size ≤ 1048576) := htE
  have hok := treOk_spec A1 c1 L w hR hn ht
  clear h hE hR ht htE
  by_cases hk : okT L = true
  case neg =>
    have HD : Hid (turnT L E = none) := (show turnT L E = none by unfold turnT; rw [if_neg (fun h => hk h.1)])
    have hk' : okT L = false := by simpa using hk
    rw [hk'] at hok
    clear hk hk'
    go_enter Tryz.func72, Tryz.ntmps72
    go_wp2_with (go_at_call 35; refine hok.mono ?_; rintro e w1 ⟨rfl, hb1⟩; clear hok)
    go_ret2
    refine ⟨_, by rw [HD.out]; rfl, ?_, hb1.alloc hb1.size _⟩
    unfold turnL; rw [HD.out]
    exact World.ownsRow_lit w1 #[] 0 hb1.size (by unfold maxLen; omega) rfl
  case pos =>
    rw [hk] at hok
    by_cases hE4 : E.length ≤ 4
    case neg =>
      have HD : Hid (turnT L E = none) := (show turnT L E = none by unfold turnT; rw [if_neg (fun h => hE4 h.2)])
      have hE5 : (4 : Int) < (E.length : Int) := by omega
      clear hk hE4
      go_enter Tryz.func72, Tryz.ntmps72
      go_wp2_with (go_at_call 35; refine hok.mono ?_; rintro e w1 ⟨rfl, hb1⟩; clear hok)
      go_ret2
      refine ⟨_, by rw [HD.out]; rfl, ?_, hb1.alloc hb1.size _⟩
      unfold turnL; rw [HD.out]
      exact World.ownsRow_lit w1 #[] 0 hb1.size (by unfold maxLen; omega) rfl
    case pos =>
      obtain ⟨hr, h60⟩ := okT_rise L hk
      have HR : Hid (RiseF L) := hr
      have HD : Hid (turnT L E = (turnAll L (edOf E)).bind fun K => if okT K = true then some K else none) := (show turnT L E = _ by unfold turnT; rw [if_pos ⟨hk, hE4⟩])
      have hE5 : ¬ (4 : Int) < (E.length : Int) := by omega
      clear hr hk
      go_enter Tryz.func72, Tryz.ntmps72
      go_wp2_with (first
        | (go_at_call 35; refine hok.mono ?_; rintro e w1 ⟨rfl, hb1⟩; clear hok; have HB1 : Hid (Below w.heap.size w w1) := hb1; have hs1 := hb1.size)
        | (go_at_call 108; refine (l4Copy_row _ L _ (ownsUnder HO.out hb1 (Nat.le_refl _)) hn).mono ?_; rintro e w2 ⟨⟨g2, c2, rfl, o2⟩, hb2⟩; have HB2 : Below w.heap.size w w2 := hb1.trans (hb2.mono hs1); have O2 : Hid (w2.ownsRow w.heap.size 98 2 (.slice (some ⟨g2, 0, none⟩) L.length c2) L.length (cellsF L)) := ownsUpF o2 hs1; clear o2 hb2 hb1))
      go_loopw [6, 7] (fun vo iv wr => ∃ (i g cap : Nat) (K : List TF), i ≤ E.length ∧ iv = .int .i64 i ∧ vo = .slice (some ⟨g, 0, none⟩) K.length cap ∧ K.length ≤ 60 + i ∧ Hid (turnAll L (edOf (E.take i)) = some K) ∧ wr.ownsRow w.heap.size 98 2 vo K.length (cellsF K) ∧ Below w.heap.size w wr) (fun _ i _ => E.length - (RowKit.intOf i).toNat)
      case atStart => exact ⟨0, g2, c2, L, Nat.zero_le _, rfl, rfl, h60, (show turnAll L (edOf (E.take 0)) = some L from rfl), O2.out, HB2⟩
      case round =>
        obtain ⟨i, g, cap, K, hi, rfl, rfl, hK, HK, hown, hb⟩ := hrel
        have hsz := hb.size
        have hcap := ownsCap hown
        obtain ⟨A9, c9, e9, hR9⟩ := rdF_of_own hown
        have HR9 : Hid (RdF wr.heap.size wr (some ⟨g, 0, none⟩) K) := by cases e9; exact hR9
        clear hR9 e9
        by_cases hlt : i < E.length
        · obtain ⟨bE, oE, rfl, hbl, d1, d2, d3⟩ := (HE.out.below hb (Nat.le_refl _)) i hlt
          have hsn : edOf (E.take (i + 1)) = edOf (E.take i) ++ [((E[i]).gone, (E[i]).pa, (E[i]).by_)] := by unfold edOf; rw [List.take_succ_eq_append_getElem hlt, List.map_append]; rfl
          have hse : ∃ R, edOf E = edOf (E.take (i + 1)) ++ R := ⟨edOf (E.drop (i + 1)), by unfold edOf; rw [← List.map_append, List.take_append_drop]⟩
          obtain ⟨x, hx⟩ : ∃ x, E[i] = x := ⟨_, rfl⟩
          rw [hx] at d1 d2 d3 hsn
          clear hx
          have HS : Hid (edOf (E.take (i + 1)) = edOf (E.take i) ++ [(x.gone, x.pa, x.by_)]) := hsn
          have hall : turnAll L (edOf (E.take (i + 1))) = turnF K x.gone x.pa x.by_ := by rw [hsn, turnAll_snoc, HK.out]; rfl
          clear hsn
          cases hf : turnF K x.gone x.pa x.by_ with
          | none =>
            rw [hf] at hall
            have HN : Hid (turnT L E = none) := (show turnT L E = none by obtain ⟨R, hR⟩ := hse; rw [HD.out, hR, turnAll_none L _ R hall]; rfl)
            have hcall := l4Turn_fail g cap K x.pa x.by_ x.gone wr HR9.out (by omega) hf
            obtain ⟨p, b, gone⟩ := x
            simp only at hcall d1 d2 d3
            clear hall hf hse HS hcap hown
            go_wp2_with (go_at_call 109; refine hcall.mono ?_; rintro e w3 ⟨⟨v3, rfl⟩, hb3⟩; clear hcall)
            go_ret2
            have hb4 := hb.trans (hb3.mono hsz)
            refine ⟨_, by rw [HN.out]; rfl, ?_, hb4.alloc hb4.size _⟩
            unfold turnL; rw [HN.out]
            exact World.ownsRow_lit w3 #[] 0 hb4.size (by unfold maxLen; omega) rfl
          | some M =>
            rw [hf] at hall
            have HN : Hid (turnAll L (edOf (E.take (i + 1))) = some M) := hall
            have hml := (turnAll_ok L M _ HR.out hall).2.1
            have hel : (edOf (E.take (i + 1))).length = i + 1 := by unfold edOf; simp; omega
            have hcall := l4Turn_yes g cap K M x.pa x.by_ x.gone wr HR9.out (by omega) hcap hf
            obtain ⟨p, b, gone⟩ := x
            simp only at hcall d1 d2 d3
            have hM : M.length ≤ 60 + (i + 1) := by omega
            clear hall hf hse HS hcap hown hml hel
            go_wp2_with (go_at_call 109; refine hcall.mono ?_; rintro e w3 ⟨⟨g3, c3, rfl, o3⟩, hb3⟩; clear hcall)
            go_roundw
            case rel => exact ⟨i + 1, g3, c3, M, by omega, by go_num, rfl, hM, HN, ownsUpF o3 hsz, hb.trans (hb3.mono hsz)⟩
            case measure => simp [RowKit.intOf]; omega
        · obtain rfl : i = E.length := by omega
          have hall := HK.out
          rw [List.take_length] at hall
          have hmem := (turnAll_ok L K _ HR.out hall).2.2
          have htK : ∀ j (h : j < K.length), (K[j]).pa.size ≤ 1048576 ∧ (K[j]).by_.size ≤ 1048576 := by
            intro j hj
            rcases hmem _ (List.getElem_mem hj) with hx | ⟨e, he, hx⟩
            · obtain ⟨q, hq, e⟩ := List.getElem_of_mem hx
              rw [← e]; exact HT.out q hq
            · unfold edOf at he
              obtain ⟨y, hy, rfl⟩ := List.mem_map.1 he
              obtain ⟨q, hq, e⟩ := List.getElem_of_mem hy
              rw [hx, ← e]; exact HTE.out q hq
          have hokK := treOk_spec (some ⟨g, 0, none⟩) cap K wr HR9.out (by omega) htK
          have HDK : Hid (turnT L E = if okT K = true then some K else none) := (show turnT L E = _ by rw [HD.out, hall]; rfl)
          have HO9 : Hid (wr.ownsRow w.heap.size 98 2 (.slice (some ⟨g, 0, none⟩) K.length cap) K.length (cellsF K)) := hown
          clear hmem htK hall hown
          cases hkK : okT K with
          | false =>
            rw [hkK] at hokK
            have HN : Hid (turnT L E = none) := (show turnT L E = none by rw [HDK.out, hkK]; rfl)
            clear hkK
            go_wp2_with (go_at_call 35; refine hokK.mono ?_; rintro e w3 ⟨rfl, hb3⟩; clear hokK)
            go_ret2
            have hb4 := hb.trans (hb3.mono hsz)
            refine ⟨_, by rw [HN.out]; rfl, ?_, hb4.alloc hb4.size _⟩
            unfold turnL; rw [HN.out]
            exact World.ownsRow_lit w3 #[] 0 hb4.size (by unfold maxLen; omega) rfl
          | true =>
            rw [hkK] at hokK
            have HN : Hid (turnT L E = some K) := (show turnT L E = some K by rw [HDK.out, hkK]; rfl)
            clear hkK
            go_wp2_with (go_at_call 35; refine hokK.mono ?_; rintro e w3 ⟨rfl, hb3⟩; clear hokK)
            go_ret2
            refine ⟨_, by rw [HN.out]; rfl, ?_, hb.trans (hb3.mono hsz)⟩
            unfold turnL; rw [HN.out]
            exact ownsUnder HO9.out hb3 (Nat.le_refl _)
end Go.Proofs.YthfffpdkmoclbaaGreatDoor.W
namespace Go.Proofs.YthfffpdkmoclbaaGreatDoor.W
open Go.RowKit

/-- what a draw of an edit leaves -/
def DrewE (w : World) (rb p k : Nat) (a : Option Addr) (len cap : Nat) (zs : Nat → Int) (e : Ending) (w' : World) : Prop :=
  ∃ (s t : ByteArray) (g : Bool) (p' : Nat), e = .returned (.agg #[.string s, .string t, .bool g]) ∧ s.size ≤ 64 ∧ t.size ≤ 64 ∧ p' ≤ p + k ∧ Rd w' rb p' a len cap zs ∧ w.grownBy w' (some rb)

theorem keptC {w w2 : World} {rb g o : Nat} {v : Value} (hg : w.grownBy w2 (some rb)) (hc : w.cell? ⟨g, o, none⟩ = some v) (hlt : g < w.heap.size) (hne : g ≠ rb) : w2.cell? ⟨g, o, none⟩ = some v :=
  (World.cell?_of_block (w := w) (a := ⟨g, o, none⟩) (hg.block g hlt (fun e => hne (Option.some.inj e)))).trans hc
theorem keptF {w w2 : World} {rb g o : Nat} (hg : w.grownBy w2 (some rb)) (hc : w.frozen? ⟨g, o, none⟩ = false) (hlt : g < w.heap.size) (hne : g ≠ rb) : w2.frozen? ⟨g, o, none⟩ = false :=
  (World.frozen?_of_block (w := w) (a := ⟨g, o, none⟩) (hg.block g hlt (fun e => hne (Option.some.inj e)))).trans hc

theorem setGr {w w3 : World} {rb g o : Nat} {u : Value} (h : w.grownBy w3 (some rb)) (hg : w.heap.size ≤ g) : w.grownBy (w3.setCell ⟨g, o, none⟩ u) (some rb) :=
  ⟨h.os, h.tape, h.output, by simpa [World.setCell] using h.size, fun k hk hn => (Below.heap_setCell _ _ _ _ (by show k ≠ g; omega)).trans (h.block k hk hn)⟩
theorem setRd {w : World} {rb p g o : Nat} {a : Option Addr} {len cap : Nat} {zs : Nat → Int} {u : Value} (h : Rd w rb p a len cap zs) (hlt : rb < g) (hw : rb < w.heap.size) : Rd (w.setCell ⟨g, o, none⟩ u) rb p a len cap zs ∧ rb < (w.setCell ⟨g, o, none⟩ u).heap.size :=
  ⟨h.kept (row := some g) ⟨rfl, rfl, rfl, by simp [World.setCell], fun k _ hn => Below.heap_setCell _ _ _ _ (fun e => hn (by rw [e]))⟩ (fun r e => by cases e; exact hlt) hw, by simpa [World.setCell] using hw⟩
theorem setRd3 {w : World} {rb p g : Nat} {a : Option Addr} {len cap : Nat} {zs : Nat → Int} {u0 u1 u2 : Value} (h : Rd w rb p a len cap zs) (hlt : rb < g) (hw : rb < w.heap.size) : Rd (((w.setCell ⟨g, 0, none⟩ u0).setCell ⟨g, 1, none⟩ u1).setCell ⟨g, 2, none⟩ u2) rb p a len cap zs := by
  have h1 := setRd (o := 0) (u := u0) h hlt hw
  have h2 := setRd (o := 1) (u := u1) h1.1 hlt h1.2
  exact (setRd (o := 2) (u := u2) h2.1 hlt h2.2).1

set_option maxHeartbeats 1000000 in
theorem edit_any (w : World) (rb p : Nat) (a : Option Addr) (len cap : Nat) (zs : Nat → Int) (h : Rd w rb p a len cap zs) (hp : p ≤ 900000) (hlt : rb < w.heap.size) :
    Calls Tryz.prog 110 #[.pointer (some ⟨rb, 0, none⟩)] w (DrewE w rb p 3 a len cap zs) := by
  have HA := h.alloc hlt (.cells #[.string ⟨#[]⟩, .string ⟨#[]⟩, .bool false] 144)
  have GA : w.grownBy (w.alloc (.cells #[.string ⟨#[]⟩, .string ⟨#[]⟩, .bool false] 144)) (some rb) := galloc _ _
  have q0 : (w.alloc (.cells #[.string ⟨#[]⟩, .string ⟨#[]⟩, .bool false] 144)).cell? ⟨w.heap.size, 0, none⟩ = some (.string ⟨#[]⟩) := by simp
  have q1 : (w.alloc (.cells #[.string ⟨#[]⟩, .string ⟨#[]⟩, .bool false] 144)).cell? ⟨w.heap.size, 1, none⟩ = some (.string ⟨#[]⟩) := by simp
  have q2 : (w.alloc (.cells #[.string ⟨#[]⟩, .string ⟨#[]⟩, .bool false] 144)).cell? ⟨w.heap.size, 2, none⟩ = some (.bool false) := by simp
  have f0 : ∀ o, (w.alloc (.cells #[.string ⟨#[]⟩, .string ⟨#[]⟩, .bool false] 144)).frozen? ⟨w.heap.size, o, none⟩ = false := fun o => by simp
  have hz : (w.alloc (.cells #[.string ⟨#[]⟩, .string ⟨#[]⟩, .bool false] 144)).heap.size = w.heap.size + 1 := by simp
  go_enter Tryz.func110, Tryz.ntmps110
  generalize hA : w.alloc (.cells #[.string ⟨#[]⟩, .string ⟨#[]⟩, .bool false] 144) = wA at *
  go_wp2_with (first
    | (go_at_call 119; refine (path_any _ rb p a len cap zs HA (by omega) (by omega)).mono ?_; rintro e w1 ⟨s, p1, rfl, hs, hp1, R1, g1⟩; have z1 := g1.size)
    | (go_at_call 80; refine (bytes_any _ rb p1 a len cap zs R1 (by omega) (by omega)).mono ?_; rintro e w2 ⟨t, p2, rfl, ht, hp2, R2, g2⟩; have z2 := g2.size)
    | (go_at_call 49; refine (pick_any _ rb p2 a len cap 5 zs (R2.alloc (by omega) _) (by omega) (by omega) (by omega)).mono ?_; rintro e w3 ⟨v, hv, rfl, R3, g3⟩; have z3 := g3.size; simp at z3; have G13 : wA.grownBy (w2.alloc (.cells #[.string s, .string t, .bool false] 144)) (some rb) := gtrans (gtrans g1 g2) (galloc _ _); have G3 : wA.grownBy w3 (some rb) := gtrans G13 g3; have k0 := keptC G3 q0 (by omega) (by omega); have k1 := keptC G3 q1 (by omega) (by omega); have k2 := keptC G3 q2 (by omega) (by omega); have l0 := keptF G3 (f0 0) (by omega) (by omega); have l1 := keptF G3 (f0 1) (by omega) (by omega); have l2 := keptF G3 (f0 2) (by omega) (by omega); have m0 : w3.cell? ⟨w2.heap.size, 0, none⟩ = some (.string s) := keptC g3 (by simp) (by simp) (by omega); have m1 : w3.cell? ⟨w2.heap.size, 1, none⟩ = some (.string t) := keptC g3 (by simp) (by simp) (by omega); have m2 : w3.cell? ⟨w2.heap.size, 2, none⟩ = some (.bool false) := keptC g3 (by simp) (by simp) (by omega); have GW : w.grownBy w3 (some rb) := gtrans GA G3; by_cases hv0 : v = 0))
  · refine bodyPost_ret (v := .agg #[.string s, .string ⟨#[]⟩, .bool true]) (by simp [results, Tryz.results110, go_sem, k0, k1, k2]) rfl ?_
    exact ⟨s, ⟨#[]⟩, true, p2 + 1, rfl, hs, by decide, by omega, setRd3 R3 hlt (by omega), setGr (setGr (setGr GW (Nat.le_refl _)) (Nat.le_refl _)) (Nat.le_refl _)⟩
  · refine bodyPost_ret (v := .agg #[.string s, .string t, .bool false]) (by simp [results, Tryz.results110, go_sem, k0, k1, k2]) rfl ?_
    exact ⟨s, t, false, p2 + 1, rfl, hs, ht, by omega, setRd3 R3 hlt (by omega), setGr (setGr (setGr GW (Nat.le_refl _)) (Nat.le_refl _)) (Nat.le_refl _)⟩

/-- edits that were drawn: few, and short -/
def short (M : List TE) : Prop := ∀ x ∈ M, x.pa.size ≤ 64 ∧ x.by_.size ≤ 64
set_option maxHeartbeats 1000000 in
theorem edits_any (w : World) (rb p : Nat) (a : Option Addr) (len cap : Nat) (zs : Nat → Int) (h : Rd w rb p a len cap zs) (hp : p ≤ 100) (hlt : rb < w.heap.size) :
    Calls Tryz.prog 73 #[.pointer (some ⟨rb, 0, none⟩)] w fun e w' => (∃ (v : Value) (M : List TE), e = .returned v ∧ 1 ≤ M.length ∧ M.length ≤ 4 ∧ short M ∧ w'.ownsRow w.heap.size 144 3 v M.length (cellsE M)) ∧ w.grownBy w' (some rb) ∧ ∃ p', p' ≤ 300 ∧ Rd w' rb p' a len cap zs := by
  obtain ⟨i0, hi, hz0, hz1, hz2⟩ := info_parts infoE
  have O0 : (w.alloc (.cells #[] 144)).ownsRow w.heap.size 144 3 (.slice (some ⟨w.heap.size, 0, none⟩) 0 0) 0 [] := World.ownsRow_lit w #[] 0 (Nat.le_refl _) (by unfold maxLen; omega) rfl
  go_enter Tryz.func73, Tryz.ntmps73
  go_wp2_with (go_at_call 49; refine (pick_any _ rb p a len cap 4 zs (h.alloc hlt _) (by omega) (by omega) (by omega)).mono ?_; rintro e w1 ⟨n, hn, rfl, R1, g1⟩; have z1 := g1.size; simp at z1; have O1 := O0.kept g1 (.inr (by simp [Value.ownBlock]; omega)); have G1 : w.grownBy w1 (some rb) := gtrans (galloc _ _) g1)
  go_loopw [3, 4] (fun v kv wr => ∃ (m p' : Nat) (M : List TE), 1 ≤ M.length + m ∧ M.length + m ≤ 4 ∧ kv = .int .i64 m ∧ p' ≤ 200 + 3 * M.length ∧ Hid (short M) ∧ Rd wr rb p' a len cap zs ∧ wr.ownsRow w.heap.size 144 3 v M.length (cellsE M) ∧ w.grownBy wr (some rb)) (fun _ k _ => (intOf k).toNat)
  case atStart => exact ⟨n + 1, p + 1, [], by simp, by simp; omega, by go_num, by simp; omega, (show short [] from fun x hx => by simp at hx), R1, O1, G1⟩
  case round =>
    obtain ⟨m, p', M, hm1, hm, rfl, hp', HS, R, hown, G⟩ := hrel
    have hz := G.size
    have hM : M.length ≤ 4 := by omega
    by_cases hm0 : 0 < m
    · have hlts := hown.lt
      go_wp2_with (first
        | (go_at_call 110; refine (edit_any _ rb p' a len cap zs R (by omega) (by omega)).mono ?_; rintro e w2 ⟨s, t, gn, p2, rfl, hs, ht, hp2, R2, g2⟩; have z2 := g2.size; have O2 := hown.kept g2 (by cases hq : u3.ownBlock with | none => exact .inl rfl | some k => exact .inr (by have := (hlts k hq).1; simp; omega)))
        | (at_builtin; refine wpList_append_own _ rfl _ _ 102 rfl w.heap.size 144 i0 (.agg #[.string ByteArray.empty, .string ByteArray.empty, .bool false]) 3 40 Tryz.underlying102 hi hz0 hz1 hz2 rfl (by decide) _ _ _ rfl (O2.alloc _) ⟨w2.heap.size, 0, none⟩ 1 1 [.string s, .string t, .bool gn] rfl rfl (cells_new _ #[.string s, .string t, .bool gn] _) (fun u hu => by simp at hu; rcases hu with rfl | rfl | rfl <;> rfl) (by unfold maxLen; omega) (by omega) (by simp; omega) ?_; intro v' w3 hown' hgrow3 hnil3))
      have hal : ∀ r, u3.ownBlock = some r → rb < r := fun r hr => by have := (hlts r hr).1; omega
      have G3 : w.grownBy w3 (some rb) := by
        have ga : w.grownBy (w2.alloc (.cells #[.string s, .string t, .bool gn] 144)) (some rb) := gtrans (gtrans G g2) (galloc _ _)
        refine ⟨hgrow3.os.trans ga.os, hgrow3.tape.trans ga.tape, hgrow3.output.trans ga.output, Nat.le_trans ga.size hgrow3.size, fun k hk hn => (hgrow3.block k (Nat.lt_of_lt_of_le hk ga.size) (fun e => ?_)).trans (ga.block k hk hn)⟩
        have := (hlts k e.symm).1
        omega
      have R3 : Rd w3 rb p2 a len cap zs := (R2.alloc (by omega) _).kept hgrow3 hal (by simp; omega)
      go_roundw
      case rel =>
        refine ⟨m - 1, p2, M ++ [⟨s, t, gn⟩], by simp; omega, by simp; omega, by go_num, by simp; omega, ?_, R3, ?_, G3⟩
        · show short _
          intro x hx
          rcases List.mem_append.1 hx with hx | hx
          · exact HS.out x hx
          · obtain rfl : x = ⟨s, t, gn⟩ := by simpa using hx
            exact ⟨hs, ht⟩
        · rw [cellsE_snoc, List.length_append]; exact hown'
      case measure => simp [intOf]; omega
    · go_wp2
      go_ret
      exact ⟨⟨_, M, rfl, by omega, by omega, HS.out, hown⟩, G, p', by omega, R⟩

theorem ownsUpE {w : World} {base base' n z : Nat} {e : TypeId} {v : Value} {xs : List Value} (h : w.ownsRow base e z v n xs) (hb : base' ≤ base) : w.ownsRow base' e z v n xs := by
  refine ⟨h.1, ?_⟩
  rcases h.2 with h1 | ⟨g, cap, cur, h1, h2, h3⟩
  · exact .inl h1
  · exact .inr ⟨g, cap, cur, h1, by omega, h3⟩

end Go.Proofs.YthfffpdkmoclbaaGreatDoor.W
namespace Go.Proofs.YthfffpdkmoclbaaGreatDoor.W
open Go.RowKit Go.Proofs.YthfffpdkmoclbaaGreatDoor.M
set_option linter.unusedVariables false

/-- files that were drawn: short -/
def shortF (M : List TF) : Prop := ∀ x ∈ M, x.pa.size ≤ 64 ∧ x.by_.size ≤ 64
theorem turnT_mem (L K : List TF) (E : List TE) (h : turnT L E = some K) : okT K = true ∧ okT L = true ∧ turnAll L (edOf E) = some K ∧ ∀ x ∈ K, x ∈ L ∨ ∃ e ∈ E, x = ⟨e.pa, e.by_⟩ := by
  unfold turnT at h
  split at h
  · rename_i h1
    cases ha : turnAll L (edOf E) with
    | none => rw [ha] at h; cases h
    | some M =>
      rw [ha] at h
      simp only [Option.bind] at h
      split at h
      · rename_i h2
        cases h
        refine ⟨h2, h1.1, rfl, fun x hx => ?_⟩
        rcases (turnAll_ok L _ _ (okT_rise L h1.1).1 ha).2.2 x hx with hx | ⟨e, he, rfl⟩
        · exact .inl hx
        · unfold edOf at he
          obtain ⟨y, hy, rfl⟩ := List.mem_map.1 he
          exact .inr ⟨y, hy, rfl⟩
      · cases h
  · cases h
theorem shortF_turn (L K : List TF) (x : TE) (h : turnT L [x] = some K) (hL : shortF L) (h1 : x.pa.size ≤ 64) (h2 : x.by_.size ≤ 64) : shortF K := fun y hy => by
  rcases (turnT_mem L K [x] h).2.2.2 y hy with hy | ⟨e, he, rfl⟩
  · exact hL y hy
  · obtain rfl : e = x := by simpa using he
    exact ⟨h1, h2⟩
theorem rdE_new (w : World) (x : TE) : RdE (w.alloc (.cells #[.string x.pa, .string x.by_, .bool x.gone] 144)).heap.size (w.alloc (.cells #[.string x.pa, .string x.by_, .bool x.gone] 144)) (some ⟨w.heap.size, 0, none⟩) [x] := fun j hj => by
  obtain rfl : j = 0 := by simp at hj; omega
  refine ⟨w.heap.size, 0, rfl, by simp, ?_, ?_, ?_⟩
  · exact boxCell w _ _ 0 _ rfl
  · exact boxCell w _ _ 1 _ rfl
  · exact boxCell w _ _ 2 _ rfl
theorem ownNot {w : World} {base z n rb : Nat} {e : TypeId} {v : Value} {xs : List Value} (h : w.ownsRow base e z v n xs) (hr : rb < base) : v.ownBlock = none ∨ v.ownBlock ≠ some rb := by
  rcases h.2 with ⟨rfl, _⟩ | ⟨g, cap, cur, rfl, h2, _⟩
  · exact .inl rfl
  · exact .inr (by simp [Value.ownBlock]; omega)
theorem rdBelF {w w' : World} {rb p : Nat} {a : Option Addr} {len cap : Nat} {zs : Nat → Int} (h : Rd w rb p a len cap zs) (hb : Below w.heap.size w w') (hlt : rb < w.heap.size) : Rd w' rb p a len cap zs :=
  h.kept (row := none) ⟨hb.os, hb.tape, hb.output, hb.size, fun k hk _ => hb.block k hk⟩ (fun _ e => by cases e) hlt
theorem gBelow {w w' : World} {r : Option Nat} (h : Below w.heap.size w w') : w.grownBy w' r := ⟨h.os, h.tape, h.output, h.size, fun k hk _ => h.block k hk⟩
theorem sizesF {L : List TF} (h : shortF L) : ∀ j (h : j < L.length), (L[j]).pa.size ≤ 1048576 ∧ (L[j]).by_.size ≤ 1048576 := fun j hj => by
  have := h _ (List.getElem_mem hj); omega
theorem sizesE {L : List TE} (h : short L) : ∀ j (h : j < L.length), (L[j]).pa.size ≤ 1048576 ∧ (L[j]).by_.size ≤ 1048576 := fun j hj => by
  have := h _ (List.getElem_mem hj); omega

theorem sizes1 (s t : ByteArray) (g : Bool) (hs : s.size ≤ 64) (ht : t.size ≤ 64) : ∀ j (h : j < [(⟨s, t, g⟩ : TE)].length), ([(⟨s, t, g⟩ : TE)][j]).pa.size ≤ 1048576 ∧ ([(⟨s, t, g⟩ : TE)][j]).by_.size ≤ 1048576 := fun j hj => by
  obtain rfl : j = 0 := by simp at hj; omega
  simp; omega
set_option maxHeartbeats 4000000 in
set_option maxRecDepth 100000 in
theorem filesD_any (w : World) (rb p : Nat) (a : Option Addr) (len cap : Nat) (zs : Nat → Int) (h : Rd w rb p a len cap zs) (hp : p ≤ 500) (hlt : rb < w.heap.size) :
    Calls Tryz.prog 95 #[.pointer (some ⟨rb, 0, none⟩)] w fun e w' => (∃ (v : Value) (L : List TF), e = .returned v ∧ L.length ≤ 60 ∧ shortF L ∧ w'.ownsRow w.heap.size 98 2 v L.length (cellsF L)) ∧ w.grownBy w' (some rb) ∧ ∃ p', p' ≤ p + 25 ∧ Rd w' rb p' a len cap zs := by
  have O0 : (w.alloc (.cells #[] 98)).ownsRow w.heap.size 98 2 (.slice (some ⟨w.heap.size, 0, none⟩) 0 0) 0 [] := World.ownsRow_lit w #[] 0 (Nat.le_refl _) (by unfold maxLen; omega) rfl
  go_enter Tryz.func95, Tryz.ntmps95
  go_wp2_with (go_at_call 49; refine (pick_any _ rb p a len cap 7 zs (h.alloc hlt _) (by omega) (by omega) (by omega)).mono ?_; rintro e w1 ⟨n, hn, rfl, R1, g1⟩; have z1 := g1.size; simp at z1; have O1 := O0.kept g1 (.inr (by simp [Value.ownBlock]; omega)); have G1 : w.grownBy w1 (some rb) := gtrans (galloc _ _) g1)
  go_loopw [3, 4] (fun v kv wr => ∃ (m p' : Nat) (L : List TF), m ≤ 6 ∧ kv = .int .i64 m ∧ p' + 3 * m ≤ p + 20 ∧ L.length ≤ 60 ∧ Hid (shortF L) ∧ Rd wr rb p' a len cap zs ∧ wr.ownsRow w.heap.size 98 2 v L.length (cellsF L) ∧ w.grownBy wr (some rb)) (fun _ k _ => (RowKit.intOf k).toNat)
  case atStart => exact ⟨n, p + 1, [], by omega, by go_num, by omega, by simp, (show shortF [] from fun x hx => by simp at hx), R1, O1, G1⟩
  case round =>
    obtain ⟨m, p', L, hm, rfl, hp', hL, HS, R, hown, G⟩ := hrel
    have hz := G.size
    by_cases hm0 : 0 < m
    · have hnr := ownNot hown hlt
      go_wp2_with (first
        | (go_at_call 110; refine (edit_any _ rb p' a len cap zs R (by omega) (by omega)).mono ?_; rintro e w2 ⟨s, t, gn, p2, rfl, hs, ht, hp2, R2, g2⟩; have z2 := g2.size; have O2 := hown.kept g2 hnr; have G2 := gtrans G g2; clear hown)
        | (go_at_call 72; refine (treTurn_spec _ L (some ⟨w2.heap.size, 0, none⟩) 1 [⟨s, t, gn⟩] _ (O2.alloc _) (rdE_new w2 ⟨s, t, gn⟩) (by omega) (by simp) (sizesF HS.out) (sizes1 s t gn hs ht)).mono ?_; rintro e w3 ⟨v3, rfl, o3, hb3⟩; have z3 := hb3.size; simp at z3; have R3 := rdBelF (R2.alloc (by omega) _) hb3 (by simp; omega); have G3 : w.grownBy w3 (some rb) := gtrans (gtrans G2 (galloc _ _)) (gBelow hb3); have O3 := ownsUnder (O2.alloc (.cells #[.string s, .string t, .bool gn] 144)) hb3 (Nat.le_refl _); obtain ⟨r, hr⟩ : ∃ r, (turnT L [⟨s, t, gn⟩]).isSome = r := ⟨_, rfl⟩; have HRR : Hid ((turnT L [⟨s, t, gn⟩]).isSome = r) := hr; rw [hr]; clear hr O2 R2 hnr; cases r))
      · go_roundw
        case rel => exact ⟨m - 1, p2, L, by omega, by go_num, by omega, hL, HS, R3, O3, G3⟩
        case measure => simp [RowKit.intOf]; omega
      · go_roundw
        case rel =>
          obtain ⟨K, hK⟩ := Option.isSome_iff_exists.1 HRR.out
          have e1 : turnL L [⟨s, t, gn⟩] = K := by unfold turnL; rw [hK]; rfl
          rw [e1] at o3
          exact ⟨m - 1, p2, K, by omega, by go_num, by omega, (okT_rise K (turnT_mem L K _ hK).1).2, (show shortF K from shortF_turn L K _ hK HS.out hs ht), R3, ownsUpF o3 (by simp; omega), G3⟩
        case measure => simp [RowKit.intOf]; omega
    · go_wp2
      go_ret
      exact ⟨⟨_, L, rfl, hL, HS.out, hown⟩, G, p', by omega, R⟩

theorem cellsF_setx (L : List TF) (j : Nat) (x : TF) : ((cellsF L).set (j * 2) (.string x.pa)).set (j * 2 + 1) (.string x.by_) = cellsF (L.set j x) := by
  induction L generalizing j with
  | nil => simp [cellsF]
  | cons y l ih =>
    cases j with
    | zero => rw [List.set_cons_zero, cellsF_cons, cellsF_cons]; rfl
    | succ j =>
      rw [List.set_cons_succ, cellsF_cons, cellsF_cons, ← ih j, show (j + 1) * 2 = j * 2 + 1 + 1 by omega]
      simp
theorem shortF_set {L : List TF} (h : shortF L) (j : Nat) (x : TF) (h1 : x.pa.size ≤ 64) (h2 : x.by_.size ≤ 64) : shortF (L.set j x) := fun y hy => by
  rcases List.mem_or_eq_of_mem_set hy with hy | rfl
  · exact h y hy
  · exact ⟨h1, h2⟩
theorem shortF_snoc {L : List TF} (h : shortF L) (x : TF) (h1 : x.pa.size ≤ 64) (h2 : x.by_.size ≤ 64) : shortF (L ++ [x]) := fun y hy => by
  rcases List.mem_append.1 hy with hy | hy
  · exact h y hy
  · obtain rfl : y = x := by simpa using hy
    exact ⟨h1, h2⟩
theorem formPos {w : World} {base n z : Nat} {e : TypeId} {v : Value} {xs : List Value} (h : w.ownsRow base e z v n xs) (hn : 0 < n) : ∃ g cap, v = .slice (some ⟨g, 0, none⟩) n cap ∧ base ≤ g := by
  rcases h.2 with ⟨_, h0⟩ | ⟨g, cap, _, h1, h2, _⟩
  · omega
  · exact ⟨g, cap, h1, h2⟩
theorem grOwn {w w' : World} {base n z rb : Nat} {e : TypeId} {v : Value} {xs : List Value} {w0 : World} (G : w0.grownBy w (some rb)) (h : w.ownsRow base e z v n xs) (hb : w0.heap.size ≤ base) (hg : w.grownBy w' v.ownBlock) : w0.grownBy w' (some rb) := by
  refine ⟨hg.os.trans G.os, hg.tape.trans G.tape, hg.output.trans G.output, Nat.le_trans G.size hg.size, fun k hk hn => (hg.block k (Nat.lt_of_lt_of_le hk G.size) (fun e => ?_)).trans (G.block k hk hn)⟩
  rcases h.2 with ⟨rfl, _⟩ | ⟨g, cap, cur, rfl, h2, _⟩
  · simp [Value.ownBlock] at e
  · simp [Value.ownBlock] at e; omega
theorem rdOwn {w w' : World} {rb p : Nat} {a : Option Addr} {len cap : Nat} {zs : Nat → Int} {base n z : Nat} {e : TypeId} {v : Value} {xs : List Value} (R : Rd w rb p a len cap zs) (h : w.ownsRow base e z v n xs) (hb : rb < base) (hlt : rb < w.heap.size) (hg : w.grownBy w' v.ownBlock) : Rd w' rb p a len cap zs :=
  R.kept hg (fun r hr => by
    rcases h.2 with ⟨rfl, _⟩ | ⟨g, cap, cur, rfl, h2, _⟩
    · simp [Value.ownBlock] at hr
    · simp [Value.ownBlock] at hr; omega) hlt
theorem grSet (w : World) (g j : Nat) (u : Value) : w.grownBy (w.setCell ⟨g, j, none⟩ u) (some g) :=
  ⟨rfl, rfl, rfl, by simp [World.setCell], fun k _ hn => Below.heap_setCell _ _ _ _ (fun e => hn (by rw [e]))⟩

theorem grTr2 {w w' w'' : World} {r : Option Nat} (h : w.grownBy w' r) (k : w'.grownBy w'' r) : w.grownBy w'' r := gtrans h k
def lenOfV : Value → Nat | .slice _ n _ => n | _ => 0
/-- what the draw of files leaves -/
def DrewF (w : World) (rb p k : Nat) (a : Option Addr) (len cap : Nat) (zs : Nat → Int) (e : Ending) (w' : World) : Prop :=
  (∃ (v : Value) (L : List TF), e = .returned v ∧ L.length ≤ 61 ∧ shortF L ∧ w'.ownsRow w.heap.size 98 2 v L.length (cellsF L)) ∧ w.grownBy w' (some rb) ∧ ∃ p', p' ≤ p + k ∧ Rd w' rb p' a len cap zs
set_option maxHeartbeats 8000000 in
set_option maxRecDepth 100000 in
theorem anyFiles_any (w : World) (rb p n : Nat) (a : Option Addr) (len cap : Nat) (zs : Nat → Int) (h : Rd w rb p a len cap zs) (hp : p ≤ 500) (hlt : rb < w.heap.size) (hn : 1 ≤ n) (hn2 : n ≤ 1000) :
    Calls Tryz.prog 65 #[.pointer (some ⟨rb, 0, none⟩), .int .i64 n] w (DrewF w rb p 40 a len cap zs) := by
  obtain ⟨i0, hi, hz0, hz1, hz2⟩ := info_parts infoF
  go_enter Tryz.func65, Tryz.ntmps65
  have t1 : True := trivial
  go_wp2_with (first
    | (go_at_call 95; refine (filesD_any _ rb p a len cap zs h hp hlt).mono ?_; rintro e w1 ⟨⟨v, L, rfl, hL, hS, O1⟩, g1, p1, hp1, R1⟩; have z1 := g1.size; have HS : Hid (shortF L) := hS; clear hS; obtain ⟨A, cv, rfl, _⟩ := rdF_of_own O1)
    | (go_at_call 49; have _t := t1; refine (pick_any _ rb p1 a len cap n zs R1 (by omega) (by omega) (by omega)).mono ?_; rintro e w2 ⟨k, hk, rfl, R2, g2⟩; have z2 := g2.size; have O2 := O1.kept g2 (ownNot O1 hlt); have G2 := gtrans g1 g2; clear O1 R1 g1 g2 _t t1; rcases Nat.eq_zero_or_pos k with rfl | hk0)
    | (go_at_call 49; refine (pick_any _ rb (p1 + 1) a len cap 4 zs R2 (by omega) (by omega) (by omega)).mono ?_; rintro e w3 ⟨c, hc, rfl, R3, g3⟩; have z3 := g3.size; have O3 := O2.kept g3 (ownNot O2 hlt); have G3 := gtrans G2 g3; clear O2 R2 G2 g3; rcases (show c = 0 ∨ (c = 1 ∧ 0 < L.length) ∨ (c = 1 ∧ ¬ 0 < L.length) ∨ (c = 2 ∧ 1 < L.length) ∨ (c = 2 ∧ ¬ 1 < L.length) ∨ c = 3 by omega) with rfl | ⟨rfl, hl⟩ | ⟨rfl, hl⟩ | ⟨rfl, hl⟩ | ⟨rfl, hl⟩ | rfl))
  · have hnr := ownNot O3 hlt
    go_wp2_with (first
      | (go_at_call 96; refine (anyPath_any _ rb (p1 + 1 + 1) 2 a len cap zs R3 (by omega) (by omega) (by omega) (by omega)).mono ?_; rintro e w4 ⟨s, p4, rfl, hs, hp4, R4, g4⟩; have z4 := g4.size; have O4 := O3.kept g4 hnr; have G4 := gtrans G3 g4; clear O3 R3 G3 g4)
      | (go_at_call 80; refine (bytes_any _ rb p4 a len cap zs R4 (by omega) (by omega)).mono ?_; rintro e w5 ⟨t, p5, rfl, ht, hp5, R5, g5⟩; have z5 := g5.size; have O5 := O4.kept g5 hnr; have G5 := gtrans G4 g5; clear O4 R4 G4 g5)
      | (at_builtin; refine wpList_append_own _ rfl _ _ 49 rfl w.heap.size 98 i0 (.agg #[.string ByteArray.empty, .string ByteArray.empty]) 2 32 Tryz.underlying49 hi hz0 hz1 hz2 rfl (by decide) _ _ _ rfl (O5.alloc _) ⟨w5.heap.size, 0, none⟩ 1 1 [.string s, .string t] rfl rfl (cells_new w5 #[.string s, .string t] 98) (by simp [Value.oneCell']) (by unfold maxLen; omega) (by omega) (by simp; omega) ?_; intro v6 w6 O6 g6 _; have G6 := grOwn (gtrans G5 (galloc w5 (.cells #[.string s, .string t] 98))) (O5.alloc _) (Nat.le_refl _) g6; have R6 := rdOwn (R5.alloc (by omega) _) (O5.alloc _) hlt (by simp; omega) g6))
    go_ret
    exact ⟨⟨_, L ++ [⟨s, t⟩], rfl, by simp; omega, shortF_snoc HS.out _ hs ht, by rw [cellsF_snoc, List.length_append]; exact O6⟩, G6, p5, by omega, R6⟩
  · skip
    · obtain ⟨g, cg, e9, hg9⟩ := formPos O3 hl
      obtain ⟨rfl, rfl⟩ : A = some ⟨g, 0, none⟩ ∧ cv = cg := by injection e9 with e1 e2 e3; exact ⟨e1, e3⟩
      clear e9
      go_wp2_with (go_at_call 49; refine (pick_any _ rb (p1 + 1 + 1) a len cap L.length zs R3 (by omega) (by omega) (by omega)).mono ?_; rintro e w4 ⟨k, hk4, rfl, R4, g4⟩; have z4 := g4.size; have O4 := O3.kept g4 (ownNot O3 hlt); have G4 := gtrans G3 g4; have hf5 := O4.frozenAt (k * 2 + 1); obtain ⟨u5, hu5⟩ := ownsCell O4 (k * 2 + 1) (by omega); have HO4 : Hid (w4.ownsRow w.heap.size 98 2 (.slice (some ⟨g, 0, none⟩) L.length cv) L.length (cellsF L)) := O4; clear O4 O3 g4)
      go_ret
      have O5 := (HO4.out.stored (k * 2 + 1) (.string ⟨#[49, 50, 51, 52, 53, 54, 55]⟩)).1
      rw [cellsF_set1 L k _ hk4] at O5
      have hk9 := HS.out _ (List.getElem_mem hk4)
      exact ⟨⟨_, L.set k ⟨(L[k]).pa, ⟨#[49, 50, 51, 52, 53, 54, 55]⟩⟩, rfl, by simp; omega, shortF_set HS.out _ _ hk9.1 (show (⟨#[49, 50, 51, 52, 53, 54, 55]⟩ : ByteArray).size ≤ 64 by decide), by rw [List.length_set]; exact O5⟩, grOwn G4 HO4.out (Nat.le_refl _) (grSet w4 g _ _), p1 + 1 + 1 + 1, by omega, rdOwn R4 HO4.out hlt (by omega) (grSet w4 g _ _)⟩
  · go_ret
    exact ⟨⟨_, L, rfl, by omega, HS.out, O3⟩, G3, p1 + 1 + 1, by omega, R3⟩
  · skip
    · obtain ⟨g, cg, e9, hg9⟩ := formPos O3 (by omega)
      obtain ⟨rfl, rfl⟩ : A = some ⟨g, 0, none⟩ ∧ cv = cg := by injection e9 with e1 e2 e3; exact ⟨e1, e3⟩
      clear e9
      obtain ⟨A9, c9, e9, hR9⟩ := rdF_of_own O3
      obtain ⟨rfl, rfl⟩ : some ⟨g, 0, none⟩ = A9 ∧ cv = c9 := by injection e9 with e1 e2 e3; exact ⟨e1, e3⟩
      clear e9
      obtain ⟨b9, o9, e9, hb9, d1, d2⟩ := hR9 1 hl
      simp only [Option.some.injEq, Addr.mk.injEq] at e9
      obtain ⟨rfl, rfl, _⟩ := e9
      have hk9 := HS.out _ (List.getElem_mem hl)
      obtain ⟨x, hx⟩ : ∃ x, L[1] = x := ⟨_, rfl⟩
      rw [hx] at d1 d2 hk9
      obtain ⟨q, t⟩ := x
      simp only [Nat.zero_add, Nat.one_mul] at d1 d2
      have hf0 := O3.frozenAt 0
      have hf1 := O3.frozenAt 1
      obtain ⟨u0, hu0⟩ := ownsCell O3 0 (by omega)
      obtain ⟨u1, hu1⟩ := ownsCell O3 1 (by omega)
      have HO3 : Hid (w3.ownsRow w.heap.size 98 2 (.slice (some ⟨g, 0, none⟩) L.length cv) L.length (cellsF L)) := O3
      clear O3 hR9 hx
      go_wp2
      go_ret
      have s1 := (HO3.out.stored 0 (.string q)).1
      have s2 := (s1.stored 1 (.string t)).1
      have e8 := cellsF_setx L 0 ⟨q, t⟩
      simp only [Nat.zero_mul, Nat.zero_add] at e8
      rw [e8] at s2
      have g1 := grTr2 (grSet w3 g 0 (.string q)) (grSet (w3.setCell ⟨g, 0, none⟩ (.string q)) g 1 (.string t))
      exact ⟨⟨_, L.set 0 ⟨q, t⟩, rfl, by simp; omega, shortF_set HS.out _ _ hk9.1 hk9.2, by rw [List.length_set]; exact s2⟩, grOwn G3 HO3.out (Nat.le_refl _) g1, p1 + 1 + 1, by omega, rdOwn R3 HO3.out hlt (by omega) g1⟩
  · go_ret
    exact ⟨⟨_, L, rfl, by omega, HS.out, O3⟩, G3, p1 + 1 + 1, by omega, R3⟩
  · go_loopw [5] (fun v wr => ∃ M : List TF, M.length ≤ 61 ∧ Hid (shortF M) ∧ wr.ownsRow w.heap.size 98 2 v M.length (cellsF M) ∧ Rd wr rb (p1 + 1 + 1) a len cap zs ∧ w.grownBy wr (some rb) ∧ (∃ A c, v = .slice A M.length c)) (fun v _ => 61 - lenOfV v)
    case atStart => exact ⟨L, by omega, HS, O3, R3, G3, _, _, rfl⟩
    case round =>
      obtain ⟨M, hM, HM, O, R, G, A, c9, rfl⟩ := hrel
      have zz := G.size
      by_cases hl : M.length ≤ 60
      · go_wp2_with (at_builtin; refine wpList_append_own _ rfl _ _ 49 rfl w.heap.size 98 i0 (.agg #[.string ByteArray.empty, .string ByteArray.empty]) 2 32 Tryz.underlying49 hi hz0 hz1 hz2 rfl (by decide) _ _ _ rfl (O.alloc _) ⟨wr.heap.size, 0, none⟩ 1 1 [.string ⟨#[97]⟩, .string ⟨#[]⟩] rfl rfl (cells_new wr #[.string ⟨#[97]⟩, .string ⟨#[]⟩] 98) (by simp [Value.oneCell']) (by unfold maxLen; omega) (by omega) (by simp; omega) ?_; intro v6 w6 O6 g6 _; have G6 := grOwn (gtrans G (galloc wr (.cells #[.string ⟨#[97]⟩, .string ⟨#[]⟩] 98))) (O.alloc _) (Nat.le_refl _) g6; have R6 := rdOwn (R.alloc (by omega) _) (O.alloc _) hlt (by simp; omega) g6; obtain ⟨g9, cg9, rfl, _⟩ := formPos O6 (by omega))
        go_roundw
        case rel => exact ⟨M ++ [⟨⟨#[97]⟩, ⟨#[]⟩⟩], by simp; omega, (show shortF _ from shortF_snoc HM.out _ (by decide) (by decide)), by rw [cellsF_snoc, List.length_append]; exact O6, R6, G6, _, _, by rw [List.length_append]; rfl⟩
        case measure => simp [lenOfV]; omega
      · have hl0 : ¬ (M.length : Int) ≤ 60 := by omega
        go_wp2
        go_ret
        exact ⟨⟨_, M, rfl, hM, HM.out, O⟩, G, p1 + 1 + 1, by omega, R⟩
  · go_ret
    exact ⟨⟨_, L, rfl, by omega, HS.out, O2⟩, G2, p1 + 1, by omega, R2⟩

theorem short_snoc {M : List TE} (h : short M) (x : TE) (h1 : x.pa.size ≤ 64) (h2 : x.by_.size ≤ 64) : short (M ++ [x]) := fun y hy => by
  rcases List.mem_append.1 hy with hy | hy
  · exact h y hy
  · obtain rfl : y = x := by simpa using hy
    exact ⟨h1, h2⟩
theorem rowsApart {w : World} {b b' z z' n n' m' g : Nat} {e e' : TypeId} {v : Value} {c' : Nat} {xs xs' : List Value} (h : w.ownsRow b e z v n xs) (h' : w.ownsRow b' e' z' (.slice (some ⟨g, 0, none⟩) m' c') n' xs') (hne : e ≠ e') : v.ownBlock = none ∨ v.ownBlock ≠ some g := by
  rcases h.2 with ⟨rfl, _⟩ | ⟨g1, c1, cur1, rfl, _, h1, _⟩
  · exact .inl rfl
  · refine .inr fun e9 => ?_
    obtain rfl : g1 = g := by simpa [Value.ownBlock] using e9
    rcases h'.2 with ⟨h2, _⟩ | ⟨g2, c2, cur2, h2, _, h3, _⟩
    · cases h2
    · cases h2
      rw [h1] at h3
      cases h3
      exact hne rfl
theorem rowsApart2 {w : World} {b b' z z' n n' : Nat} {e e' : TypeId} {v v' : Value} {xs xs' : List Value} (h : w.ownsRow b e z v n xs) (h' : w.ownsRow b' e' z' v' n' xs') (hne : e ≠ e') : v.ownBlock = none ∨ v.ownBlock ≠ v'.ownBlock := by
  rcases h'.2 with ⟨rfl, h0, _⟩ | ⟨g, c, cur, rfl, _⟩
  · rcases hv : v.ownBlock with _ | k
    · exact .inl rfl
    · exact .inr (fun e9 => by cases e9)
  · exact rowsApart h h' hne
theorem nEq {w : World} {b n m z : Nat} {e : TypeId} {v : Value} {xs : List Value} (e9 : n = m) (h : w.ownsRow b e z v n xs) : w.ownsRow b e z v m xs := e9 ▸ h
theorem snocQF {w : World} {b g c : Nat} {ty : TypeId} {E : List TE} {x : TE} (h : w.ownsRow b ty 3 (.slice (some ⟨g, 0, none⟩) (E.length + 1) c) (E.length + 1) (cellsE E ++ [.string x.pa, .string x.by_, .bool x.gone])) : Hid (w.ownsRow b ty 3 (.slice (some ⟨g, 0, none⟩) (E.length + 1) c) (E.length + 1) (cellsE (E ++ [x]))) := by
  show World.ownsRow _ _ _ _ _ _ _
  rw [cellsE_snoc]; exact h
theorem grOwn2 {w w' : World} {base n z rb : Nat} {e : TypeId} {v : Value} {xs : List Value} {w0 : World} (G : w0.grownBy w (some rb)) (h : w.ownsRow base e z v n xs) (hb : w0.heap.size ≤ base) (hg : w.grownBy w' v.ownBlock) : w0.grownBy w' (some rb) := grOwn G h hb hg
theorem cellsE_first (E : List TE) (q : ByteArray) (h : 0 < E.length) (hs : short E) (hq : q.size ≤ 64) : ∃ F, (cellsE E).set 0 (.string q) = cellsE F ∧ F.length = E.length ∧ short F := by
  cases E with
  | nil => simp at h
  | cons x l =>
    refine ⟨⟨q, x.by_, x.gone⟩ :: l, by rw [cellsE_cons, cellsE_cons]; rfl, rfl, fun y hy => ?_⟩
    rcases List.mem_cons.1 hy with rfl | hy
    · exact ⟨hq, (hs x (List.mem_cons_self ..)).2⟩
    · exact hs y (List.mem_cons_of_mem _ hy)
end Go.Proofs.YthfffpdkmoclbaaGreatDoor.W
