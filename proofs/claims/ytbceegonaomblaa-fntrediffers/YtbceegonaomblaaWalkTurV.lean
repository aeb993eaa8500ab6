
/-
  The walk of the specification's TreTurn: a tree, behind edits one behind the other. Files and edits that a call has made, of at most 1048576 bytes.
-/
import Derived.Test.YtbceegonaomblaaWalkTurU
import Derived.Test.YtbceegonaomblaaWalkTreO
import Derived.Test.YtbceegonaomblaaRowE
namespace Go.Proofs.Ytbceegonaomblaa.W
open Go.RowKit Go.Lib Go.Proofs.Ytbceegonaomblaa.M

def edOf (E : List TE) : List (Bool × ByteArray × ByteArray) := E.map fun e => (e.gone, e.pa, e.by_)
/-- what TreTurn makes of files and edits -/
def turnT (L : List TF) (E : List TE) : Option (List TF) :=
  if okT L = true ∧ E.length ≤ 4 then (turnAll L (edOf E)).bind fun K => if okT K = true then some K else none else none
def turnL (L : List TF) (E : List TE) : List TF := (turnT L E).getD []
theorem okT_rise (L : List TF) (h : okT L = true) : RiseF L ∧ L.length ≤ 60 := by
  unfold okT at h
  simp only [Bool.and_eq_true, decide_eq_true_eq, List.all_eq_true, List.mem_range] at h
  obtain ⟨h0, h1, _⟩ := h
  have step : ∀ i (hi : i + 1 < L.length), (L[i]).pa.data.toList < (L[i + 1]).pa.data.toList := by
    intro i hi
    have := h1 (i + 1) hi
    unfold g1 at this
    simp only [Bool.and_eq_true, Bool.or_eq_true, decide_eq_true_eq] at this
    obtain ⟨_, _, _, h5⟩ := this
    rcases h5 with h5 | h5
    · omega
    · rw [Nat.add_sub_cancel, paL_at L i (by omega), paL_at L (i + 1) hi, bl_lt, decide_eq_true_eq] at h5
      exact h5
  refine ⟨?_, h0⟩
  have all : ∀ d i (hi : i + d + 1 < L.length), (L[i]).pa.data.toList < (L[i + d + 1]).pa.data.toList := by
    intro d
    induction d with
    | zero => intro i hi; exact step i hi
    | succ d ih => intro i hi; exact List.lt_trans (ih i (by omega)) (step (i + d + 1) hi)
  unfold RiseF
  rw [List.pairwise_iff_getElem]
  intro i j hi hj hij
  have := all (j - i - 1) i (by omega)
  have e : i + (j - i - 1) + 1 = j := by omega
  simpa only [e] using this

set_option maxHeartbeats 1000000 in
set_option maxRecDepth 100000 in
theorem l4Copy_none (c : Nat) (w : World) :
    Calls Try.prog 54 #[.slice none 0 c] w fun e w' => (∃ g cap, e = .returned (.slice (some ⟨g, 0, none⟩) 0 cap) ∧ w'.ownsRow w.heap.size 51 2 (.slice (some ⟨g, 0, none⟩) 0 cap) 0 []) ∧ Below w.heap.size w w' := by
  have o1 : (w.alloc (.cells #[] 51)).ownsRow w.heap.size 51 2 (.slice (some ⟨w.heap.size, 0, none⟩) 0 0) 0 [] := World.ownsRow_lit w #[] 0 (Nat.le_refl _) (by unfold maxLen; omega) rfl
  have B1 : Below w.heap.size w (w.alloc (.cells #[] 51)) := (Below.refl _ _).alloc (Nat.le_refl _) _
  go_enter Try.func54, Try.ntmps54
  go_wp2_with (show Oper.upon Try.prog _ _ _ _ (Result.ok (Next.value (.slice (some ⟨w.heap.size, 0, none⟩) 0 0)) (w.alloc (.cells #[] 51))))
  go_ret
  exact ⟨⟨_, _, rfl, o1⟩, B1⟩
set_option maxRecDepth 100000 in
/-- l4Copy of a row that a call has made -/
theorem l4Copy_row {b : Nat} {e : TypeId} (v : Value) (L : List TF) (w : World) (h : w.ownsRow b e 2 v L.length (cellsF L)) (hn : L.length ≤ 1048576) :
    Calls Try.prog 54 #[v] w fun e w' => (∃ g cap, e = .returned (.slice (some ⟨g, 0, none⟩) L.length cap) ∧ w'.ownsRow w.heap.size 51 2 (.slice (some ⟨g, 0, none⟩) L.length cap) L.length (cellsF L)) ∧ Below w.heap.size w w' := by
  obtain ⟨A, c, e1, hR⟩ := rdF_of_own h
  rcases h.2 with ⟨h1, h2⟩ | ⟨g, cap, cur, h1, _⟩
  · have hl : L = [] := List.length_eq_zero_iff.1 h2
    subst h1; subst hl
    exact l4Copy_none 0 w
  · subst e1
    obtain rfl : A = some ⟨g, 0, none⟩ := by injection h1
    exact l4Copy_some g 0 c L w hR hn
theorem l4Turn_fail (g c : Nat) (L : List TF) (p b : ByteArray) (gone : Bool) (w : World) (hL : RdF w.heap.size w (some ⟨g, 0, none⟩) L) (hn : L.length ≤ 500) (ht : turnF L gone p b = none) :
    Calls Try.prog 55 #[.slice (some ⟨g, 0, none⟩) L.length c, .agg #[.string p, .string b, .bool gone]] w fun e w' => (∃ v, e = .returned (.tuple #[v, .bool false])) ∧ Below w.heap.size w w' := by
  unfold turnF at ht
  cases gone with
  | true =>
    rw [if_pos rfl] at ht
    split at ht
    · rename_i h; exact l4Turn_no g c L p b w hL hn h
    · cases ht
  | false =>
    rw [if_neg (by decide)] at ht
    split at ht <;> cases ht
theorem l4Turn_yes (g c : Nat) (L K : List TF) (p b : ByteArray) (gone : Bool) (w : World) (hL : RdF w.heap.size w (some ⟨g, 0, none⟩) L) (hn : L.length ≤ 500) (hc : L.length ≤ c) (ht : turnF L gone p b = some K) :
    Calls Try.prog 55 #[.slice (some ⟨g, 0, none⟩) L.length c, .agg #[.string p, .string b, .bool gone]] w fun e w' => (∃ g' c', e = .returned (.tuple #[.slice (some ⟨g', 0, none⟩) K.length c', .bool true]) ∧ w'.ownsRow w.heap.size 51 2 (.slice (some ⟨g', 0, none⟩) K.length c') K.length (cellsF K)) ∧ Below w.heap.size w w' := by
  unfold turnF at ht
  cases gone with
  | true =>
    rw [if_pos rfl] at ht
    split at ht
    · cases ht
    · rename_i h
      cases ht
      have h1 : ¬ findF L p = none := fun e => h (.inl e)
      have h2 : b = ByteArray.empty := Decidable.byContradiction fun e => h (.inr e)
      cases hf : findF L p with
      | none => exact absurd hf h1
      | some t => exact l4Turn_cut g c L p b w hL hn hc t hf h2
  | false =>
    rw [if_neg (by decide)] at ht
    split at ht
    · rename_i h
      cases ht
      rw [show (sortF (L ++ [⟨p, b⟩])).length = L.length + 1 by rw [len_sortF]; simp]
      exact l4Turn_ins g c L p b w hL hn h
    · rename_i h
      cases ht
      cases hf : findF L p with
      | none => exact absurd hf h
      | some t => rw [len_putF]; exact l4Turn_put g c L p b w hL hn t hf

set_option maxHeartbeats 4000000 in
set_option maxRecDepth 100000 in
theorem treTurn_spec {b0 : Nat} {e0 : TypeId} (v : Value) (L : List TF) (A : Option Addr) (cE : Nat) (E : List TE) (w : World) (h : w.ownsRow b0 e0 2 v L.length (cellsF L)) (hE : RdE w.heap.size w A E) (hn : L.length ≤ 1048576) (hnE : E.length ≤ 1048576)
    (ht : ∀ j (h : j < L.length), (L[j]).pa.size ≤ 1048576 ∧ (L[j]).by_.size ≤ 1048576) (htE : ∀ j (h : j < E.length), (E[j]).pa.size ≤ 1048576 ∧ (E[j]).by_.size ≤ 1048576) :
    Calls Try.prog 36 #[v, .slice A E.length cE] w fun e w' => ∃ v', e = .returned (.tuple #[v', .bool (turnT L E).isSome]) ∧ w'.ownsRow w.heap.size 51 2 v' (turnL L E).length (cellsF (turnL L E)) ∧ Below w.heap.size w w' := by
  obtain ⟨A1, c1, rfl, hR⟩ := rdF_of_own h
  have HE : Hid (RdE w.heap.size w A E) := hE
  have HO : Hid (w.ownsRow b0 e0 2 (.slice A1 L.length c1) L.length (cellsF L)) := h
  have HT : Hid (∀ j (h : j < L.length), (L[j]).pa.size ≤ 1048576 ∧ (L[j]).by_.size ≤ 1048576) := ht
  have HTE : Hid (∀ j (h : j < E.length), (E[j]).pa.size ≤ 1048576 ∧ (E[j]).by_.size ≤ 1048576) := htE
  have hok := treOk_spec A1 c1 L w hR hn ht
  clear h hE hR ht htE
  by_cases hk : okT L = true
  case neg =>
    have HD : Hid (turnT L E = none) := (show turnT L E = none by unfold turnT; rw [if_neg (fun h => hk h.1)])
    have hk' : okT L = false := by simpa using hk
    rw [hk'] at hok
    clear hk hk'
    go_enter Try.func36, Try.ntmps36
    go_wp2_with (go_at_call 12; refine hok.mono ?_; rintro e w1 ⟨rfl, hb1⟩; clear hok)
    go_ret2
    refine ⟨_, by rw [HD.out]; rfl, ?_, hb1.alloc hb1.size _⟩
    unfold turnL; rw [HD.out]
    exact World.ownsRow_lit w1 #[] 0 hb1.size (by unfold maxLen; omega) rfl
  case pos =>
    rw [hk] at hok
    by_cases hE4 : E.length ≤ 4
    case neg =>
      have HD : Hid (turnT L E = none) := (show turnT L E = none by unfold turnT; rw [if_neg (fun h => hE4 h.2)])
      have hE5 : (4 : Int) < (E.length : Int) := by omega
      clear hk hE4
      go_enter Try.func36, Try.ntmps36
      go_wp2_with (go_at_call 12; refine hok.mono ?_; rintro e w1 ⟨rfl, hb1⟩; clear hok)
      go_ret2
      refine ⟨_, by rw [HD.out]; rfl, ?_, hb1.alloc hb1.size _⟩
      unfold turnL; rw [HD.out]
      exact World.ownsRow_lit w1 #[] 0 hb1.size (by unfold maxLen; omega) rfl
    case pos =>
      obtain ⟨hr, h60⟩ := okT_rise L hk
      have HR : Hid (RiseF L) := hr
      have HD : Hid (turnT L E = (turnAll L (edOf E)).bind fun K => if okT K = true then some K else none) := (show turnT L E = _ by unfold turnT; rw [if_pos ⟨hk, hE4⟩])
      have hE5 : ¬ (4 : Int) < (E.length : Int) := by omega
      clear hr hk
      go_enter Try.func36, Try.ntmps36
      go_wp2_with (first
        | (go_at_call 12; refine hok.mono ?_; rintro e w1 ⟨rfl, hb1⟩; clear hok; have HB1 : Hid (Below w.heap.size w w1) := hb1; have hs1 := hb1.size)
        | (go_at_call 54; refine (l4Copy_row _ L _ (ownsUnder HO.out hb1 (Nat.le_refl _)) hn).mono ?_; rintro e w2 ⟨⟨g2, c2, rfl, o2⟩, hb2⟩; have HB2 : Below w.heap.size w w2 := hb1.trans (hb2.mono hs1); have O2 : Hid (w2.ownsRow w.heap.size 51 2 (.slice (some ⟨g2, 0, none⟩) L.length c2) L.length (cellsF L)) := ownsUpF o2 hs1; clear o2 hb2 hb1))
      go_loopw [6, 7] (fun vo iv wr => ∃ (i g cap : Nat) (K : List TF), i ≤ E.length ∧ iv = .int .i64 i ∧ vo = .slice (some ⟨g, 0, none⟩) K.length cap ∧ K.length ≤ 60 + i ∧ Hid (turnAll L (edOf (E.take i)) = some K) ∧ wr.ownsRow w.heap.size 51 2 vo K.length (cellsF K) ∧ Below w.heap.size w wr) (fun _ i _ => E.length - (RowKit.intOf i).toNat)
      case atStart => exact ⟨0, g2, c2, L, Nat.zero_le _, rfl, rfl, h60, (show turnAll L (edOf (E.take 0)) = some L from rfl), O2.out, HB2⟩
      case round =>
        obtain ⟨i, g, cap, K, hi, rfl, rfl, hK, HK, hown, hb⟩ := hrel
        have hsz := hb.size
        have hcap := ownsCap hown
        obtain ⟨A9, c9, e9, hR9⟩ := rdF_of_own hown
        have HR9 : Hid (RdF wr.heap.size wr (some ⟨g, 0, none⟩) K) := by cases e9; exact hR9
        clear hR9 e9
        by_cases hlt : i < E.length
        · obtain ⟨bE, oE, rfl, hbl, d1, d2, d3⟩ := (HE.out.below hb (Nat.le_refl _)) i hlt
          have hsn : edOf (E.take (i + 1)) = edOf (E.take i) ++ [((E[i]).gone, (E[i]).pa, (E[i]).by_)] := by unfold edOf; rw [List.take_succ_eq_append_getElem hlt, List.map_append]; rfl
          have hse : ∃ R, edOf E = edOf (E.take (i + 1)) ++ R := ⟨edOf (E.drop (i + 1)), by unfold edOf; rw [← List.map_append, List.take_append_drop]⟩
          obtain ⟨x, hx⟩ : ∃ x, E[i] = x := ⟨_, rfl⟩
          rw [hx] at d1 d2 d3 hsn
          clear hx
          have HS : Hid (edOf (E.take (i + 1)) = edOf (E.take i) ++ [(x.gone, x.pa, x.by_)]) := hsn
          have hall : turnAll L (edOf (E.take (i + 1))) = turnF K x.gone x.pa x.by_ := by rw [hsn, turnAll_snoc, HK.out]; rfl
          clear hsn
          cases hf : turnF K x.gone x.pa x.by_ with
          | none =>
            rw [hf] at hall
            have HN : Hid (turnT L E = none) := (show turnT L E = none by obtain ⟨R, hR⟩ := hse; rw [HD.out, hR, turnAll_none L _ R hall]; rfl)
            have hcall := l4Turn_fail g cap K x.pa x.by_ x.gone wr HR9.out (by omega) hf
            obtain ⟨p, b, gone⟩ := x
            simp only at hcall d1 d2 d3
            clear hall hf hse HS hcap hown
            go_wp2_with (go_at_call 55; refine hcall.mono ?_; rintro e w3 ⟨⟨v3, rfl⟩, hb3⟩; clear hcall)
            go_ret2
            have hb4 := hb.trans (hb3.mono hsz)
            refine ⟨_, by rw [HN.out]; rfl, ?_, hb4.alloc hb4.size _⟩
            unfold turnL; rw [HN.out]
            exact World.ownsRow_lit w3 #[] 0 hb4.size (by unfold maxLen; omega) rfl
          | some M =>
            rw [hf] at hall
            have HN : Hid (turnAll L (edOf (E.take (i + 1))) = some M) := hall
            have hml := (turnAll_ok L M _ HR.out hall).2.1
            have hel : (edOf (E.take (i + 1))).length = i + 1 := by unfold edOf; simp; omega
            have hcall := l4Turn_yes g cap K M x.pa x.by_ x.gone wr HR9.out (by omega) hcap hf
            obtain ⟨p, b, gone⟩ := x
            simp only at hcall d1 d2 d3
            have hM : M.length ≤ 60 + (i + 1) := by omega
            clear hall hf hse HS hcap hown hml hel
            go_wp2_with (go_at_call 55; refine hcall.mono ?_; rintro e w3 ⟨⟨g3, c3, rfl, o3⟩, hb3⟩; clear hcall)
            go_roundw
            case rel => exact ⟨i + 1, g3, c3, M, by omega, by go_num, rfl, hM, HN, ownsUpF o3 hsz, hb.trans (hb3.mono hsz)⟩
            case measure => simp [RowKit.intOf]; omega
        · obtain rfl : i = E.length := by omega
          have hall := HK.out
          rw [List.take_length] at hall
          have hmem := (turnAll_ok L K _ HR.out hall).2.2
          have htK : ∀ j (h : j < K.length), (K[j]).pa.size ≤ 1048576 ∧ (K[j]).by_.size ≤ 1048576 := by
            intro j hj
            rcases hmem _ (List.getElem_mem hj) with hx | ⟨e, he, hx⟩
            · obtain ⟨q, hq, e⟩ := List.getElem_of_mem hx
              rw [← e]; exact HT.out q hq
            · unfold edOf at he
              obtain ⟨y, hy, rfl⟩ := List.mem_map.1 he
              obtain ⟨q, hq, e⟩ := List.getElem_of_mem hy
              rw [hx, ← e]; exact HTE.out q hq
          have hokK := treOk_spec (some ⟨g, 0, none⟩) cap K wr HR9.out (by omega) htK
          have HDK : Hid (turnT L E = if okT K = true then some K else none) := (show turnT L E = _ by rw [HD.out, hall]; rfl)
          have HO9 : Hid (wr.ownsRow w.heap.size 51 2 (.slice (some ⟨g, 0, none⟩) K.length cap) K.length (cellsF K)) := hown
          clear hmem htK hall hown
          cases hkK : okT K with
          | false =>
            rw [hkK] at hokK
            have HN : Hid (turnT L E = none) := (show turnT L E = none by rw [HDK.out, hkK]; rfl)
            clear hkK
            go_wp2_with (go_at_call 12; refine hokK.mono ?_; rintro e w3 ⟨rfl, hb3⟩; clear hokK)
            go_ret2
            have hb4 := hb.trans (hb3.mono hsz)
            refine ⟨_, by rw [HN.out]; rfl, ?_, hb4.alloc hb4.size _⟩
            unfold turnL; rw [HN.out]
            exact World.ownsRow_lit w3 #[] 0 hb4.size (by unfold maxLen; omega) rfl
          | true =>
            rw [hkK] at hokK
            have HN : Hid (turnT L E = some K) := (show turnT L E = some K by rw [HDK.out, hkK]; rfl)
            clear hkK
            go_wp2_with (go_at_call 12; refine hokK.mono ?_; rintro e w3 ⟨rfl, hb3⟩; clear hokK)
            go_ret2
            refine ⟨_, by rw [HN.out]; rfl, ?_, hb.trans (hb3.mono hsz)⟩
            unfold turnL; rw [HN.out]
            exact ownsUnder HO9.out hb3 (Nat.le_refl _)
end Go.Proofs.Ytbceegonaomblaa.W
