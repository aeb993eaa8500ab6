
/-
  A pool as a map of items by their ids: poolOf, and what put makes of it. Pools of at most 1048576 bytes.
-/
import Derived.Test.YtcmbcaipnjokjaaGreatDoorMathPPut
import Derived.Test.YtcmbcaipnjokjaaGreatDoorWalkPolM
import Derived.Test.YtcmbcaipnjokjaaGreatDoorMathNew
import Derived.Maps.OwnSet
import Derived.Maps.OwnOps
import Derived.Maps.Views
namespace Go.Proofs.YtcmbcaipnjokjaaGreatDoor.W
open Go.RowKit Go.Proofs.YtcmbcaipnjokjaaGreatDoor.M Go.MapKept Go.ChangeMaps
set_option linter.unusedVariables false

/-- how an item reads as a map's element -/
def itemList (l : List Value) : Option (DataW Unit × List MemPlace) := match l with
  | [.int .i64 n, .string t] => some (.agg [.lit (.int .i64 n), .lit (.string t.data.toList)], [])
  | _ => none
def itemElem (v : Value) : Option (DataW Unit × List MemPlace) := match v with
  | .agg cs => itemList cs.toList
  | _ => none
theorem itemElem_mk (n : Int) (t : ByteArray) : itemElem (.agg #[.int .i64 n, .string t]) = some (.agg [.lit (.int .i64 n), .lit (.string t.data.toList)], []) := rfl
theorem itemElem_inv {v : Value} {z : DataW Unit × List MemPlace} (h : itemElem v = some z) : ∃ (n : Int) (t : ByteArray), v = .agg #[.int .i64 n, .string t] ∧ z = (.agg [.lit (.int .i64 n), .lit (.string t.data.toList)], []) := by
  unfold itemElem at h
  split at h
  · rename_i cs
    obtain ⟨l⟩ := cs
    unfold itemList at h
    split at h
    · rename_i n t e
      obtain rfl : l = [.int .i64 n, .string t] := e
      exact ⟨n, t, rfl, (Option.some.inj h).symm⟩
    · cases h
  · cases h
theorem paEq {p q : ByteArray} (h : p.data.toList = q.data.toList) : p = q := by
  cases p; cases q; exact congrArg _ (Array.toList_inj.1 h)
theorem run_makeMapP (n : Nat) (w : World) : (Instr.makeMap 52 (some (.int .i64 n))).run Tryz.prog w = .ok (.map (some w.heap.size)) (w.alloc (.map #[] 0)) := by
  have hu : Tryz.prog.underlying 52 = some (.map 3 49) := Tryz.underlying52
  simp [Instr.makeMap, run_underlying hu, asInt, asIntOf, Result.andThen, newObj, go_sem]
  rfl
theorem zeroPI (w : World) : (zeroValue 49).run Tryz.prog w = .ok (.agg #[.int .i64 0, .string ByteArray.empty]) w := by kernel_rfl
/-- a map of items tells these texts at ids -/
def mapP (D : DataW Unit) (f : Int → Option ByteArray) : Prop := ∀ n : Int, Maps.has D (.int .i64 n) = (f n).isSome ∧ ∀ t, f n = some t → ∀ z, D.atKey (.int .i64 n) z = .agg [.lit (.int .i64 n), .lit (.string t.data.toList)]
theorem keyP_ne {p q : Int} (h : ¬ p = q) : (Lit.int .i64 p) ≠ .int .i64 q := by
  intro e
  injection e with _ e
  exact h e
theorem mapP_put {D : DataW Unit} {f : Int → Option ByteArray} {p : Int} {b : ByteArray} (hk : WideAt.IsKeyLit (.int .i64 p)) (hD : Maps.IsMap D) (h : mapP D f) :
    mapP (D.put (.int .i64 p) (.agg [.lit (.int .i64 p), .lit (.string b.data.toList)])) fun q => if q = p then some b else f q := by
  intro q
  by_cases hq : q = p
  · subst hq
    simp only [if_pos]
    refine ⟨Maps.has_put_same hD hk _, fun t ht z => ?_⟩
    rw [← Option.some.inj ht]
    exact Maps.atKey_put_same hD hk _ z
  · simp only [if_neg hq]
    rw [Maps.has_put_other (keyP_ne hq)]
    refine ⟨(h q).1, fun t ht z => ?_⟩
    rw [Maps.atKey_put_other (keyP_ne hq)]
    exact (h q).2 t ht z
theorem findP_snoc (T : List PI) (x : PI) (n : Int) (hx : findP T x.id = none) : findP (T ++ [x]) n = if n = x.id then some x.tx else findP T n := by
  induction T with
  | nil => by_cases h : n = x.id <;> simp [findP, h, eq_comm]
  | cons y l ih =>
    have hn := (findP_none ..).1 hx
    have hl : findP l x.id = none := (findP_none ..).2 fun u hu => hn u (List.mem_cons_of_mem _ hu)
    have hne := hn y (List.mem_cons_self ..)
    simp only [List.cons_append, findP, ih hl]
    by_cases h : n = x.id
    · subst h; simp [hne]
    · simp [h]
theorem findP_take (L : List PI) (j : Nat) (h : j < L.length) (hr : RiseP L) : findP (L.take j) (L[j]).id = none := (findP_none ..).2 fun u hu e => by
  obtain ⟨i, hi, rfl⟩ := List.getElem_of_mem hu
  rw [List.getElem_take] at e
  have := List.pairwise_iff_getElem.1 hr i j (by simp at hi; omega) h (by simp at hi; omega)
  omega
theorem idWf (n : Int) (h0 : 0 ≤ n) (h1 : n ≤ 4294967295) : (Lit.int .i64 n).wf = true := by
  have h2 : -9223372036854775808 ≤ n := by omega
  have h3 : n ≤ 9223372036854775807 := by omega
  have e : IntKind.i64.min = -9223372036854775808 := rfl
  simp only [Lit.wf, decide_eq_true_eq, Bool.and_eq_true]
  simp
  omega

set_option maxRecDepth 100000 in
set_option maxHeartbeats 4000000 in
theorem poolOf_yes (A : Option Addr) (c : Nat) (L : List PI) (w : World) (hg : TypeCell w) (hL : RdP w.heap.size w A L) (hn : L.length ≤ 1048576) (ht : ∀ j (h : j < L.length), (L[j]).tx.size ≤ 1048576) (hk : okP L = true) :
    Calls Tryz.prog 29 #[.slice A L.length c] w fun e w' => ∃ (b : Nat) (D : DataW Unit), e = .returned (.tuple #[.map (some b), .bool true]) ∧ w'.ownsMap Tryz.prog 3 itemElem b L.length D ∧ mapP D (findP L) ∧ Maps.size D = L.length ∧ w.heap.size ≤ b ∧ Below w.heap.size w w' := by
  have hok := polOk_impl A c L w hg hL hn ht
  rw [hk] at hok
  have HL : Hid (RdP w.heap.size w A L) := hL
  obtain ⟨hr, h700, hid⟩ := okP_rise L hk
  have HR : Hid (RiseP L) := hr
  have HID : Hid (∀ j (h : j < L.length), (L[j]).id = (idOfN (L[j]).tx.data.toList : Int)) := hid
  clear hL ht hk hr hid
  have law := Maps.int_keyed (P := Tryz.prog) Tryz.underlying3
  have hmm := fun w => run_makeMapP L.length w
  go_enter Tryz.func29, Tryz.ntmps29
  go_wp2_with (go_at_call 44; refine hok.mono ?_; rintro e w1 ⟨rfl, hb1⟩; clear hok; have hs1 := hb1.size)
  go_loopw [15] (fun iv wr => ∃ (j : Nat) (D : DataW Unit), j ≤ L.length ∧ iv = .int .i64 j ∧ Hid (mapP D (findP (L.take j)) ∧ Maps.size D = j) ∧ wr.ownsMap Tryz.prog 3 itemElem w1.heap.size j D ∧ Below w.heap.size w wr) (fun i _ => L.length - (RowKit.intOf i).toNat)
  case atStart => exact ⟨0, .map [], Nat.zero_le _, rfl, (show mapP (.map []) (findP (L.take 0)) ∧ Maps.size (.map []) = 0 from ⟨fun p => ⟨rfl, fun t ht => by simp [findP] at ht⟩, rfl⟩), World.ownsMap_made w1 Tryz.prog 3 itemElem, hb1.alloc hs1 _⟩
  case round =>
    obtain ⟨j, D, hj, rfl, HM, hown, hb⟩ := hrel
    have hsz := hb.size
    by_cases hlt : j < L.length
    · obtain ⟨b, o, rfl, hbl, c1, c2⟩ := (HL.out.below hb (Nat.le_refl _)) j hlt
      have hidj := HID.out j hlt
      have hnone := findP_take L j hlt HR.out
      have hidb := idOfN_bd (L[j]).tx.data.toList
      have HN : Hid (∀ q, findP (L.take (j + 1)) q = if q = (L[j]).id then some (L[j]).tx else findP (L.take j) q) := (show ∀ q, _ from fun q => by rw [List.take_succ_eq_append_getElem hlt, findP_snoc _ _ _ hnone])
      obtain ⟨x, hx⟩ : ∃ x, L[j] = x := ⟨_, rfl⟩
      rw [hx] at HN c1 c2 hidj hnone hidb
      obtain ⟨q, t⟩ := x
      simp only at c1 c2 hidj hnone hidb
      clear hx
      have hwf : (Lit.int .i64 q).wf = true := idWf q (by omega) (by omega)
      have hkey : keyOf Tryz.prog 3 (.int .i64 q) = some (.int .i64 q) := Maps.keyOf_int_mk Tryz.underlying3 hwf
      have HD : Hid (Maps.IsMap D) := hown.isMap
      have htidy := hown.tidy law
      have hhas := (HM.out.1 q).1
      rw [hnone] at hhas
      have hsp := Maps.size_put (k := .int .i64 q) htidy (.agg [.lit (.int .i64 q), .lit (.string t.data.toList)])
      rw [hhas, HM.out.2] at hsp
      have HE : Hid (mapP (D.put (.int .i64 q) (.agg [.lit (.int .i64 q), .lit (.string t.data.toList)])) (findP (L.take (j + 1))) ∧ Maps.size (D.put (.int .i64 q) (.agg [.lit (.int .i64 q), .lit (.string t.data.toList)])) = j + 1) := (show _ ∧ _ from ⟨by
        have e : findP (L.take (j + 1)) = fun m => if m = q then some t else findP (L.take j) m := funext HN.out
        rw [e]
        exact mapP_put (law.key hkey) HD.out HM.out.1, by simpa using hsp⟩)
      clear HM HN hsp hhas htidy hidj hnone hwf hidb
      go_wp2_with (at_mapUpdate; refine wpList_mapUpdate_own _ rfl _ _ _ 52 rfl 3 49 law Tryz.underlying52 itemElem w1.heap.size j D rfl (hown.alloc _) (by unfold maxLen; omega) _ _ _ rfl rfl hkey _ [] (itemElem_mk q t) ?_; intro w3 o3 g3)
      go_roundw
      case rel => exact ⟨j + 1, _, by omega, by go_num, HE, o3, (hb.alloc hsz _).grown g3 (by simp; omega) (fun k e => by cases e; exact hs1)⟩
      case measure => simp [RowKit.intOf]; omega
    · go_wp2
      go_ret2
      obtain rfl : j = L.length := by omega
      have e := HM.out
      rw [List.take_length] at e
      exact ⟨w1.heap.size, D, rfl, hown, e.1, e.2, hs1, hb⟩
set_option maxRecDepth 100000 in
set_option maxHeartbeats 1000000 in
theorem poolOf_no (A : Option Addr) (c : Nat) (L : List PI) (w : World) (hg : TypeCell w) (hL : RdP w.heap.size w A L) (hn : L.length ≤ 1048576) (ht : ∀ j (h : j < L.length), (L[j]).tx.size ≤ 1048576) (hk : okP L = false) :
    Calls Tryz.prog 29 #[.slice A L.length c] w fun e w' => e = .returned (.tuple #[.map none, .bool false]) ∧ Below w.heap.size w w' := by
  have hok := polOk_impl A c L w hg hL hn ht
  rw [hk] at hok
  clear hL ht hk
  go_enter Tryz.func29, Tryz.ntmps29
  go_wp2_with (go_at_call 44; refine hok.mono ?_; rintro e w1 ⟨rfl, hb1⟩; clear hok)
  go_ret2
  exact ⟨rfl, hb1⟩
end Go.Proofs.YtcmbcaipnjokjaaGreatDoor.W
