/-
  The library's contracts on sorted keys at this program: each is one application of a theorem of the library; its conditions are its hypotheses.
  A pool as a map of items by their ids: poolOf, and what put makes of it. Pools of at most 1048576 bytes.
  A map of files, told in the order of its paths: the iterator that the program makes (for every loop body that leaves maps and rows of texts as they are), and the row that it gathers. Maps of at most 1048576 entries.
-/
import Derived.Shelf.SlIterI.Nil
import Derived.Shelf.SortM.Plain
import Derived.Shelf.SortM.SortNone
import Derived.Ground.GgzProg
import Derived.Ground.SlgmProg
import Derived.Test.YthfffpdkmoclbaaGreatDoorProg
import Derived.Test.YthfffpdkmoclbaaGreatDoorMg31
import Derived.Test.YthfffpdkmoclbaaGreatDoorMg32
import Derived.Test.YthfffpdkmoclbaaGreatDoorMg14
import Derived.Maps.OwnSet
import Derived.Maps.OwnOps
import Derived.Maps.Views
import Derived.RangeFuncNested
import Derived.RangeFuncBound
import Derived.RangeFuncCalls
import Derived.RangeFuncLeaves
import Derived.RangeFuncBox
import Derived.Shelf.Abstract
import Derived.Shelf.RegionOpen
import Derived.WalkKit
import Derived.OwnWalkIn
import Derived.TacticsInMore
import Derived.LoopNIn
import Derived.LoopIn
import Derived.Maps.AppendAt
import Derived.Maps.OwnIn
namespace Go.Proofs
open Go.Shelf
def Tryz.keysT_ren : Go.Shelf.Ren := ⟨fun | 7 => 115 | 10 => 138 | n => n, fun | 23 => 74 | 26 => 3 | 3 => 35 | 28 => 150 | 0 => 0 | 27 => 149 | 33 => 171 | 4 => 4 | n => n, fun | n => n⟩
theorem Tryz.keysT : Go.Proofs.SlLaysZI.n7 Tryz.prog Tryz.keysT_ren := {
  mixed := by kernel_rfl
  f7 := ⟨Tryz.f115.name, by decide, Tryz.func115.trans (congrArg some (by kernel_rfl))⟩
  f10 := ⟨Tryz.f138.name, by decide, Tryz.func138.trans (congrArg some (by kernel_rfl))⟩
  t0 := Tryz.underlying0
  a0 := Tryz.isAgg0
  z0 := Tryz.sizeOf0
  v0 := Tryz.zeroValue0
  t4 := Tryz.underlying4
  a4 := Tryz.isAgg4
  z4 := Tryz.sizeOf4
  v4 := Tryz.zeroValue4
  t23 := Tryz.underlying74
  a23 := Tryz.isAgg74
  z23 := Tryz.sizeOf74
  v23 := Tryz.zeroValue74
  t26 := Tryz.underlying3
  a26 := Tryz.isAgg3
  z26 := Tryz.sizeOf3
  v26 := Tryz.zeroValue3
  t27 := Tryz.underlying149
  a27 := Tryz.isAgg149
  z27 := Tryz.sizeOf149
  v27 := Tryz.zeroValue149
  t28 := Tryz.underlying150
  a28 := Tryz.isAgg150
  z28 := Tryz.sizeOf150
  v28 := Tryz.zeroValue150
  t33 := Tryz.underlying171
  a33 := Tryz.isAgg171
  z33 := Tryz.sizeOf171
  v33 := Tryz.zeroValue171 }
def Tryz.sortedT_ren : Go.Shelf.Ren := ⟨fun | 6 => 114 | 8 => 136 | 9 => 137 | 11 => 154 | 13 => 156 | 12 => 155 | 23 => 178 | 24 => 179 | 14 => 169 | 15 => 170 | 16 => 171 | 17 => 172 | 18 => 173 | 19 => 174 | 20 => 175 | 21 => 176 | 22 => 177 | 25 => 183 | 26 => 184 | 27 => 185 | 28 => 186 | 29 => 187 | 30 => 188 | 31 => 192 | n => n, fun | 26 => 3 | 28 => 150 | 24 => 41 | 0 => 0 | 3 => 3 | 37 => 202 | 48 => 85 | 50 => 233 | 4 => 4 | 40 => 225 | 39 => 224 | 45 => 152 | 5 => 5 | 9 => 9 | 51 => 234 | 55 => 238 | 57 => 242 | 58 => 78 | 33 => 171 | n => n, fun | n => n⟩
theorem Tryz.sortedT : Go.Proofs.SlLaysZI.n6 Tryz.prog Tryz.sortedT_ren := {
  mixed := by kernel_rfl
  f6 := ⟨Tryz.f114.name, by decide, Tryz.func114.trans (congrArg some (by kernel_rfl))⟩
  f8 := ⟨Tryz.f136.name, by decide, Tryz.func136.trans (congrArg some (by kernel_rfl))⟩
  f11 := ⟨Tryz.f154.name, by decide, Tryz.func154.trans (congrArg some (by kernel_rfl))⟩
  t0 := Tryz.underlying0
  a0 := Tryz.isAgg0
  z0 := Tryz.sizeOf0
  v0 := Tryz.zeroValue0
  t24 := Tryz.underlying41
  a24 := Tryz.isAgg41
  z24 := Tryz.sizeOf41
  v24 := Tryz.zeroValue41
  t26 := Tryz.underlying3
  a26 := Tryz.isAgg3
  z26 := Tryz.sizeOf3
  v26 := Tryz.zeroValue3
  t28 := Tryz.underlying150
  a28 := Tryz.isAgg150
  z28 := Tryz.sizeOf150
  v28 := Tryz.zeroValue150
  i26 := by kernel_rfl }
def Tryz.sortT_ren : Go.Shelf.Ren := ⟨fun | 5 => 137 | 8 => 156 | 7 => 155 | 19 => 178 | 20 => 179 | 10 => 169 | 11 => 170 | 12 => 171 | 13 => 172 | 14 => 173 | 15 => 174 | 16 => 175 | 17 => 176 | 18 => 177 | 30 => 183 | 31 => 184 | 32 => 185 | 33 => 186 | 34 => 187 | 35 => 188 | 40 => 192 | n => n, fun | 23 => 41 | 25 => 3 | 3 => 3 | 32 => 202 | 22 => 41 | 0 => 0 | 44 => 85 | 46 => 233 | 4 => 4 | 36 => 225 | 35 => 224 | 41 => 152 | 5 => 5 | 9 => 9 | 53 => 234 | 57 => 238 | 63 => 242 | 64 => 78 | n => n, fun | n => n⟩
theorem Tryz.sortT : Go.Proofs.SlLaysM.n5 Tryz.prog Tryz.sortT_ren := {
  mixed := by kernel_rfl
  f5 := ⟨Tryz.f137.name, by decide, Tryz.func137.trans (congrArg some (by kernel_rfl))⟩
  f7 := ⟨Tryz.f155.name, by decide, Tryz.func155.trans (congrArg some (by kernel_rfl))⟩
  f8 := Tryz.func156.trans (congrArg some (by kernel_rfl))
  f10 := ⟨Tryz.f169.name, by decide, Tryz.func169.trans (congrArg some (by kernel_rfl))⟩
  f11 := ⟨Tryz.f170.name, by decide, Tryz.func170.trans (congrArg some (by kernel_rfl))⟩
  f12 := ⟨Tryz.f171.name, by decide, Tryz.func171.trans (congrArg some (by kernel_rfl))⟩
  f13 := ⟨Tryz.f172.name, by decide, Tryz.func172.trans (congrArg some (by kernel_rfl))⟩
  f14 := ⟨Tryz.f173.name, by decide, Tryz.func173.trans (congrArg some (by kernel_rfl))⟩
  f15 := ⟨Tryz.f174.name, by decide, Tryz.func174.trans (congrArg some (by kernel_rfl))⟩
  f16 := ⟨Tryz.f175.name, by decide, Tryz.func175.trans (congrArg some (by kernel_rfl))⟩
  f17 := ⟨Tryz.f176.name, by decide, Tryz.func176.trans (congrArg some (by kernel_rfl))⟩
  f18 := ⟨Tryz.f177.name, by decide, Tryz.func177.trans (congrArg some (by kernel_rfl))⟩
  f19 := Tryz.func178.trans (congrArg some (by kernel_rfl))
  f20 := Tryz.func179.trans (congrArg some (by kernel_rfl))
  f30 := ⟨Tryz.f183.name, by decide, Tryz.func183.trans (congrArg some (by kernel_rfl))⟩
  f31 := Tryz.func184.trans (congrArg some (by kernel_rfl))
  f32 := Tryz.func185.trans (congrArg some (by kernel_rfl))
  f33 := ⟨Tryz.f186.name, by decide, Tryz.func186.trans (congrArg some (by kernel_rfl))⟩
  f34 := ⟨Tryz.f187.name, by decide, Tryz.func187.trans (congrArg some (by kernel_rfl))⟩
  f35 := ⟨Tryz.f188.name, by decide, Tryz.func188.trans (congrArg some (by kernel_rfl))⟩
  f40 := ⟨Tryz.f192.name, by decide, Tryz.func192.trans (congrArg some (by kernel_rfl))⟩
  t0 := Tryz.underlying0
  a0 := Tryz.isAgg0
  z0 := Tryz.sizeOf0
  v0 := Tryz.zeroValue0
  t3 := Tryz.underlying3
  a3 := Tryz.isAgg3
  z3 := Tryz.sizeOf3
  v3 := Tryz.zeroValue3
  t4 := Tryz.underlying4
  a4 := Tryz.isAgg4
  z4 := Tryz.sizeOf4
  v4 := Tryz.zeroValue4
  t5 := Tryz.underlying5
  a5 := Tryz.isAgg5
  z5 := Tryz.sizeOf5
  v5 := Tryz.zeroValue5
  t9 := Tryz.underlying9
  a9 := Tryz.isAgg9
  z9 := Tryz.sizeOf9
  v9 := Tryz.zeroValue9
  t22 := Tryz.underlying41
  a22 := Tryz.isAgg41
  z22 := Tryz.sizeOf41
  v22 := Tryz.zeroValue41
  t23 := Tryz.underlying41
  a23 := Tryz.isAgg41
  z23 := Tryz.sizeOf41
  v23 := Tryz.zeroValue41
  t25 := Tryz.underlying3
  a25 := Tryz.isAgg3
  z25 := Tryz.sizeOf3
  v25 := Tryz.zeroValue3
  t32 := Tryz.underlying202
  a32 := Tryz.isAgg202
  z32 := Tryz.sizeOf202
  v32 := Tryz.zeroValue202
  t35 := Tryz.underlying224
  a35 := Tryz.isAgg224
  z35 := Tryz.sizeOf224
  v35 := Tryz.zeroValue224
  t36 := Tryz.underlying225
  a36 := Tryz.isAgg225
  z36 := Tryz.sizeOf225
  v36 := Tryz.zeroValue225
  t41 := Tryz.underlying152
  a41 := Tryz.isAgg152
  z41 := Tryz.sizeOf152
  v41 := Tryz.zeroValue152
  t44 := Tryz.underlying85
  a44 := Tryz.isAgg85
  z44 := Tryz.sizeOf85
  v44 := Tryz.zeroValue85
  t46 := Tryz.underlying233
  a46 := Tryz.isAgg233
  z46 := Tryz.sizeOf233
  v46 := Tryz.zeroValue233
  t53 := Tryz.underlying234
  a53 := Tryz.isAgg234
  z53 := Tryz.sizeOf234
  v53 := Tryz.zeroValue234
  t57 := Tryz.underlying238
  a57 := Tryz.isAgg238
  z57 := Tryz.sizeOf238
  v57 := Tryz.zeroValue238
  t63 := Tryz.underlying242
  a63 := Tryz.isAgg242
  z63 := Tryz.sizeOf242
  v63 := Tryz.zeroValue242
  t64 := Tryz.underlying78
  a64 := Tryz.isAgg78
  z64 := Tryz.sizeOf78
  v64 := Tryz.zeroValue78 }
end Go.Proofs
namespace Go.Proofs.YthfffpdkmoclbaaGreatDoor.W
open Go.RowKit Go.Proofs.YthfffpdkmoclbaaGreatDoor.M Go.MapKept Go.ChangeMaps
set_option linter.unusedVariables false

/-- how an item reads as a map's element -/
def itemList (l : List Value) : Option (DataW Unit × List MemPlace) := match l with
  | [.int .i64 n, .string t] => some (.agg [.lit (.int .i64 n), .lit (.string t.data.toList)], [])
  | _ => none
def itemElem (v : Value) : Option (DataW Unit × List MemPlace) := match v with
  | .agg cs => itemList cs.toList
  | _ => none
theorem itemElem_mk (n : Int) (t : ByteArray) : itemElem (.agg #[.int .i64 n, .string t]) = some (.agg [.lit (.int .i64 n), .lit (.string t.data.toList)], []) := rfl
theorem itemElem_inv {v : Value} {z : DataW Unit × List MemPlace} (h : itemElem v = some z) : ∃ (n : Int) (t : ByteArray), v = .agg #[.int .i64 n, .string t] ∧ z = (.agg [.lit (.int .i64 n), .lit (.string t.data.toList)], []) := by
  unfold itemElem at h
  split at h
  · rename_i cs
    obtain ⟨l⟩ := cs
    unfold itemList at h
    split at h
    · rename_i n t e
      obtain rfl : l = [.int .i64 n, .string t] := e
      exact ⟨n, t, rfl, (Option.some.inj h).symm⟩
    · cases h
  · cases h
theorem paEq {p q : ByteArray} (h : p.data.toList = q.data.toList) : p = q := by
  cases p; cases q; exact congrArg _ (Array.toList_inj.1 h)
theorem run_makeMapP (n : Nat) (w : World) : (Instr.makeMap 75 (some (.int .i64 n))).run Tryz.prog w = .ok (.map (some w.heap.size)) (w.alloc (.map #[] 0)) := by
  have hu : Tryz.prog.underlying 75 = some (.map 3 35) := Tryz.underlying75
  simp [Instr.makeMap, run_underlying hu, asInt, asIntOf, Result.andThen, newObj, go_sem]
  rfl
theorem zeroPI (w : World) : (zeroValue 35).run Tryz.prog w = .ok (.agg #[.int .i64 0, .string ByteArray.empty]) w := by kernel_rfl
/-- a map of items tells these texts at ids -/
def mapP (D : DataW Unit) (f : Int → Option ByteArray) : Prop := ∀ n : Int, Maps.has D (.int .i64 n) = (f n).isSome ∧ ∀ t, f n = some t → ∀ z, D.atKey (.int .i64 n) z = .agg [.lit (.int .i64 n), .lit (.string t.data.toList)]
theorem keyP_ne {p q : Int} (h : ¬ p = q) : (Lit.int .i64 p) ≠ .int .i64 q := by
  intro e
  injection e with _ e
  exact h e
theorem mapP_put {D : DataW Unit} {f : Int → Option ByteArray} {p : Int} {b : ByteArray} (hk : WideAt.IsKeyLit (.int .i64 p)) (hD : Maps.IsMap D) (h : mapP D f) :
    mapP (D.put (.int .i64 p) (.agg [.lit (.int .i64 p), .lit (.string b.data.toList)])) fun q => if q = p then some b else f q := by
  intro q
  by_cases hq : q = p
  · subst hq
    simp only [if_pos]
    refine ⟨Maps.has_put_same hD hk _, fun t ht z => ?_⟩
    rw [← Option.some.inj ht]
    exact Maps.atKey_put_same hD hk _ z
  · simp only [if_neg hq]
    rw [Maps.has_put_other (keyP_ne hq)]
    refine ⟨(h q).1, fun t ht z => ?_⟩
    rw [Maps.atKey_put_other (keyP_ne hq)]
    exact (h q).2 t ht z
theorem findP_snoc (T : List PI) (x : PI) (n : Int) (hx : findP T x.id = none) : findP (T ++ [x]) n = if n = x.id then some x.tx else findP T n := by
  induction T with
  | nil => by_cases h : n = x.id <;> simp [findP, h, eq_comm]
  | cons y l ih =>
    have hn := (findP_none ..).1 hx
    have hl : findP l x.id = none := (findP_none ..).2 fun u hu => hn u (List.mem_cons_of_mem _ hu)
    have hne := hn y (List.mem_cons_self ..)
    simp only [List.cons_append, findP, ih hl]
    by_cases h : n = x.id
    · subst h; simp [hne]
    · simp [h]
theorem findP_take (L : List PI) (j : Nat) (h : j < L.length) (hr : RiseP L) : findP (L.take j) (L[j]).id = none := (findP_none ..).2 fun u hu e => by
  obtain ⟨i, hi, rfl⟩ := List.getElem_of_mem hu
  rw [List.getElem_take] at e
  have := List.pairwise_iff_getElem.1 hr i j (by simp at hi; omega) h (by simp at hi; omega)
  omega
theorem idWf (n : Int) (h0 : 0 ≤ n) (h1 : n ≤ 4294967295) : (Lit.int .i64 n).wf = true := by
  have h2 : -9223372036854775808 ≤ n := by omega
  have h3 : n ≤ 9223372036854775807 := by omega
  have e : IntKind.i64.min = -9223372036854775808 := rfl
  simp only [Lit.wf, decide_eq_true_eq, Bool.and_eq_true]
  simp
  omega

set_option maxRecDepth 100000 in
set_option maxHeartbeats 4000000 in
theorem poolOf_yes (A : Option Addr) (c : Nat) (L : List PI) (w : World) (hg : TypeCell w) (hL : RdP w.heap.size w A L) (hn : L.length ≤ 1048576) (ht : ∀ j (h : j < L.length), (L[j]).tx.size ≤ 1048576) (hk : okP L = true) :
    Calls Tryz.prog 51 #[.slice A L.length c] w fun e w' => ∃ (b : Nat) (D : DataW Unit), e = .returned (.tuple #[.map (some b), .bool true]) ∧ w'.ownsMap Tryz.prog 3 itemElem b L.length D ∧ mapP D (findP L) ∧ Maps.size D = L.length ∧ w.heap.size ≤ b ∧ Below w.heap.size w w' := by
  have hok := polOk_impl A c L w hg hL hn ht
  rw [hk] at hok
  have HL : Hid (RdP w.heap.size w A L) := hL
  obtain ⟨hr, h700, hid⟩ := okP_rise L hk
  have HR : Hid (RiseP L) := hr
  have HID : Hid (∀ j (h : j < L.length), (L[j]).id = (idOfN (L[j]).tx.data.toList : Int)) := hid
  clear hL ht hk hr hid
  have law := Maps.int_keyed (P := Tryz.prog) Tryz.underlying3
  have hmm := fun w => run_makeMapP L.length w
  go_enter Tryz.func51, Tryz.ntmps51
  go_wp2_with (go_at_call 18; refine hok.mono ?_; rintro e w1 ⟨rfl, hb1⟩; clear hok; have hs1 := hb1.size)
  go_loopw [15] (fun iv wr => ∃ (j : Nat) (D : DataW Unit), j ≤ L.length ∧ iv = .int .i64 j ∧ Hid (mapP D (findP (L.take j)) ∧ Maps.size D = j) ∧ wr.ownsMap Tryz.prog 3 itemElem w1.heap.size j D ∧ Below w.heap.size w wr) (fun i _ => L.length - (RowKit.intOf i).toNat)
  case atStart => exact ⟨0, .map [], Nat.zero_le _, rfl, (show mapP (.map []) (findP (L.take 0)) ∧ Maps.size (.map []) = 0 from ⟨fun p => ⟨rfl, fun t ht => by simp [findP] at ht⟩, rfl⟩), World.ownsMap_made w1 Tryz.prog 3 itemElem, hb1.alloc hs1 _⟩
  case round =>
    obtain ⟨j, D, hj, rfl, HM, hown, hb⟩ := hrel
    have hsz := hb.size
    by_cases hlt : j < L.length
    · obtain ⟨b, o, rfl, hbl, c1, c2⟩ := (HL.out.below hb (Nat.le_refl _)) j hlt
      have hidj := HID.out j hlt
      have hnone := findP_take L j hlt HR.out
      have hidb := idOfN_bd (L[j]).tx.data.toList
      have HN : Hid (∀ q, findP (L.take (j + 1)) q = if q = (L[j]).id then some (L[j]).tx else findP (L.take j) q) := (show ∀ q, _ from fun q => by rw [List.take_succ_eq_append_getElem hlt, findP_snoc _ _ _ hnone])
      obtain ⟨x, hx⟩ : ∃ x, L[j] = x := ⟨_, rfl⟩
      rw [hx] at HN c1 c2 hidj hnone hidb
      obtain ⟨q, t⟩ := x
      simp only at c1 c2 hidj hnone hidb
      clear hx
      have hwf : (Lit.int .i64 q).wf = true := idWf q (by omega) (by omega)
      have hkey : keyOf Tryz.prog 3 (.int .i64 q) = some (.int .i64 q) := Maps.keyOf_int_mk Tryz.underlying3 hwf
      have HD : Hid (Maps.IsMap D) := hown.isMap
      have htidy := hown.tidy law
      have hhas := (HM.out.1 q).1
      rw [hnone] at hhas
      have hsp := Maps.size_put (k := .int .i64 q) htidy (.agg [.lit (.int .i64 q), .lit (.string t.data.toList)])
      rw [hhas, HM.out.2] at hsp
      have HE : Hid (mapP (D.put (.int .i64 q) (.agg [.lit (.int .i64 q), .lit (.string t.data.toList)])) (findP (L.take (j + 1))) ∧ Maps.size (D.put (.int .i64 q) (.agg [.lit (.int .i64 q), .lit (.string t.data.toList)])) = j + 1) := (show _ ∧ _ from ⟨by
        have e : findP (L.take (j + 1)) = fun m => if m = q then some t else findP (L.take j) m := funext HN.out
        rw [e]
        exact mapP_put (law.key hkey) HD.out HM.out.1, by simpa using hsp⟩)
      clear HM HN hsp hhas htidy hidj hnone hwf hidb
      go_wp2_with (at_mapUpdate; refine wpList_mapUpdate_own _ rfl _ _ _ 75 rfl 3 35 law Tryz.underlying75 itemElem w1.heap.size j D rfl (hown.alloc _) (by unfold maxLen; omega) _ _ _ rfl rfl hkey _ [] (itemElem_mk q t) ?_; intro w3 o3 g3)
      go_roundw
      case rel => exact ⟨j + 1, _, by omega, by go_num, HE, o3, (hb.alloc hsz _).grown g3 (by simp; omega) (fun k e => by cases e; exact hs1)⟩
      case measure => simp [RowKit.intOf]; omega
    · go_wp2
      go_ret2
      obtain rfl : j = L.length := by omega
      have e := HM.out
      rw [List.take_length] at e
      exact ⟨w1.heap.size, D, rfl, hown, e.1, e.2, hs1, hb⟩
set_option maxRecDepth 100000 in
set_option maxHeartbeats 1000000 in
theorem poolOf_no (A : Option Addr) (c : Nat) (L : List PI) (w : World) (hg : TypeCell w) (hL : RdP w.heap.size w A L) (hn : L.length ≤ 1048576) (ht : ∀ j (h : j < L.length), (L[j]).tx.size ≤ 1048576) (hk : okP L = false) :
    Calls Tryz.prog 51 #[.slice A L.length c] w fun e w' => e = .returned (.tuple #[.map none, .bool false]) ∧ Below w.heap.size w w' := by
  have hok := polOk_impl A c L w hg hL hn ht
  rw [hk] at hok
  clear hL ht hk
  go_enter Tryz.func51, Tryz.ntmps51
  go_wp2_with (go_at_call 18; refine hok.mono ?_; rintro e w1 ⟨rfl, hb1⟩; clear hok)
  go_ret2
  exact ⟨rfl, hb1⟩
end Go.Proofs.YthfffpdkmoclbaaGreatDoor.W
namespace Go.Proofs.YthfffpdkmoclbaaGreatDoor.W
open Go.RowKit Go.Shelf Go.Proofs.YthfffpdkmoclbaaGreatDoor.M Go.Maps Go.Sort Go.MapKept Go.ChangeMaps
attribute [local go_sem] Oper.semAt_some
set_option linter.unusedVariables false

/-- what a loop body must leave as it is: maps, and blocks of whatever else than files and rows of files -/
def keptO : Obj → Bool
  | .cells _ t _ => decide (t ≠ 35) && decide (t ≠ 23)
  | o => o.isWalk
structure KpF (W W' : World) : Prop where
  size : W.heap.size ≤ W'.heap.size
  same : ∀ (k : Nat) (o : Obj), W.heap[k]? = some o → keptO o = true → W'.heap[k]? = some o
theorem kpF_t {A B C : World} (h : KpF A B) (k : KpF B C) : KpF A C := ⟨Nat.le_trans h.size k.size, fun i o hi ho => k.same i o (h.same i o hi ho) ho⟩
theorem kpF_b (W : World) (l : Nat) (o o' : Obj) (hl : W.heap[l]? = some o) (h1 : o.isCells = false) (h2 : o.isWalk = false) : KpF W (W.putObj l o') := by
  refine ⟨by simp [World.putObj], fun k o2 hk ho => ?_⟩
  by_cases hkl : k = l
  · subst hkl
    obtain rfl : o2 = o := by rw [hk] at hl; exact Option.some.inj hl
    cases o2 <;> simp_all [keptO, Obj.isCells, Obj.isWalk]
  · exact (World.putObj_heap_other (by omega)).trans hk
theorem KpF.map {W W' : World} (h : KpF W W') {P : Program} {k : TypeId} {R : Value → Option (DataW Unit × List MemPlace)} {b n : Nat} {D : DataW Unit} (ho : W.ownsMap P k R b n D) : W'.ownsMap P k R b n D := by
  obtain ⟨es, clock, hb, Ft, hs, hD⟩ := ho
  exact ⟨es, clock, h.same b _ hb rfl, Ft, hs, hD⟩
theorem KpF.row {W W' : World} (h : KpF W W') {base n : Nat} {v : Value} {xs : List Value} (ho : W.ownsRow base 3 1 v n xs) : W'.ownsRow base 3 1 v n xs := by
  refine ⟨ho.1, ?_⟩
  rcases ho.2 with h1 | ⟨g, cap, cur, h1, h2, h3, h4⟩
  · exact .inl h1
  · exact .inr ⟨g, cap, cur, h1, h2, h.same g _ h3 (by simp [keptO]), h4⟩

/-- a map's keys: each once, and just those that it has -/
theorem keys_iff {P : Program} {k : TypeId} {R : Value → Option (DataW Unit × List MemPlace)} {w : World} {b n : Nat} {D : DataW Unit} (hown : w.ownsMap P k R b n D) (K : Keyed P k) (hk : P.underlying k = some (.int .i64)) : (intKeys D).Nodup ∧ ∀ x, x ∈ intKeys D ↔ Maps.has D (.int .i64 x) = true := by
  obtain ⟨es, hD, hpw, _⟩ := hown.entries K
  obtain ⟨es', hD', hko⟩ := hown.keysOf
  obtain rfl : es = es' := by rw [hD] at hD'; simpa using hD'
  subst hD
  have hs : ∀ p ∈ es, ∃ x, p.1 = .int .i64 x := fun p hp => by obtain ⟨v, hv⟩ := hko p hp; obtain ⟨x, _, hx, _⟩ := Maps.keyOf_i64 hk hv; exact ⟨x, hx⟩
  constructor
  · show (es.map fun p => Go.intOf p.1).Nodup
    refine List.pairwise_map.2 (hpw.imp_of_mem fun {p q} hp' hq' hne e => hne ?_)
    obtain ⟨a, ha⟩ := hs p hp'
    obtain ⟨b, hb⟩ := hs q hq'
    rw [ha, hb] at e ⊢
    exact congrArg _ e
  · intro x
    rw [Maps.has_eq, List.any_eq_true]
    show x ∈ es.map (fun p => Go.intOf p.1) ↔ _
    rw [List.mem_map]
    constructor
    · rintro ⟨p, hp, e⟩
      obtain ⟨a, ha⟩ := hs p hp
      refine ⟨p, hp, ?_⟩
      rw [ha] at e ⊢
      obtain rfl : a = x := e
      simp [Lit.sameKey]
    · rintro ⟨p, hp, e⟩
      obtain ⟨a, ha⟩ := hs p hp
      refine ⟨p, hp, ?_⟩
      rw [ha] at e ⊢
      simpa [Lit.sameKey, Go.intOf] using e

/-- the items that a map tells, in the order of their ids -/
def itemsOf (f : Int → Option ByteArray) (ks : List Int) : List PI := ks.map fun k => ⟨k, (f k).getD ByteArray.empty⟩
theorem findP_itemsOf (f : Int → Option ByteArray) (ks : List Int) (q : Int) : findP (itemsOf f ks) q = if q ∈ ks then some ((f q).getD ByteArray.empty) else none := by
  induction ks with
  | nil => simp [itemsOf, findP]
  | cons k l ih =>
    show (if k = q then _ else findP (itemsOf f l) q) = _
    by_cases h : k = q
    · subst h; simp
    · rw [if_neg h, ih]
      have h2 : ¬ q = k := fun e => h e.symm
      simp [h2]
theorem itemsOf_ok {D : DataW Unit} {f : Int → Option ByteArray} {ks ss : List Int} (hnd : (intKeys D).Nodup) (hm : ∀ x, x ∈ intKeys D ↔ Maps.has D (.int .i64 x) = true) (hf : mapP D f) (hp : ss.Perm (intKeys D)) (hk : ks = ss.mergeSort fun x y => decide (x ≤ y)) :
    RiseP (itemsOf f ks) ∧ (∀ q, findP (itemsOf f ks) q = f q) ∧ (∀ k ∈ ks, (f k).isSome = true) ∧ ks.length = (intKeys D).length := by
  have hkp : ks.Perm (intKeys D) := by rw [hk]; exact (List.mergeSort_perm _ _).trans hp
  have hmem : ∀ x, x ∈ ks ↔ (f x).isSome = true := fun x => by
    rw [hkp.mem_iff, hm x, ← (hf x).1]
  have hpw : ks.Pairwise fun x y => x < y := by
    have h1 : ks.Pairwise fun x y => x ≤ y := by
      rw [hk]
      have := List.pairwise_mergeSort (le := fun x y : Int => decide (x ≤ y)) (fun a b c h1 h2 => by simp only [decide_eq_true_eq] at *; exact Int.le_trans h1 h2) (fun a b => by simp only [Bool.or_eq_true, decide_eq_true_eq]; exact Int.le_total a b) ss
      exact this.imp fun h => by simpa using h
    have h2 : ks.Nodup := hkp.nodup_iff.2 hnd
    refine (h1.and h2).imp fun {a b} h => ?_
    have h3 := h.1
    have h4 := h.2
    omega
  refine ⟨?_, fun q => ?_, fun k hk' => (hmem k).1 hk', hkp.length_eq⟩
  · unfold RiseP itemsOf
    rw [List.pairwise_map]
    exact hpw.imp fun h => h
  · rw [findP_itemsOf]
    have := hmem q
    by_cases h : q ∈ ks
    · rw [if_pos h]
      cases e : f q with
      | none => rw [e] at this; simp [h] at this
      | some t => rfl
    · rw [if_neg h]
      cases e : f q with
      | none => rfl
      | some t => rw [e] at this; simp [h] at this

/-- how a file is handed to a loop body: its path, and itself -/
def encsF (x : PI) : Array Value := #[.int .i64 x.id, .agg #[.int .i64 x.id, .string x.tx]]

theorem sortsT (m : Nat) : AnyZI.SortsIn Tryz.prog Tryz.sortedT_ren Fence.wide m :=
  ⟨fun blk off cap ss W hH hblk hsz => callsIn_wide.2 (AnyM.slices_Sort_int Tryz.sortT blk off cap ss W hH hblk hsz),
   fun p cap W => callsIn_wide.2 (AnyM.slices_Sort_int_none Tryz.sortT p cap W)⟩
theorem keysCall (mb : Option Nat) (W : World) : CallsIn Fence.wide 5 Tryz.prog 115 #[.map mb] W fun e w' => e = .returned (.func (.func 138) #[] #[.pointer (some ⟨W.heap.size, 0, none⟩)]) ∧ w' = W.alloc (.cells #[.map mb] 74) :=
  AnyZI.keys_in Tryz.keysT Fence.wide 5 trivial rfl mb W
set_option maxHeartbeats 1000000 in
theorem sortedCall (b nn : Nat) (D0 : DataW Unit) (w : World) (hown : w.ownsMap Tryz.prog 3 itemElem b nn D0) (hmax : Maps.size D0 ≤ maxLen) (hbytes : Maps.size D0 * 8 ≤ 140737488355328) :
    CallsIn Fence.wide 5 Tryz.prog 114 #[.func (.func 138) #[] #[.pointer (some ⟨w.heap.size, 0, none⟩)]] (w.alloc (.cells #[.map (some b)] 74)) fun e w' => ∃ (v : Value) (ss : List Int), e = .returned v ∧ ss.Perm (intKeys D0) ∧
      w'.ownsRow (w.alloc (.cells #[.map (some b)] 74)).heap.size 3 1 v ss.length ((ss.mergeSort (fun x y => decide (x ≤ y))).map encZ) ∧ (v = .slice none 0 0 ↔ ss = []) ∧ Below (w.alloc (.cells #[.map (some b)] 74)).heap.size (w.alloc (.cells #[.map (some b)] 74)) w' := by
  have hbl := hown.lt
  have hseq : SeqGives Fence.wide 2 Tryz.prog 138 #[.pointer (some ⟨w.heap.size, 0, none⟩)] encZ (fun ss => ss.Perm (intKeys D0)) (Maps.size D0) (w.alloc (.cells #[.map (some b)] 74)) :=
    AnyZI.keys_gives (ρ := Tryz.keysT_ren) { Tryz.keysT with } Fence.wide _ trivial rfl (by omega) w.heap.size b nn D0 _ (by simp) (by simp) (by
      obtain ⟨es, clock, hb, Ft, hs, hD⟩ := hown
      exact ⟨es, clock, (Below.heap_alloc _ _ b hbl).trans hb, Ft, hs, hD⟩)
  exact AnyZI.sorted_in Tryz.sortedT Fence.wide 5 trivial trivial trivial trivial rfl (by omega) (sortsT _) (enters_of Tryz.func137 (by kernel_rfl) rfl) 138 #[.pointer (some ⟨w.heap.size, 0, none⟩)] trivial (enters_of Tryz.func138 (by kernel_rfl) rfl) _ _ hmax hbytes _ hseq

theorem row_form {w : World} {base n : Nat} {v : Value} {xs : List Value} (h : w.ownsRow base 3 1 v n xs) : ∃ A c, v = .slice A n c ∧ ∀ j (hj : j < xs.length), ∃ g, A = some ⟨g, 0, none⟩ ∧ g < w.heap.size ∧ w.cell? ⟨g, j, none⟩ = some xs[j] := by
  rcases h.2 with ⟨h1, h2⟩ | ⟨g, cap, cur, h1, h2, h3, h4⟩
  · subst h1; subst h2
    exact ⟨none, 0, rfl, fun j hj => by have := h.1; omega⟩
  · subst h1
    refine ⟨some ⟨g, 0, none⟩, cap, rfl, fun j hj => ⟨g, rfl, (Array.getElem?_eq_some_iff.1 h3).1, ?_⟩⟩
    have := h.cellAt j (by rw [← h.1]; exact hj)
    rw [this]; simp
theorem KpF.refl (W : World) : KpF W W := ⟨Nat.le_refl _, fun _ _ h _ => h⟩

set_option maxHeartbeats 2000000 in
set_option maxRecDepth 100000 in
theorem order_stops (B b nn : Nat) (D : DataW Unit) (f : Int → Option ByteArray) (w : World) (hB : B < w.heap.size) (hc : w.heap[B]? = some (.cells #[.map (some b)] 74 (0, 0))) (hown : w.ownsMap Tryz.prog 3 itemElem b nn D) (hf : mapP D f) (hn : nn ≤ 1048576) :
    SeqStopsK Fence.wide 6 Tryz.prog 113 #[.pointer (some ⟨B, 0, none⟩)] encsF KpF (fun xs => RiseP xs ∧ (∀ q, findP xs q = f q)) (fun _ => True) nn w := fun l J Jx W hW hJ hJx hY h0 => by
  have hcW : W.heap[B]? = some (.cells #[.map (some b)] 74 (0, 0)) := (hW.block B hB).trans hc
  have hownW : W.ownsMap Tryz.prog 3 itemElem b nn D := by
    have hbl := hown.lt
    obtain ⟨es, clock, hb, Ft, hs, hD⟩ := hown
    exact ⟨es, clock, (hW.block b hbl).trans hb, Ft, hs, hD⟩
  have law := Maps.int_keyed (P := Tryz.prog) Tryz.underlying3
  obtain ⟨hnd, hmem⟩ := keys_iff hownW law Tryz.underlying3
  have hsize := hownW.size_le
  have hm0 : Maps.size D ≤ maxLen := by unfold maxLen; omega
  have hcell : W.cell? ⟨B, 0, none⟩ = some (.map (some b)) := by simp [World.cell?, hcW]
  have cK := keysCall (some b) W
  have cS := sortedCall b nn D W hownW hm0 (by omega)
  have h1 : 1 ≤ 6 := by omega
  have hfK : Fence.wide.fn 115 := trivial
  have hfS : Fence.wide.fn 114 := trivial
  have HOW : Hid (W.ownsMap Tryz.prog 3 itemElem b nn D) := hownW
  have HCW : Hid (W.heap[B]? = some (.cells #[.map (some b)] 74 (0, 0))) := hcW
  refine callsIn_of_wp Tryz.func113 rfl trivial ?_ rfl
  simp only [Tryz.ntmps113, List.size_toArray, List.length_cons, List.length_nil, Nat.reduceAdd, Nat.reduceSub, Array.replicate_succ, Array.replicate_zero, List.push_toArray, List.append_toArray, List.nil_append, List.cons_append]
  gi_wp2_with (first
    | (gi_at_call 115; refine cK.mono ?_; rintro e w' ⟨rfl, rfl⟩; clear cK)
    | (gi_at_call 114; refine cS.mono ?_; rintro e w2 ⟨v, ss, rfl, hS, hrow, hnil, hb⟩; obtain ⟨A, cA, rfl, hA⟩ := row_form hrow; have HS : Hid (ss.Perm (intKeys D)) := hS; have HROW : Hid (w2.ownsRow (W.alloc (.cells #[.map (some b)] 74)).heap.size 3 1 (.slice A ss.length cA) ss.length ((ss.mergeSort (fun x y => decide (x ≤ y))).map encZ)) := hrow; have HBL : Hid (Below W.heap.size W w2) := (show Below W.heap.size W w2 from ((Below.refl _ _).alloc (Nat.le_refl _) _).trans (hb.mono (by simp))); clear cS hA hb hrow hS hnil))
  obtain ⟨ks, hks⟩ : ∃ ks, ks = ss.mergeSort fun x y => decide (x ≤ y) := ⟨_, rfl⟩
  obtain ⟨hrise, hfind, hsome, hlen⟩ := itemsOf_ok hnd hmem hf HS.out hks
  have hls : ss.length = ks.length := by rw [hks, List.length_mergeSort]
  have HKS : Hid (w2.ownsRow (W.alloc (.cells #[.map (some b)] 74)).heap.size 3 1 (.slice A ss.length cA) ss.length (ks.map encZ)) := (show World.ownsRow _ _ _ _ _ _ _ from by rw [hks]; exact HROW.out)
  have hkn : ks.length ≤ nn := by
    have : (intKeys D).length = Maps.size D := by
      obtain ⟨es, hD, _⟩ := hownW.entries law
      rw [hD]; show (es.map _).length = _; rw [List.length_map, Maps.size_eq]
    omega
  have hJ2 : J [] w2 := hJ [] W w2 none h0 ⟨HBL.out.os, HBL.out.tape, HBL.out.output, HBL.out.size, fun k hk _ => HBL.out.block k hk⟩ (fun r e => by cases e)
  have HM2 : Hid (w2.ownsMap Tryz.prog 3 itemElem b nn D) := (show World.ownsMap _ _ _ _ _ _ _ from by
    obtain ⟨es, clock, hb, Ft, hs, hD⟩ := HOW.out
    exact ⟨es, clock, (HBL.out.block b HOW.out.lt).trans hb, Ft, hs, hD⟩)
  have HC2 : Hid (w2.heap[B]? = some (.cells #[.map (some b)] 74 (0, 0))) := (HBL.out.block B (by have := hW.size; omega)).trans HCW.out
  have hkl : ∀ k ∈ ks, (Lit.int .i64 k).wf = true := fun k hk => by
    have h9 : k ∈ ss := by rw [hks] at hk; exact (List.mergeSort_perm _ _).mem_iff.1 hk
    exact intKeys_wf HOW.out Tryz.underlying3 k (HS.out.mem_iff.1 h9)
  rw [hls] at HKS ⊢
  have hk64 : ks.length ≤ 1048576 := by omega
  have HKN : Hid (ks.length ≤ nn) := hkn
  clear hks HROW HS hls hcell hownW hcW h0 hlen hsize hm0 hnd hmem hkn
  gi_wp2
  gi_loopw [9] (fun iv wr => ∃ j : Nat, j ≤ ks.length ∧ iv = .int .i64 j ∧ J ((itemsOf f ks).take j) wr ∧ KpF w2 wr) (fun i _ => ks.length - (RowKit.intOf i).toNat)
  case atStart => exact ⟨0, Nat.zero_le _, rfl, hJ2, KpF.refl _⟩
  case round =>
    obtain ⟨j, hj, rfl, hJr, hkp⟩ := hrel
    by_cases hlt : j < ks.length
    · have hrowr := hkp.row HKS.out
      obtain ⟨A', c', e', hA⟩ := row_form hrowr
      cases e'
      obtain ⟨g, rfl, hgl, hgc⟩ := hA j (by simpa using hlt)
      have hownr := hkp.map HM2.out
      have hBr : wr.cell? ⟨B, 0, none⟩ = some (.map (some b)) := by
        have := hkp.same B _ HC2.out (by simp [keptO])
        simp [World.cell?, this]
      have hin : ks[j] ∈ ks := List.getElem_mem hlt
      have hso := hsome _ hin
      have hkeyl := hkl _ hin
      have HTK : Hid ((itemsOf f ks).take (j + 1) = (itemsOf f ks).take j ++ [⟨ks[j], (f ks[j]).getD ByteArray.empty⟩]) := (show _ = _ by rw [List.take_succ_eq_append_getElem (by simpa [itemsOf] using hlt)]; simp [itemsOf])
      simp only [List.getElem_map, encZ] at hgc
      obtain ⟨k, hk⟩ : ∃ k, ks[j] = k := ⟨_, rfl⟩
      rw [hk] at hgc hso hkeyl HTK
      obtain ⟨t, ht⟩ := Option.isSome_iff_exists.1 hso
      rw [ht] at HTK
      have hat := (hf k).2 t ht
      have hkey : keyOf Tryz.prog 3 (.int .i64 k) = some (.int .i64 k) := Maps.keyOf_int_mk Tryz.underlying3 hkeyl
      obtain ⟨v9, ps9, hrun, hv9⟩ := hownr.lookup law Tryz.underlying74 (zeroPI wr) (zd := .agg [.lit (.int .i64 0), .lit (.string [])]) (itemElem_mk 0 ByteArray.empty) hkey
      obtain ⟨s9, t9, rfl, hz9⟩ := itemElem_inv hv9
      rw [hat] at hz9
      have e1 : s9 = k := by
        have h9 := congrArg Prod.fst hz9
        simp only [DataW.agg.injEq, List.cons.injEq, DataW.lit.injEq, Lit.string.injEq, Lit.int.injEq] at h9
        exact h9.1.2.symm
      have e2 : t9 = t := by
        have h9 := congrArg Prod.fst hz9
        simp only [DataW.agg.injEq, List.cons.injEq, DataW.lit.injEq, Lit.string.injEq, Lit.int.injEq] at h9
        exact (paEq h9.2.1).symm
      subst e1; subst e2
      have hlenp : ((itemsOf f ks).take j).length < nn := by have := HKN.out; simp [itemsOf]; omega
      obtain ⟨fn, tmps, assign, body, hy, hR⟩ := hY _ ⟨s9, t9⟩ wr hJr hlenp
      dsimp only [encsF] at hy
      clear hv9 hat hz9 hso hin hA hkey hlenp hgl ht
      gi_wp2
      refine hR.mono ?_
      rintro e W3 (⟨rfl, hJ3, hk3⟩ | ⟨rfl, hJx3⟩)
      · gi_wp2
        go_roundw
        case rel => exact ⟨j + 1, by omega, by go_num, by rw [HTK.out]; exact hJ3, kpF_t hkp hk3⟩
        case measure => simp [RowKit.intOf]; omega
      · gi_wp2
        refine bodyPost_ret (results_none rfl _ _ _) rfl ?_
        exact ⟨⟨_, rfl⟩, .inr ⟨_, trivial, hJx3⟩⟩
    · gi_wp2
      go_end0
      obtain rfl : j = ks.length := by omega
      have e9 : (itemsOf f ks).take ks.length = itemsOf f ks := List.take_of_length_le (by simp [itemsOf])
      rw [e9] at hJr
      exact ⟨⟨_, rfl⟩, .inl ⟨itemsOf f ks, ⟨hrise, hfind⟩, hJr⟩⟩

set_option maxHeartbeats 400000 in
theorem inOrder_any (b : Nat) (w : World) :
    Calls Tryz.prog 84 #[.map (some b)] w fun e w' => e = .returned (.func (.func 113) #[] #[.pointer (some ⟨w.heap.size, 0, none⟩)]) ∧ w.alloc (.cells #[.map (some b)] 74) = w' := by
  go_enter Tryz.func84, Tryz.ntmps84
  go_wp2
  go_ret
  exact ⟨rfl, rfl⟩
end Go.Proofs.YthfffpdkmoclbaaGreatDoor.W
