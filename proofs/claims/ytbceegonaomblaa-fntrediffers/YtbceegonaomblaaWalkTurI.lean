/-
  A map of files as a function of paths; what laying down and taking out make of it.
  A map of files, told in the order of its paths: the iterator that the program makes (for every loop body that leaves maps and rows of texts as they are), and the row that it gathers. Maps of at most 1048576 entries.
  impl.fileMap.files: the files that a map has, in the order of their paths, in new memory. Maps of at most 1048576 entries.
  The walks of impl.editing (a map of two ways to edit) and of impl.TreTurn. Files and edits that a call has made, of at most 1048576 bytes.
-/
import Derived.Test.YtbceegonaomblaaWalkDifF
import Derived.Test.YtbceegonaomblaaMathTTur
import Derived.RangeFuncNested
import Derived.RangeFuncBound
import Derived.RangeFuncCalls
import Derived.RangeFuncLeaves
import Derived.RangeFuncBox
import Derived.Shelf.Abstract
import Derived.Shelf.RegionOpen
import Derived.WalkKit
import Derived.OwnWalkIn
import Derived.TacticsInMore
import Derived.LoopNIn
import Derived.LoopIn
import Derived.Maps.AppendAt
import Derived.Maps.OwnIn
import Derived.Test.YtbceegonaomblaaIter
import Derived.Test.YtbceegonaomblaaWalkTurV
import Derived.Test.YtbceegonaomblaaWalkTreP
namespace Go.Proofs.Ytbceegonaomblaa.W
open Go.RowKit Go.Proofs.Ytbceegonaomblaa.M Go.MapKept Go.ChangeMaps
set_option linter.unusedVariables false

/-- a map of files tells these bytes at paths -/
def mapF (D : DataW Unit) (f : ByteArray → Option ByteArray) : Prop := ∀ p : ByteArray, Maps.has D (.string p.data.toList) = (f p).isSome ∧ ∀ t, f p = some t → ∀ z, D.atKey (.string p.data.toList) z = .agg [.lit (.string p.data.toList), .lit (.string t.data.toList)]
theorem mapF_of {D : DataW Unit} {T : List TF} (h : mapInv D T) : mapF D (findF T) := h
theorem mapF_put {D : DataW Unit} {f : ByteArray → Option ByteArray} {p b : ByteArray} (hk : WideAt.IsKeyLit (.string p.data.toList)) (hD : Maps.IsMap D) (h : mapF D f) :
    mapF (D.put (.string p.data.toList) (.agg [.lit (.string p.data.toList), .lit (.string b.data.toList)])) fun q => if q = p then some b else f q := by
  intro q
  by_cases hq : q = p
  · subst hq
    simp only [if_pos]
    refine ⟨Maps.has_put_same hD hk _, fun t ht z => ?_⟩
    rw [← Option.some.inj ht]
    exact Maps.atKey_put_same hD hk _ z
  · simp only [if_neg hq]
    rw [Maps.has_put_other (key_ne hq)]
    refine ⟨(h q).1, fun t ht z => ?_⟩
    rw [Maps.atKey_put_other (key_ne hq)]
    exact (h q).2 t ht z
theorem mapF_del {D : DataW Unit} {f : ByteArray → Option ByteArray} {p : ByteArray} (h : mapF D f) : mapF (D.del (.string p.data.toList)) fun q => if q = p then none else f q := by
  intro q
  by_cases hq : q = p
  · subst hq
    simp only [if_pos]
    exact ⟨Maps.has_del_same, fun t ht => by cases ht⟩
  · simp only [if_neg hq]
    rw [Maps.has_del_other (key_ne hq)]
    refine ⟨(h q).1, fun t ht z => ?_⟩
    rw [Maps.atKey_del_other (key_ne hq)]
    exact (h q).2 t ht z
theorem grT {w w' w'' : World} {r : Option Nat} (h : w.grownBy w' r) (k : w'.grownBy w'' r) : w.grownBy w'' r :=
  ⟨k.os.trans h.os, k.tape.trans h.tape, k.output.trans h.output, Nat.le_trans h.size k.size, fun i hi hn => (k.block i (Nat.lt_of_lt_of_le hi h.size) hn).trans (h.block i hi hn)⟩
set_option maxHeartbeats 1000000 in
set_option maxRecDepth 100000 in
theorem layDown_any (b n : Nat) (D : DataW Unit) (f : ByteArray → Option ByteArray) (p t : ByteArray) (g : Bool) (w : World) (hown : w.ownsMap Try.prog 9 fileElem b n D) (hn : n ≤ 2097152) (hp : p.size ≤ 1048576) (hM : mapF D f) (hbl : b < w.heap.size) :
    Calls Try.prog 58 #[.map (some b), .agg #[.string p, .string t, .bool g]] w fun e w' => e = .returned (.bool true) ∧ (∃ D', w'.ownsMap Try.prog 9 fileElem b (n + 1) D' ∧ mapF D' fun q => if q = p then some t else f q) ∧ w.grownBy w' (some b) := by
  have law := Maps.string_keyed (P := Try.prog) Try.underlying9
  have hkey : keyOf Try.prog 9 (.string p) = some (.string p.data.toList) := Go.WideMaps.keyOf_string_mk Try.underlying9 (by unfold maxLen; omega)
  have HE : Hid (mapF (D.put (.string p.data.toList) (.agg [.lit (.string p.data.toList), .lit (.string t.data.toList)])) fun q => if q = p then some t else f q) := mapF_put (law.key hkey) hown.isMap hM
  clear hM
  go_enter Try.func58, Try.ntmps58
  go_wp2_with (at_mapUpdate; refine wpList_mapUpdate_own _ rfl _ _ _ 61 rfl 9 51 law Try.underlying61 fileElem b n D rfl (hown.alloc _) (by unfold maxLen; omega) _ _ _ rfl rfl hkey _ [] (fileElem_mk p t) ?_; intro w1 o1 g1)
  go_ret
  exact ⟨rfl, ⟨_, o1, HE.out⟩, grT (World.grownBy_alloc _ _ _) g1⟩

set_option maxHeartbeats 1000000 in
set_option maxRecDepth 100000 in
theorem takeOut_any (b n : Nat) (D : DataW Unit) (f : ByteArray → Option ByteArray) (p t : ByteArray) (g : Bool) (w : World) (hown : w.ownsMap Try.prog 9 fileElem b n D) (hp : p.size ≤ 1048576) (hM : mapF D f) (hbl : b < w.heap.size) :
    Calls Try.prog 57 #[.map (some b), .agg #[.string p, .string t, .bool g]] w fun e w' => e = .returned (.bool ((f p).isSome && t.toList.isEmpty)) ∧ (∃ D', w'.ownsMap Try.prog 9 fileElem b n D' ∧ mapF D' fun q => if q = p then none else f q) ∧ w.grownBy w' (some b) := by
  have law := Maps.string_keyed (P := Try.prog) Try.underlying9
  have hkey : keyOf Try.prog 9 (.string p) = some (.string p.data.toList) := Go.WideMaps.keyOf_string_mk Try.underlying9 (by unfold maxLen; omega)
  have hhas := (hM p).1
  have HE : Hid (mapF (D.del (.string p.data.toList)) fun q => if q = p then none else f q) := mapF_del hM
  clear hM
  go_enter Try.func57, Try.ntmps57
  go_wp2_with (first
    | (at_lookup; refine wpList_lookup_own_ok _ rfl _ _ 61 rfl 9 51 law Try.underlying61 fileElem (zeroF _) (.agg [.lit (.string []), .lit (.string [])]) [] (fileElem_mk ByteArray.empty ByteArray.empty) b n D rfl (hown.alloc _) _ _ rfl hkey ?_; intro v ps hv; obtain ⟨s9, t9, rfl, _⟩ := fileElem_inv hv; rw [hhas])
    | (at_delete; refine wpList_delete_own _ rfl _ _ 61 9 rfl 51 law Try.underlying61 fileElem b n D rfl ((hown.alloc _).alloc _) _ _ rfl hkey ?_; intro w1 o1 ht1; have g1 := ht1.grown; have hsz1 := g1.size; have c1 : w1.cell? ⟨w.heap.size, 1, none⟩ = some (.string t) := g1.cell (a := ⟨w.heap.size, 1, none⟩) (by first | (simp [go_sem]; done) | (simp [World.cell?]; done) | (simp [World.cell?, go_sem]; done) | (simp [World.cell?, World.alloc_eq]; done)) (by intro e; cases e; exact Nat.lt_irrefl _ hbl)))
  all_goals
    go_ret
    exact ⟨by simp_all, ⟨_, o1, HE.out⟩, grT (grT (World.grownBy_alloc _ _ _) (World.grownBy_alloc _ _ _)) g1⟩
end Go.Proofs.Ytbceegonaomblaa.W
namespace Go.Proofs.Ytbceegonaomblaa.W
open Go.RowKit Go.Shelf Go.Proofs.Ytbceegonaomblaa.M Go.Maps Go.Sort Go.MapKept Go.ChangeMaps
attribute [local go_sem] Oper.semAt_some
set_option linter.unusedVariables false

/-- what a loop body must leave as it is: maps, and blocks of whatever else than files and rows of files -/
def keptO : Obj → Bool
  | .cells _ t _ => decide (t ≠ 51) && decide (t ≠ 23)
  | o => o.isWalk
structure KpF (W W' : World) : Prop where
  size : W.heap.size ≤ W'.heap.size
  same : ∀ (k : Nat) (o : Obj), W.heap[k]? = some o → keptO o = true → W'.heap[k]? = some o
theorem kpF_t {A B C : World} (h : KpF A B) (k : KpF B C) : KpF A C := ⟨Nat.le_trans h.size k.size, fun i o hi ho => k.same i o (h.same i o hi ho) ho⟩
theorem kpF_b (W : World) (l : Nat) (o o' : Obj) (hl : W.heap[l]? = some o) (h1 : o.isCells = false) (h2 : o.isWalk = false) : KpF W (W.putObj l o') := by
  refine ⟨by simp [World.putObj], fun k o2 hk ho => ?_⟩
  by_cases hkl : k = l
  · subst hkl
    obtain rfl : o2 = o := by rw [hk] at hl; exact Option.some.inj hl
    cases o2 <;> simp_all [keptO, Obj.isCells, Obj.isWalk]
  · exact (World.putObj_heap_other (by omega)).trans hk
theorem KpF.map {W W' : World} (h : KpF W W') {P : Program} {k : TypeId} {R : Value → Option (DataW Unit × List MemPlace)} {b n : Nat} {D : DataW Unit} (ho : W.ownsMap P k R b n D) : W'.ownsMap P k R b n D := by
  obtain ⟨es, clock, hb, Ft, hs, hD⟩ := ho
  exact ⟨es, clock, h.same b _ hb rfl, Ft, hs, hD⟩
theorem KpF.row {W W' : World} (h : KpF W W') {base n : Nat} {v : Value} {xs : List Value} (ho : W.ownsRow base 9 1 v n xs) : W'.ownsRow base 9 1 v n xs := by
  refine ⟨ho.1, ?_⟩
  rcases ho.2 with h1 | ⟨g, cap, cur, h1, h2, h3, h4⟩
  · exact .inl h1
  · exact .inr ⟨g, cap, cur, h1, h2, h.same g _ h3 (by simp [keptO]), h4⟩

/-- a map's keys: each once, and just those that it has -/
theorem keys_iff {P : Program} {k : TypeId} {R : Value → Option (DataW Unit × List MemPlace)} {w : World} {b n : Nat} {D : DataW Unit} (hown : w.ownsMap P k R b n D) (K : Keyed P k) (hk : P.underlying k = some .string) : (strKeys D).Nodup ∧ ∀ x, x ∈ strKeys D ↔ Maps.has D (.string x) = true := by
  obtain ⟨es, hD, hpw, _⟩ := hown.entries K
  obtain ⟨es', hD', hko⟩ := hown.keysOf
  obtain rfl : es = es' := by rw [hD] at hD'; simpa using hD'
  subst hD
  have hs : ∀ p ∈ es, ∃ x, p.1 = .string x := fun p hp => by obtain ⟨v, hv⟩ := hko p hp; obtain ⟨x, _, hx, _⟩ := Maps.keyOf_str hk hv; exact ⟨x, hx⟩
  constructor
  · show (es.map fun p => strOf p.1).Nodup
    refine List.pairwise_map.2 (hpw.imp_of_mem fun {p q} hp' hq' hne e => hne ?_)
    obtain ⟨a, ha⟩ := hs p hp'
    obtain ⟨b, hb⟩ := hs q hq'
    rw [ha, hb] at e ⊢
    exact congrArg _ e
  · intro x
    rw [Maps.has_eq, List.any_eq_true]
    show x ∈ es.map (fun p => strOf p.1) ↔ _
    rw [List.mem_map]
    constructor
    · rintro ⟨p, hp, e⟩
      obtain ⟨a, ha⟩ := hs p hp
      refine ⟨p, hp, ?_⟩
      rw [ha] at e ⊢
      obtain rfl : a = x := e
      simp [Lit.sameKey]
    · rintro ⟨p, hp, e⟩
      obtain ⟨a, ha⟩ := hs p hp
      refine ⟨p, hp, ?_⟩
      rw [ha] at e ⊢
      simpa [Lit.sameKey, strOf] using e

/-- the files that a map tells, in the order of their paths -/
def filesOf (f : ByteArray → Option ByteArray) (ks : List (List UInt8)) : List TF := ks.map fun k => ⟨⟨k.toArray⟩, (f ⟨k.toArray⟩).getD ByteArray.empty⟩
theorem mk_list (q : ByteArray) : (⟨q.data.toList.toArray⟩ : ByteArray) = q := by cases q; simp
theorem findF_filesOf (f : ByteArray → Option ByteArray) (ks : List (List UInt8)) (q : ByteArray) : findF (filesOf f ks) q = if q.data.toList ∈ ks then some ((f q).getD ByteArray.empty) else none := by
  induction ks with
  | nil => simp [filesOf, findF]
  | cons k l ih =>
    show (if (⟨k.toArray⟩ : ByteArray) = q then _ else findF (filesOf f l) q) = _
    by_cases h : (⟨k.toArray⟩ : ByteArray) = q
    · subst h; simp
    · rw [if_neg h, ih]
      have h2 : ¬ q.data.toList = k := fun e => h (by rw [← e])
      simp [h2]
theorem filesOf_ok {D : DataW Unit} {f : ByteArray → Option ByteArray} {ks ss : List (List UInt8)} (hnd : (strKeys D).Nodup) (hm : ∀ x, x ∈ strKeys D ↔ Maps.has D (.string x) = true) (hf : mapF D f) (hp : ss.Perm (strKeys D)) (hk : ks = ss.mergeSort fun x y => decide (x ≤ y)) :
    RiseF (filesOf f ks) ∧ (∀ q, findF (filesOf f ks) q = f q) ∧ (∀ k ∈ ks, (f ⟨k.toArray⟩).isSome = true) ∧ ks.length = (strKeys D).length := by
  have hkp : ks.Perm (strKeys D) := by rw [hk]; exact (List.mergeSort_perm _ _).trans hp
  have hmem : ∀ x, x ∈ ks ↔ (f ⟨x.toArray⟩).isSome = true := fun x => by
    rw [hkp.mem_iff, hm x, ← (hf ⟨x.toArray⟩).1]
  have hpw : ks.Pairwise fun x y => x < y := by
    have h1 : ks.Pairwise fun x y => x ≤ y := by
      rw [hk]
      have := List.pairwise_mergeSort (le := fun x y : List UInt8 => decide (x ≤ y)) (fun a b c h1 h2 => by simp only [decide_eq_true_eq] at *; exact List.le_trans h1 h2) (fun a b => by simp only [Bool.or_eq_true, decide_eq_true_eq]; exact List.le_total a b) ss
      exact this.imp fun h => by simpa using h
    have h2 : ks.Nodup := hkp.nodup_iff.2 hnd
    refine (h1.and h2).imp fun {a b} h => ?_
    rcases tri a b with h3 | h3 | h3
    · exact h3
    · exact absurd h3 h.2
    · exact absurd (List.le_antisymm h.1 (List.le_of_lt h3)) h.2
  refine ⟨?_, fun q => ?_, fun k hk' => (hmem k).1 hk', hkp.length_eq⟩
  · unfold RiseF filesOf
    rw [List.pairwise_map]
    exact hpw.imp fun h => h
  · rw [findF_filesOf]
    have := hmem q.data.toList
    rw [mk_list] at this
    by_cases h : q.data.toList ∈ ks
    · rw [if_pos h]
      cases e : f q with
      | none => rw [e] at this; simp [h] at this
      | some t => rfl
    · rw [if_neg h]
      cases e : f q with
      | none => rfl
      | some t => rw [e] at this; simp [h] at this

/-- how a file is handed to a loop body: its path, and itself -/
def encsF (x : TF) : Array Value := #[.string x.pa, .agg #[.string x.pa, .string x.by_]]

theorem sortsT (m : Nat) : AnyZ.SortsIn Try.prog Try.sortedT_ren Fence.wide m :=
  ⟨fun blk off cap ss W hH hblk hsz => callsIn_wide.2 (AnyM.slices_Sort_string Try.sortT blk off cap ss W hH hblk hsz),
   fun p cap W => callsIn_wide.2 (AnyM.slices_Sort_string_none Try.sortT p cap W)⟩
theorem keysCall (mb : Option Nat) (W : World) : CallsIn Fence.wide 5 Try.prog 69 #[.map mb] W fun e w' => e = .returned (.func (.func 83) #[] #[.pointer (some ⟨W.heap.size, 0, none⟩)]) ∧ w' = W.alloc (.cells #[.map mb] 60) :=
  AnyZ.keys_in Try.keysT Fence.wide 5 trivial rfl mb W
set_option maxHeartbeats 1000000 in
theorem sortedCall (b nn : Nat) (D0 : DataW Unit) (w : World) (hown : w.ownsMap Try.prog 9 fileElem b nn D0) (hmax : Maps.size D0 ≤ maxLen) (hbytes : Maps.size D0 * 16 ≤ 140737488355328) :
    CallsIn Fence.wide 5 Try.prog 68 #[.func (.func 83) #[] #[.pointer (some ⟨w.heap.size, 0, none⟩)]] (w.alloc (.cells #[.map (some b)] 60)) fun e w' => ∃ (v : Value) (ss : List (List UInt8)), e = .returned v ∧ ss.Perm (strKeys D0) ∧
      w'.ownsRow (w.alloc (.cells #[.map (some b)] 60)).heap.size 9 1 v ss.length ((ss.mergeSort (fun x y => decide (x ≤ y))).map encStr) ∧ (v = .slice none 0 0 ↔ ss = []) ∧ Below (w.alloc (.cells #[.map (some b)] 60)).heap.size (w.alloc (.cells #[.map (some b)] 60)) w' := by
  have hbl := hown.lt
  have hseq : SeqGives Fence.wide 2 Try.prog 83 #[.pointer (some ⟨w.heap.size, 0, none⟩)] encStr (fun ss => ss.Perm (strKeys D0)) (Maps.size D0) (w.alloc (.cells #[.map (some b)] 60)) :=
    AnyZ.keys_gives (ρ := Try.keysT_ren) { Try.keysT with } Fence.wide _ trivial rfl (by omega) w.heap.size b nn D0 _ (by simp) (by simp) (by
      obtain ⟨es, clock, hb, Ft, hs, hD⟩ := hown
      exact ⟨es, clock, (Below.heap_alloc _ _ b hbl).trans hb, Ft, hs, hD⟩)
  exact AnyZ.sorted_in Try.sortedT Fence.wide 5 trivial trivial trivial trivial rfl (by omega) (sortsT _) (enters_of Try.func50 (by kernel_rfl) rfl) 83 #[.pointer (some ⟨w.heap.size, 0, none⟩)] trivial (enters_of Try.func83 (by kernel_rfl) rfl) _ _ hmax hbytes _ hseq

theorem row_form {w : World} {base n : Nat} {v : Value} {xs : List Value} (h : w.ownsRow base 9 1 v n xs) : ∃ A c, v = .slice A n c ∧ ∀ j (hj : j < xs.length), ∃ g, A = some ⟨g, 0, none⟩ ∧ g < w.heap.size ∧ w.cell? ⟨g, j, none⟩ = some xs[j] := by
  rcases h.2 with ⟨h1, h2⟩ | ⟨g, cap, cur, h1, h2, h3, h4⟩
  · subst h1; subst h2
    exact ⟨none, 0, rfl, fun j hj => by have := h.1; omega⟩
  · subst h1
    refine ⟨some ⟨g, 0, none⟩, cap, rfl, fun j hj => ⟨g, rfl, (Array.getElem?_eq_some_iff.1 h3).1, ?_⟩⟩
    have := h.cellAt j (by rw [← h.1]; exact hj)
    rw [this]; simp
theorem KpF.refl (W : World) : KpF W W := ⟨Nat.le_refl _, fun _ _ h _ => h⟩

set_option maxHeartbeats 2000000 in
set_option maxRecDepth 100000 in
theorem order_stops (B b nn : Nat) (D : DataW Unit) (f : ByteArray → Option ByteArray) (w : World) (hB : B < w.heap.size) (hc : w.heap[B]? = some (.cells #[.map (some b)] 60 (0, 0))) (hown : w.ownsMap Try.prog 9 fileElem b nn D) (hf : mapF D f) (hn : nn ≤ 1048576) :
    SeqStopsK Fence.wide 6 Try.prog 67 #[.pointer (some ⟨B, 0, none⟩)] encsF KpF (fun xs => RiseF xs ∧ (∀ q, findF xs q = f q)) (fun _ => True) nn w := fun l J Jx W hW hJ hJx hY h0 => by
  have hcW : W.heap[B]? = some (.cells #[.map (some b)] 60 (0, 0)) := (hW.block B hB).trans hc
  have hownW : W.ownsMap Try.prog 9 fileElem b nn D := by
    have hbl := hown.lt
    obtain ⟨es, clock, hb, Ft, hs, hD⟩ := hown
    exact ⟨es, clock, (hW.block b hbl).trans hb, Ft, hs, hD⟩
  have law := Maps.string_keyed (P := Try.prog) Try.underlying9
  obtain ⟨hnd, hmem⟩ := keys_iff hownW law Try.underlying9
  have hsize := hownW.size_le
  have hm0 : Maps.size D ≤ maxLen := by unfold maxLen; omega
  have hcell : W.cell? ⟨B, 0, none⟩ = some (.map (some b)) := by simp [World.cell?, hcW]
  have cK := keysCall (some b) W
  have cS := sortedCall b nn D W hownW hm0 (by omega)
  have h1 : 1 ≤ 6 := by omega
  have hfK : Fence.wide.fn 69 := trivial
  have hfS : Fence.wide.fn 68 := trivial
  have HOW : Hid (W.ownsMap Try.prog 9 fileElem b nn D) := hownW
  have HCW : Hid (W.heap[B]? = some (.cells #[.map (some b)] 60 (0, 0))) := hcW
  refine callsIn_of_wp Try.func67 rfl trivial ?_ rfl
  simp only [Try.ntmps67, List.size_toArray, List.length_cons, List.length_nil, Nat.reduceAdd, Nat.reduceSub, Array.replicate_succ, Array.replicate_zero, List.push_toArray, List.append_toArray, List.nil_append, List.cons_append]
  gi_wp2_with (first
    | (gi_at_call 69; refine cK.mono ?_; rintro e w' ⟨rfl, rfl⟩; clear cK)
    | (gi_at_call 68; refine cS.mono ?_; rintro e w2 ⟨v, ss, rfl, hS, hrow, hnil, hb⟩; obtain ⟨A, cA, rfl, hA⟩ := row_form hrow; have HS : Hid (ss.Perm (strKeys D)) := hS; have HROW : Hid (w2.ownsRow (W.alloc (.cells #[.map (some b)] 60)).heap.size 9 1 (.slice A ss.length cA) ss.length ((ss.mergeSort (fun x y => decide (x ≤ y))).map encStr)) := hrow; have HBL : Hid (Below W.heap.size W w2) := (show Below W.heap.size W w2 from ((Below.refl _ _).alloc (Nat.le_refl _) _).trans (hb.mono (by simp))); clear cS hA hb hrow hS hnil))
  obtain ⟨ks, hks⟩ : ∃ ks, ks = ss.mergeSort fun x y => decide (x ≤ y) := ⟨_, rfl⟩
  obtain ⟨hrise, hfind, hsome, hlen⟩ := filesOf_ok hnd hmem hf HS.out hks
  have hls : ss.length = ks.length := by rw [hks, List.length_mergeSort]
  have HKS : Hid (w2.ownsRow (W.alloc (.cells #[.map (some b)] 60)).heap.size 9 1 (.slice A ss.length cA) ss.length (ks.map encStr)) := (show World.ownsRow _ _ _ _ _ _ _ from by rw [hks]; exact HROW.out)
  have hkn : ks.length ≤ nn := by
    have : (strKeys D).length = Maps.size D := by
      obtain ⟨es, hD, _⟩ := hownW.entries law
      rw [hD]; show (es.map _).length = _; rw [List.length_map, Maps.size_eq]
    omega
  have hJ2 : J [] w2 := hJ [] W w2 none h0 ⟨HBL.out.os, HBL.out.tape, HBL.out.output, HBL.out.size, fun k hk _ => HBL.out.block k hk⟩ (fun r e => by cases e)
  have HM2 : Hid (w2.ownsMap Try.prog 9 fileElem b nn D) := (show World.ownsMap _ _ _ _ _ _ _ from by
    obtain ⟨es, clock, hb, Ft, hs, hD⟩ := HOW.out
    exact ⟨es, clock, (HBL.out.block b HOW.out.lt).trans hb, Ft, hs, hD⟩)
  have HC2 : Hid (w2.heap[B]? = some (.cells #[.map (some b)] 60 (0, 0))) := (HBL.out.block B (by have := hW.size; omega)).trans HCW.out
  have hkl : ∀ k ∈ ks, k.length ≤ maxLen := fun k hk => by
    have h9 : k ∈ ss := by rw [hks] at hk; exact (List.mergeSort_perm _ _).mem_iff.1 hk
    exact strKeys_le HOW.out Try.underlying9 k (HS.out.mem_iff.1 h9)
  rw [hls] at HKS ⊢
  have hk64 : ks.length ≤ 1048576 := by omega
  have HKN : Hid (ks.length ≤ nn) := hkn
  clear hks HROW HS hls hcell hownW hcW h0 hlen hsize hm0 hnd hmem hkn
  gi_wp2
  gi_loopw [9] (fun iv wr => ∃ j : Nat, j ≤ ks.length ∧ iv = .int .i64 j ∧ J ((filesOf f ks).take j) wr ∧ KpF w2 wr) (fun i _ => ks.length - (RowKit.intOf i).toNat)
  case atStart => exact ⟨0, Nat.zero_le _, rfl, hJ2, KpF.refl _⟩
  case round =>
    obtain ⟨j, hj, rfl, hJr, hkp⟩ := hrel
    by_cases hlt : j < ks.length
    · have hrowr := hkp.row HKS.out
      obtain ⟨A', c', e', hA⟩ := row_form hrowr
      cases e'
      obtain ⟨g, rfl, hgl, hgc⟩ := hA j (by simpa using hlt)
      have hownr := hkp.map HM2.out
      have hBr : wr.cell? ⟨B, 0, none⟩ = some (.map (some b)) := by
        have := hkp.same B _ HC2.out (by simp [keptO])
        simp [World.cell?, this]
      have hin : ks[j] ∈ ks := List.getElem_mem hlt
      have hso := hsome _ hin
      have hkeyl := hkl _ hin
      have HTK : Hid ((filesOf f ks).take (j + 1) = (filesOf f ks).take j ++ [⟨⟨ks[j].toArray⟩, (f ⟨ks[j].toArray⟩).getD ByteArray.empty⟩]) := (show _ = _ by rw [List.take_succ_eq_append_getElem (by simpa [filesOf] using hlt)]; simp [filesOf])
      simp only [List.getElem_map, encStr] at hgc
      obtain ⟨k, hk⟩ : ∃ k, ks[j] = k := ⟨_, rfl⟩
      rw [hk] at hgc hso hkeyl HTK
      obtain ⟨t, ht⟩ := Option.isSome_iff_exists.1 hso
      rw [ht] at HTK
      have hat := (hf ⟨k.toArray⟩).2 t ht
      have hkey : keyOf Try.prog 9 (.string ⟨k.toArray⟩) = some (.string (⟨k.toArray⟩ : ByteArray).data.toList) := Go.WideMaps.keyOf_string_mk Try.underlying9 (by simpa [ByteArray.size] using hkeyl)
      obtain ⟨v9, ps9, hrun, hv9⟩ := hownr.lookup law Try.underlying60 (zeroF wr) (zd := .agg [.lit (.string []), .lit (.string [])]) (fileElem_mk ByteArray.empty ByteArray.empty) hkey
      obtain ⟨s9, t9, rfl, hz9⟩ := fileElem_inv hv9
      rw [hat] at hz9
      have e1 : s9 = ⟨k.toArray⟩ := by
        have h9 := congrArg Prod.fst hz9
        simp only [DataW.agg.injEq, List.cons.injEq, DataW.lit.injEq, Lit.string.injEq] at h9
        exact (pa_eq h9.1).symm
      have e2 : t9 = t := by
        have h9 := congrArg Prod.fst hz9
        simp only [DataW.agg.injEq, List.cons.injEq, DataW.lit.injEq, Lit.string.injEq] at h9
        exact (pa_eq h9.2.1).symm
      subst e1; subst e2
      have hlenp : ((filesOf f ks).take j).length < nn := by have := HKN.out; simp [filesOf]; omega
      obtain ⟨fn, tmps, assign, body, hy, hR⟩ := hY _ ⟨⟨k.toArray⟩, t9⟩ wr hJr hlenp
      dsimp only [encsF] at hy
      clear hv9 hat hz9 hso hin hA hkey hlenp hgl ht
      gi_wp2
      refine hR.mono ?_
      rintro e W3 (⟨rfl, hJ3, hk3⟩ | ⟨rfl, hJx3⟩)
      · gi_wp2
        go_roundw
        case rel => exact ⟨j + 1, by omega, by go_num, by rw [HTK.out]; exact hJ3, kpF_t hkp hk3⟩
        case measure => simp [RowKit.intOf]; omega
      · gi_wp2
        refine bodyPost_ret (results_none rfl _ _ _) rfl ?_
        exact ⟨⟨_, rfl⟩, .inr ⟨_, trivial, hJx3⟩⟩
    · gi_wp2
      go_end0
      obtain rfl : j = ks.length := by omega
      have e9 : (filesOf f ks).take ks.length = filesOf f ks := List.take_of_length_le (by simp [filesOf])
      rw [e9] at hJr
      exact ⟨⟨_, rfl⟩, .inl ⟨filesOf f ks, ⟨hrise, hfind⟩, hJr⟩⟩

set_option maxHeartbeats 400000 in
theorem inOrder_any (b : Nat) (w : World) :
    Calls Try.prog 59 #[.map (some b)] w fun e w' => e = .returned (.func (.func 67) #[] #[.pointer (some ⟨w.heap.size, 0, none⟩)]) ∧ w.alloc (.cells #[.map (some b)] 60) = w' := by
  go_enter Try.func59, Try.ntmps59
  go_wp2
  go_ret
  exact ⟨rfl, rfl⟩
end Go.Proofs.Ytbceegonaomblaa.W
namespace Go.Proofs.Ytbceegonaomblaa.W
open Go.RowKit Go.Shelf Go.Proofs.Ytbceegonaomblaa.M Go.Maps Go.Sort Go.MapKept Go.ChangeMaps
attribute [local go_sem] Oper.semAt_some
set_option linter.unusedVariables false

theorem kpF_alloc (W : World) (o : Obj) : KpF W (W.alloc o) := ⟨by simp, fun k o' hk _ => (Below.heap_alloc _ _ _ (Array.getElem?_eq_some_iff.1 hk).1).trans hk⟩
theorem kpF_appended {W w1 : World} {n₀ B k : Nat} {v v' : Value} {xs : List Value} {tmp : Obj} (hv : Boxed W B 23 v) (hrow : W.ownsRow n₀ 51 2 v k xs) (hgrow : (W.alloc tmp).grownBy w1 v.ownBlock) : KpF W (w1.setCell ⟨B, 0, none⟩ v') := by
  refine ⟨?_, fun q o hq ho => ?_⟩
  · have := hgrow.size; simp at this; simp [World.setCell]; omega
  have hlt : q < W.heap.size := (Array.getElem?_eq_some_iff.1 hq).1
  have h1 : q ≠ B := fun e => by
    subst e
    rw [show W.heap[q]? = _ from hv] at hq
    obtain rfl := Option.some.inj hq
    simp [keptO] at ho
  have h2 : some q ≠ v.ownBlock := fun e => by
    rcases hrow.2 with ⟨h3, _⟩ | ⟨g, cap, cur, h3, _, h4, _⟩
    · rw [h3] at e; simp [Value.ownBlock] at e
    · rw [h3] at e
      obtain rfl : q = g := by simpa [Value.ownBlock] using e
      rw [h4] at hq
      obtain rfl := Option.some.inj hq
      simp [keptO] at ho
  refine (Below.heap_setCell _ _ _ q (fun e => h1 e)).trans ((hgrow.block q (by simp; omega) h2).trans ((Below.heap_alloc _ _ _ hlt).trans hq))

set_option maxHeartbeats 2000000 in
set_option maxRecDepth 100000 in
theorem files_any (b nn : Nat) (D : DataW Unit) (f : ByteArray → Option ByteArray) (w : World) (hown : w.ownsMap Try.prog 9 fileElem b nn D) (hf : mapF D f) (hn : nn ≤ 1048576) :
    Calls Try.prog 41 #[.map (some b)] w fun e W' => ∃ v xs, e = .returned v ∧ RiseF xs ∧ (∀ q, findF xs q = f q) ∧ W'.ownsRow w.heap.size 51 2 v xs.length (cellsF xs) ∧ Below w.heap.size w W' := by
  obtain ⟨i0, hi, hz0, hz1, hz2⟩ := info_parts infoF
  have hsz := hown.size_le
  have hrun := hown.len Try.underlying61 3
  have hbl := hown.lt
  refine (callsIn_wide (n := 7)).1 ?_
  refine callsIn_of_wp_marks Try.func41 rfl trivial ?_ rfl
  simp only [Try.ntmps41, List.size_toArray, List.length_cons, List.length_nil, Nat.reduceAdd, Nat.reduceSub, Array.replicate_succ, Array.replicate_zero, List.push_toArray, List.append_toArray, List.nil_append, List.cons_append]
  gi_wp2_with (first
    | (gi_at_make; refine wpListIn_make_own _ rfl _ _ 23 rfl w.heap.size 51 i0 (.agg #[.string ByteArray.empty, .string ByteArray.empty]) 2 Try.underlying23 hi hz0 hz1 .i64 .i64 _ (Maps.size D) rfl rfl rfl (by rw [hz2]; omega) (by unfold maxLen; omega) (Nat.le_refl _) ?_; intro w1 hown1 hgrow1)
    | (gi_at_call 59; refine (callsIn_wide.2 (inOrder_any b _)).mono ?_; rintro e w' ⟨rfl, rfl⟩)
    | (refine ⟨trivial, ?_⟩; gi_at_call 59; refine (callsIn_wide.2 (inOrder_any b _)).mono ?_; rintro e w' ⟨rfl, rfl⟩))
  have hs1 := hgrow1.size
  have bO := Boxed.new w1 23 (.slice (some ⟨w.heap.size, 0, none⟩) 0 (Maps.size D))
  have HB0 : Below w.heap.size w ((w1.alloc (.cells #[.slice (some ⟨w.heap.size, 0, none⟩) 0 (Maps.size D)] 23)).alloc (.cells #[.map (some b)] 60)) := (((Below.refl _ w).grown hgrow1 (Nat.le_refl _) (fun k e => by cases e)).alloc hs1 _).alloc (by simp; omega) _
  have bO2 := bO.alloc (.cells #[.map (some b)] 60)
  have hrow0 := (hown1.alloc (.cells #[.slice (some ⟨w.heap.size, 0, none⟩) 0 (Maps.size D)] 23)).alloc (.cells #[.map (some b)] 60)
  have hc0 : ((w1.alloc (.cells #[.slice (some ⟨w.heap.size, 0, none⟩) 0 (Maps.size D)] 23)).alloc (.cells #[.map (some b)] 60)).heap[w1.heap.size + 1]? = some (.cells #[.map (some b)] 60 (0, 0)) := by
    have := World.alloc_heap_new (w1.alloc (.cells #[.slice (some ⟨w.heap.size, 0, none⟩) 0 (Maps.size D)] 23)) (.cells #[.map (some b)] 60)
    rwa [World.size_alloc] at this
  have hown0 : ((w1.alloc (.cells #[.slice (some ⟨w.heap.size, 0, none⟩) 0 (Maps.size D)] 23)).alloc (.cells #[.map (some b)] 60)).ownsMap Try.prog 9 fileElem b nn D := by
    obtain ⟨es, clock, hb, Ft, hs, hD⟩ := hown
    exact ⟨es, clock, (HB0.block b hbl).trans hb, Ft, hs, hD⟩
  have hsz0 : ((w1.alloc (.cells #[.slice (some ⟨w.heap.size, 0, none⟩) 0 (Maps.size D)] 23)).alloc (.cells #[.map (some b)] 60)).heap.size = w1.heap.size + 2 := by simp
  obtain ⟨W0, hW0⟩ : ∃ W0, W0 = (w1.alloc (.cells #[.slice (some ⟨w.heap.size, 0, none⟩) 0 (Maps.size D)] 23)).alloc (.cells #[.map (some b)] 60) := ⟨_, rfl⟩
  rw [← hW0] at HB0 bO2 hrow0 hc0 hown0 hsz0 ⊢
  clear hW0
  refine wpIn_rangeFunc_ownH (α := TF) (encs := encsF) (Kp := KpF) rfl (by omega) (gf := 67) (lb := #[.pointer (some ⟨w1.heap.size + 1, 0, none⟩)]) rfl trivial (enters_of Try.func67 (by kernel_rfl) rfl)
    (order_stops (w1.heap.size + 1) b nn D f W0 (by omega) hc0 hown0 hf hn) kpF_t (fun W l o o' _ h1 h2 h3 => kpF_b W l o o' h1 h2 h3) (Below.refl _ _) (fun _ => rfl)
    (fun pre W => (∃ v, Boxed W w1.heap.size 23 v ∧ W.ownsRow w.heap.size 51 2 v pre.length (cellsF pre) ∧ True) ∧ Below w.heap.size w W)
    (fun _ _ _ => False)
    (OwnFrom.and (Own.from (holdsRow_own w.heap.size w1.heap.size 23 51 2 (fun pre : List TF => pre.length) (fun pre => cellsF pre) (fun _ _ => True)) _) (ownFrom_below (Nat.le_refl _) (by omega)))
    (fun _ _ _ _ _ hs _ _ => hs)
    ⟨⟨_, bO2, hrow0, trivial⟩, HB0⟩
    (fun x a' W => ∃ Bx, W.heap[Bx]? = some (.cells #[.string x.pa, .string x.by_] 51 (0, 0)) ∧ a' = { tmps := #[.map (some b), undef, .slice none 0 0, .pointer (some ⟨w1.heap.size, 0, none⟩), undef, .pointer (some ⟨Bx, 0, none⟩), .map (some b), .int .i64 (Maps.size D), .slice (some ⟨w.heap.size, 0, none⟩) 0 (Maps.size D), .map (some b), .func (.func 67) #[] #[.pointer (some ⟨w1.heap.size + 1, 0, none⟩)], .string x.pa, .agg #[.string x.pa, .string x.by_], undef, undef, undef, undef, undef], defers := [] })
    (fun x a' _ X Y row hs hg hrw => by
      obtain ⟨Bx, hx, ha⟩ := hs
      refine ⟨Bx, (hg.block Bx (Array.getElem?_eq_some_iff.1 hx).1 (fun e => ?_)).trans hx, ha⟩
      obtain ⟨_, o, ho, hcl⟩ := hrw Bx e.symm
      rw [hx] at ho; cases ho; cases hcl) ?assign ?body ?done ?stop
  case assign =>
    rintro l pre x W K ⟨⟨v, hv, hrow, _⟩, hB⟩ hK
    dsimp only [encsF]
    gi_wp2
    exact hK _ _ ((KeepsOthers.alloc _ _).from _) (kpF_alloc _ _) ⟨⟨v, hv.alloc _, hrow.alloc _, trivial⟩, hB.alloc hB.size _⟩ ⟨W.heap.size, World.alloc_heap_new W _, rfl⟩
  case body =>
    rintro l pre x a' W hl ⟨r, hr⟩ ⟨⟨v, hv, hrow, _⟩, hB⟩ ⟨Bx, hx, rfl⟩ hlt
    have hc := hv.cell
    have hx1 : W.cell? ⟨Bx, 0, none⟩ = some (.string x.pa) := by simp [World.cell?, hx]
    have hx2 : W.cell? ⟨Bx, 1, none⟩ = some (.string x.by_) := by simp [World.cell?, hx]
    gi_wp2_with (gi_at_builtin; refine wpListIn_append_own _ rfl _ _ 23 rfl w.heap.size 51 i0 (.agg #[.string ByteArray.empty, .string ByteArray.empty]) 2 32 Try.underlying23 hi hz0 hz1 hz2 rfl (by decide) _ _ _ rfl (hrow.alloc _) ⟨W.heap.size, 0, none⟩ 1 1 [.string x.pa, .string x.by_] rfl rfl (cells_new W #[.string x.pa, .string x.by_] 51) (by simp [Value.oneCell']) (by unfold maxLen; omega) (by omega) (by have := hB.size; simp; omega) ?_; intro v' w3 hown' hgrow _; obtain ⟨g', cap', rfl⟩ := ownsRow_succ hown'; obtain ⟨hv1, hv2, hr2, hk2, hb2⟩ := hv.appended (by decide) hrow hB.size hs1 hown' hgrow; have hkp := kpF_appended (v' := .slice (some ⟨g', 0, none⟩) (pre.length + 1) cap') hv hrow hgrow; have hc1 := hv1.cell; have hf1 := hv1.frozen)
    exact ⟨hk2.from _, hkp, ⟨_, hv2, by rw [cellsF_snoc, List.length_append]; exact hr2, trivial⟩, hB.trans hb2⟩
  case done =>
    rintro D' ys W hD hS ⟨⟨v, hv, hrow, _⟩, hB⟩ hK
    have hc := hv.cell
    gi_wp2
    refine ⟨by simp, .inl ⟨_, _, rfl, run_takeDeferred hK, ?_⟩⟩
    exact ⟨_, results_tmp rfl _ _ _, v, ys, rfl, hS.1, hS.2, ownsRow_putObj hrow _ hK rfl, hB.trans (belowK_b (w := w) (Nat.le_refl _) W D' _ _ (by omega) hK rfl rfl)⟩
  case stop =>
    rintro D' c pre W _ _ h _
    exact h.elim
end Go.Proofs.Ytbceegonaomblaa.W
namespace Go.Proofs.Ytbceegonaomblaa.W
open Go.RowKit Go.Proofs.Ytbceegonaomblaa.M Go.Maps Go.MapKept Go.ChangeMaps
set_option linter.unusedVariables false

/-- how a plain function reads as a map's element -/
def funElem (v : Value) : Option (DataW Unit × List MemPlace) := match v with
  | .func (.func n) ⟨[]⟩ ⟨[]⟩ => some (.lit (.int .i64 n), [])
  | .nilFunc => some (.lit (.bool false), [])
  | _ => none
theorem funElem_inv {v : Value} {n : Nat} {ps : List MemPlace} (h : funElem v = some (.lit (.int .i64 n), ps)) : v = .func (.func n) #[] #[] := by
  unfold funElem at h
  split at h
  · have := congrArg Prod.fst (Option.some.inj h)
    simp only [DataW.lit.injEq, Lit.int.injEq, true_and] at this
    obtain rfl := Int.ofNat.inj this
    rfl
  · have := congrArg Prod.fst (Option.some.inj h)
    simp at this
  · cases h
theorem wpList_insert_own {H : Type} {P : Program} (w : World) {ops : Array Oper} {rest : List Oper} {o : Oper} {a : Act} {Q : Exit → Act → World → Prop}
    (hg : o.guard = none) (m x v : Operand) (t : TypeId) (hop : o.op = Op.insert t m x v)
    (k e : TypeId) (K : Keyed P k) (ht : P.underlying t = some (.map k e)) (R : Value → Option (DataW H × List MemPlace)) (b n : Nat) (D : DataW H)
    (hm : a.eval m = .map (some b)) (hown : w.ownsMap P k R b n D) (hn : n < maxLen) (key val : Value) (kl : Lit) (hx : a.eval x = key) (hv : a.eval v = val) (hkey : keyOf P k key = some kl)
    (d : DataW H) (ps : List MemPlace) (hval : R val = some (d, ps))
    (hK : ∀ w', w'.ownsMap P k R b (n + 1) (D.put kl d) → w.grownBy w' (some b) → wpList P ops Q rest (a.put o.dst undef) w') :
    wpList P ops Q (o :: rest) a w := by
  refine wpList_plain hg fun K' hK' => ?_
  obtain ⟨w', hrun, r1, r2⟩ := hown.update K ht hn hkey hval
  unfold Oper.wp
  simp [execOp, hop, hm, hx, hv, hrun, Result.andThen]
  exact hK' _ _ (hK w' r1 r2)
theorem run_makeMapW (w : World) : (Instr.makeMap 65 none).run Try.prog w = .ok (.map (some w.heap.size)) (w.alloc (.map #[] 0)) := by
  have hu : Try.prog.underlying 65 = some (.map 4 67) := Try.underlying65
  simp [Instr.makeMap, Result.andThen, newObj, go_sem]
  try rfl
/-- what the map of ways holds -/
def waysD (D : DataW Unit) : Prop := ∀ z, D.atKey (.bool true) z = .lit (.int .i64 (57 : Nat)) ∧ D.atKey (.bool false) z = .lit (.int .i64 (58 : Nat))
set_option maxHeartbeats 1000000 in
set_option maxRecDepth 100000 in
theorem editing_any (w : World) :
    Calls Try.prog 40 #[] w fun e w' => e = .returned (.map (some w.heap.size)) ∧ (∃ D, w'.ownsMap Try.prog 4 funElem w.heap.size 2 D ∧ waysD D) ∧ Below w.heap.size w w' := by
  have law := Maps.bool_keyed (P := Try.prog) Try.underlying4
  have hk1 : keyOf Try.prog 4 (.bool true) = some (.bool true) := Maps.keyOf_bool_mk Try.underlying4 true
  have hk2 : keyOf Try.prog 4 (.bool false) = some (.bool false) := Maps.keyOf_bool_mk Try.underlying4 false
  have hmm := fun w => run_makeMapW w
  have hown := World.ownsMap_made w Try.prog 4 funElem
  go_enter Try.func40, Try.ntmps40
  go_wp2_with (first
    | (refine wpList_insert_own _ rfl _ _ _ 65 rfl 4 67 law Try.underlying65 funElem w.heap.size 0 (.map []) rfl hown (by unfold maxLen; omega) (.bool true) (.func (.func 57) #[] #[]) (.bool true) rfl rfl hk1 _ [] rfl ?_; intro w1 o1 g1)
    | (refine wpList_insert_own _ rfl _ _ _ 65 rfl 4 67 law Try.underlying65 funElem w.heap.size 1 _ rfl o1 (by unfold maxLen; omega) (.bool false) (.func (.func 58) #[] #[]) (.bool false) rfl rfl hk2 _ [] rfl ?_; intro w2 o2 g2))
  go_ret
  have hm0 : Maps.IsMap (.map [] : DataW Unit) := hown.isMap
  have hm1 := o1.isMap
  refine ⟨rfl, ⟨_, o2, fun z => ⟨?_, ?_⟩⟩, (((Below.refl _ _).alloc (Nat.le_refl _) _).grown g1 (by simp) (fun k e => by cases e; exact Nat.le_refl _)).grown g2 (by have := g1.size; simp at this; omega) (fun k e => by cases e; exact Nat.le_refl _)⟩
  · rw [Maps.atKey_put_other (by simp)]
    exact Maps.atKey_put_same hm0 (law.key hk1) _ z
  · exact Maps.atKey_put_same hm1 (law.key hk2) _ z

theorem wayKept {w w' : World} {k : TypeId} {R : Value → Option (DataW Unit × List MemPlace)} {b c n : Nat} {D : DataW Unit} (h : w.ownsMap Try.prog k R c n D) (hg : w.grownBy w' (some b)) (hne : b < c) : w'.ownsMap Try.prog k R c n D := by
  have hlt := h.lt
  obtain ⟨es, clock, h1, h2⟩ := h
  exact ⟨es, clock, (hg.block c hlt (fun e => by cases e; omega)).trans h1, h2⟩
theorem turn_true (K : List TF) (p b : ByteArray) : ((findF K p).isSome && b.toList.isEmpty) = (turnF K true p b).isSome := by
  have hb : b.toList.isEmpty = decide (b = ByteArray.empty) := by
    rw [Lib.toList_data]
    by_cases h : b = ByteArray.empty
    · subst h; rfl
    · cases h9 : b.data.toList with
      | nil => exact absurd (pa_eq (by rw [h9]; rfl)) h
      | cons => simp [h]
  unfold turnF
  rw [if_pos rfl, hb]
  cases hf : findF K p with
  | none => simp
  | some t => by_cases h : b = ByteArray.empty <;> simp [h]
theorem turn_false (K : List TF) (p b : ByteArray) : (turnF K false p b).isSome = true := by
  unfold turnF
  rw [if_neg (by decide)]
  split <;> rfl

set_option maxHeartbeats 4000000 in
set_option maxRecDepth 100000 in
theorem treTurn_impl {b0 : Nat} {e0 : TypeId} (v : Value) (L : List TF) (A : Option Addr) (cE : Nat) (E : List TE) (w : World) (h : w.ownsRow b0 e0 2 v L.length (cellsF L)) (hE : RdE w.heap.size w A E) (hn : L.length ≤ 1048576) (hnE : E.length ≤ 1048576)
    (ht : ∀ j (h : j < L.length), (L[j]).pa.size ≤ 1048576 ∧ (L[j]).by_.size ≤ 1048576) (htE : ∀ j (h : j < E.length), (E[j]).pa.size ≤ 1048576 ∧ (E[j]).by_.size ≤ 1048576) :
    Calls Try.prog 21 #[v, .slice A E.length cE] w fun e w' => ∃ v', e = .returned (.tuple #[v', .bool (turnT L E).isSome]) ∧ w'.ownsRow w.heap.size 51 2 v' (turnL L E).length (cellsF (turnL L E)) ∧ Below w.heap.size w w' := by
  obtain ⟨A1, c1, rfl, hR⟩ := rdF_of_own h
  have HE : Hid (RdE w.heap.size w A E) := hE
  have HRL : Hid (RdF w.heap.size w A1 L) := hR
  have HT : Hid (∀ j (h : j < L.length), (L[j]).pa.size ≤ 1048576 ∧ (L[j]).by_.size ≤ 1048576) := ht
  have HTE : Hid (∀ j (h : j < E.length), (E[j]).pa.size ≤ 1048576 ∧ (E[j]).by_.size ≤ 1048576) := htE
  have hok := treOk_impl A1 c1 L w hR hn ht
  clear h hE hR ht htE
  by_cases hk : okT L = true
  case neg =>
    have HD : Hid (turnT L E = none) := (show turnT L E = none by unfold turnT; rw [if_neg (fun h => hk h.1)])
    have hk' : okT L = false := by simpa using hk
    rw [hk'] at hok
    clear hk hk'
    go_enter Try.func21, Try.ntmps21
    go_wp2_with (go_at_call 14; refine hok.mono ?_; rintro e w1 ⟨rfl, hb1⟩; clear hok)
    go_ret2
    refine ⟨_, by rw [HD.out]; rfl, ?_, hb1⟩
    unfold turnL; rw [HD.out]
    exact World.ownsRow_nil _ _ _ _
  case pos =>
    rw [hk] at hok
    by_cases hE4 : E.length ≤ 4
    case neg =>
      have HD : Hid (turnT L E = none) := (show turnT L E = none by unfold turnT; rw [if_neg (fun h => hE4 h.2)])
      have hE5 : (4 : Int) < (E.length : Int) := by omega
      clear hk hE4
      go_enter Try.func21, Try.ntmps21
      go_wp2_with (go_at_call 14; refine hok.mono ?_; rintro e w1 ⟨rfl, hb1⟩; clear hok)
      go_ret2
      refine ⟨_, by rw [HD.out]; rfl, ?_, hb1⟩
      unfold turnL; rw [HD.out]
      exact World.ownsRow_nil _ _ _ _
    case pos =>
      obtain ⟨hr, h60⟩ := okT_rise L hk
      have HR : Hid (RiseF L) := hr
      have HD : Hid (turnT L E = (turnAll L (edOf E)).bind fun K => if okT K = true then some K else none) := (show turnT L E = _ by unfold turnT; rw [if_pos ⟨hk, hE4⟩])
      have hE5 : ¬ (4 : Int) < (E.length : Int) := by omega
      have law := Maps.bool_keyed (P := Try.prog) Try.underlying4
      have hkb : ∀ g : Bool, keyOf Try.prog 4 (.bool g) = some (.bool g) := fun g => Maps.keyOf_bool_mk Try.underlying4 g
      have hzf : ∀ W : World, (zeroValue 67).run Try.prog W = .ok .nilFunc W := fun W => by kernel_rfl
      clear hr hk
      go_enter Try.func21, Try.ntmps21
      go_wp2_with (first
        | (go_at_call 14; refine hok.mono ?_; rintro e w1 ⟨rfl, hb1⟩; clear hok; have hs1 := hb1.size; have HB1 : Hid (Below w.heap.size w w1) := hb1; clear hb1)
        | (go_at_call 38; refine (firstFiles_any A1 c1 L w1 (HRL.out.up HB1.out) hn (fun j hj => (HT.out j hj).1)).mono ?_; rintro e w2 ⟨b, D0, rfl, own0, hinv, hbw, hb2⟩; have hs2 := hb2.size; have HB2 : Hid (Below w.heap.size w w2) := HB1.out.trans (hb2.mono hs1); have hblt := own0.lt; have OWN0 : Hid (w2.ownsMap Try.prog 9 fileElem b L.length D0) := own0; have HMF : Hid (mapF D0 (findF L)) := mapF_of hinv; clear hb2 own0 hinv)
        | (go_at_call 40; refine (editing_any w2).mono ?_; rintro e w3 ⟨rfl, ⟨DW, ownw, hways⟩, hb3⟩; have hs3 := hb3.size; have OWNW : Hid (w3.ownsMap Try.prog 4 funElem w2.heap.size 2 DW) := ownw; have HW : Hid (waysD DW) := hways; have HB3 : Hid (Below w.heap.size w w3) := HB2.out.trans (hb3.mono (by omega)); have OWN3 : Hid (w3.ownsMap Try.prog 9 fileElem b L.length D0) := (show World.ownsMap _ _ _ _ _ _ _ from by obtain ⟨es, clock, h1, h2⟩ := OWN0.out; exact ⟨es, clock, (hb3.block b hblt).trans h1, h2⟩); clear hb3 ownw hways))
      go_loopw [24] (fun iv wr => ∃ (i n : Nat) (D : DataW Unit) (f : ByteArray → Option ByteArray) (K : List TF), i ≤ E.length ∧ iv = .int .i64 i ∧ n ≤ L.length + i ∧ wr.ownsMap Try.prog 9 fileElem b n D ∧ Hid (mapF D f ∧ turnAll L (edOf (E.take i)) = some K ∧ RiseF K ∧ ∀ q, findF K q = f q) ∧ wr.ownsMap Try.prog 4 funElem w2.heap.size 2 DW ∧ Below w.heap.size w wr) (fun i _ => E.length - (RowKit.intOf i).toNat)
      case atStart => exact ⟨0, L.length, D0, findF L, L, Nat.zero_le _, rfl, Nat.le_refl _, OWN3.out, (show mapF D0 (findF L) ∧ turnAll L (edOf (E.take 0)) = some L ∧ RiseF L ∧ ∀ q, findF L q = findF L q from ⟨HMF.out, rfl, HR.out, fun _ => rfl⟩), OWNW.out, HB3.out⟩
      case round =>
        obtain ⟨i, n, D, f, K, hi, rfl, hnn, hown, HK, hw, hb⟩ := hrel
        have hsz := hb.size
        by_cases hlt : i < E.length
        · obtain ⟨bE, oE, rfl, hbl, d1, d2, d3⟩ := (HE.out.below hb (Nat.le_refl _)) i hlt
          have hsn : edOf (E.take (i + 1)) = edOf (E.take i) ++ [((E[i]).gone, (E[i]).pa, (E[i]).by_)] := by unfold edOf; rw [List.take_succ_eq_append_getElem hlt, List.map_append]; rfl
          have hse : ∃ R, edOf E = edOf (E.take (i + 1)) ++ R := ⟨edOf (E.drop (i + 1)), by unfold edOf; rw [← List.map_append, List.take_append_drop]⟩
          have hpz := (HTE.out i hlt).1
          obtain ⟨x, hx⟩ : ∃ x, E[i] = x := ⟨_, rfl⟩
          rw [hx] at d1 d2 d3 hsn hpz
          clear hx
          have hall : turnAll L (edOf (E.take (i + 1))) = turnF K x.gone x.pa x.by_ := by rw [hsn, turnAll_snoc, HK.out.2.1]; rfl
          have hfail : turnF K x.gone x.pa x.by_ = none → turnT L E = none := fun hf => by
            rw [hf] at hall
            obtain ⟨R, hR⟩ := hse
            rw [HD.out, hR, turnAll_none L _ R hall]; rfl
          have hgoes : ∀ M, turnF K x.gone x.pa x.by_ = some M → turnAll L (edOf (E.take (i + 1))) = some M ∧ RiseF M ∧ ∀ q, findF M q = if q = x.pa then (if x.gone then none else some x.by_) else f q := fun M hM => by
            obtain ⟨h1, h2⟩ := turnF_ok K M _ _ _ HK.out.2.2.1 hM
            refine ⟨hall.trans hM, h1, fun q => ?_⟩
            rw [h2 q, HK.out.2.2.2 q]
          have hfp : findF K x.pa = f x.pa := HK.out.2.2.2 x.pa
          have HMD : Hid (mapF D f) := HK.out.1
          have hbb : w.heap.size ≤ b := by omega
          clear hsn hse hall
          obtain ⟨p, t, gone⟩ := x
          simp only at d1 d2 d3 hpz hfail hgoes hfp
          cases gone with
          | true =>
            have hownA := hown.alloc (.cells #[.string p, .string t, .bool true] 43)
            have hwaysA := hw.alloc (.cells #[.string p, .string t, .bool true] 43)
            obtain ⟨v9, ps9, hrun, hv9⟩ := hwaysA.lookup law Try.underlying65 (hzf _) (zd := .lit (.bool false)) (zp := []) rfl (hkb true)
            rw [(HW.out _).1] at hv9
            obtain rfl := funElem_inv hv9
            have hbA := hownA.lt
            clear hv9
            have hres := turn_true K p t
            rw [hfp] at hres
            cases hf : turnF K true p t with
            | none =>
              have HN : Hid (turnT L E = none) := hfail hf
              rw [hf] at hres
              have hres' : ((f p).isSome && t.toList.isEmpty) = false := hres
              have hcall := takeOut_any b n D f p t true (wr.alloc (.cells #[.string p, .string t, .bool true] 43)) hownA hpz HMD.out hbA
              rw [hres'] at hcall
              clear hres hres' hf hfail hgoes hfp
              go_wp2_with (go_at_call 57; refine hcall.mono ?_; rintro e w4 ⟨rfl, _, hg⟩; clear hcall)
              go_ret2
              refine ⟨_, by rw [HN.out]; rfl, ?_, (hb.alloc hsz _).grown hg (by simp; omega) (fun k e => by cases e; exact hbb)⟩
              unfold turnL; rw [HN.out]
              exact World.ownsRow_nil _ _ _ _
            | some M =>
              have HG : Hid (turnAll L (edOf (E.take (i + 1))) = some M ∧ RiseF M ∧ ∀ q, findF M q = if q = p then none else f q) := (show _ ∧ _ from by simpa using hgoes M hf)
              rw [hf] at hres
              have hres' : ((f p).isSome && t.toList.isEmpty) = true := hres
              have hcall := takeOut_any b n D f p t true (wr.alloc (.cells #[.string p, .string t, .bool true] 43)) hownA hpz HMD.out hbA
              rw [hres'] at hcall
              clear hres hres' hf hfail hgoes hfp
              go_wp2_with (go_at_call 57; refine hcall.mono ?_; rintro e w4 ⟨rfl, ⟨D', o', hM'⟩, hg⟩; clear hcall)
              go_roundw
              case rel => exact ⟨i + 1, n, D', _, M, by omega, by go_num, by omega, o', (show mapF D' _ ∧ _ from ⟨hM', HG.out⟩), wayKept hwaysA hg (by omega), (hb.alloc hsz _).grown hg (by simp; omega) (fun k e => by cases e; exact hbb)⟩
              case measure => simp [RowKit.intOf]; omega
          | false =>
            have hownA := hown.alloc (.cells #[.string p, .string t, .bool false] 43)
            have hwaysA := hw.alloc (.cells #[.string p, .string t, .bool false] 43)
            obtain ⟨v9, ps9, hrun, hv9⟩ := hwaysA.lookup law Try.underlying65 (hzf _) (zd := .lit (.bool false)) (zp := []) rfl (hkb false)
            rw [(HW.out _).2] at hv9
            obtain rfl := funElem_inv hv9
            have hbA := hownA.lt
            clear hv9
            cases hf : turnF K false p t with
            | none => have := turn_false K p t; rw [hf] at this; cases this
            | some M =>
              have HG : Hid (turnAll L (edOf (E.take (i + 1))) = some M ∧ RiseF M ∧ ∀ q, findF M q = if q = p then some t else f q) := (show _ ∧ _ from by simpa using hgoes M hf)
              have hcall := layDown_any b n D f p t false (wr.alloc (.cells #[.string p, .string t, .bool false] 43)) hownA (by omega) hpz HMD.out hbA
              clear hf hfail hgoes hfp
              go_wp2_with (go_at_call 58; refine hcall.mono ?_; rintro e w4 ⟨rfl, ⟨D', o', hM'⟩, hg⟩; clear hcall)
              go_roundw
              case rel => exact ⟨i + 1, n + 1, D', _, M, by omega, by go_num, by omega, o', (show mapF D' _ ∧ _ from ⟨hM', HG.out⟩), wayKept hwaysA hg (by omega), (hb.alloc hsz _).grown hg (by simp; omega) (fun k e => by cases e; exact hbb)⟩
              case measure => simp [RowKit.intOf]; omega
        · obtain rfl : i = E.length := by omega
          have hall := HK.out.2.1
          rw [List.take_length] at hall
          have hmem := (turnAll_ok L K _ HR.out hall).2
          have hel : (edOf E).length = E.length := by unfold edOf; simp
          have htK : ∀ j (h : j < K.length), (K[j]).pa.size ≤ 1048576 ∧ (K[j]).by_.size ≤ 1048576 := by
            intro j hj
            rcases hmem.2 _ (List.getElem_mem hj) with hx | ⟨e, he, hx⟩
            · obtain ⟨q, hq, e⟩ := List.getElem_of_mem hx
              rw [← e]; exact HT.out q hq
            · unfold edOf at he
              obtain ⟨y, hy, rfl⟩ := List.mem_map.1 he
              obtain ⟨q, hq, e⟩ := List.getElem_of_mem hy
              rw [hx, ← e]; exact HTE.out q hq
          have HTK : Hid (∀ j (h : j < K.length), (K[j]).pa.size ≤ 1048576 ∧ (K[j]).by_.size ≤ 1048576) := htK
          have hKl : K.length ≤ 1000 := by have := hmem.1; omega
          have HDK : Hid (turnT L E = if okT K = true then some K else none) := (show turnT L E = _ by rw [HD.out, hall]; rfl)
          have hfiles := files_any b n D f wr hown HK.out.1 (by omega)
          clear hmem htK hall hown hw hel
          cases hkK : okT K with
          | false =>
            have HN : Hid (turnT L E = none) := (show turnT L E = none by rw [HDK.out, hkK]; rfl)
            have HOK : Hid (okT K = false) := hkK
            clear hkK
            go_wp2_with (first
              | (go_at_call 41; refine hfiles.mono ?_; rintro e w5 ⟨v5, xs, rfl, hrise, hfind, o5, hb5⟩; obtain rfl : xs = K := rise_eq xs K hrise HK.out.2.2.1 (fun q => (hfind q).trans (HK.out.2.2.2 q).symm); obtain ⟨A5, c5, rfl, hR5⟩ := rdF_of_own o5; have hok5 := treOk_impl A5 c5 xs w5 hR5 (by omega) HTK.out; rw [HOK.out] at hok5; have HB5 : Hid (Below w.heap.size w w5) := hb.trans (hb5.mono hsz); clear hfiles hrise hfind o5 hR5 hb5)
              | (go_at_call 14; refine hok5.mono ?_; rintro e w6 ⟨rfl, hb6⟩; clear hok5))
            go_ret2
            refine ⟨_, by rw [HN.out]; rfl, ?_, HB5.out.trans (hb6.mono HB5.out.size)⟩
            unfold turnL; rw [HN.out]
            exact World.ownsRow_nil _ _ _ _
          | true =>
            have HN : Hid (turnT L E = some K) := (show turnT L E = some K by rw [HDK.out, hkK]; rfl)
            have HOK : Hid (okT K = true) := hkK
            clear hkK
            go_wp2_with (first
              | (go_at_call 41; refine hfiles.mono ?_; rintro e w5 ⟨v5, xs, rfl, hrise, hfind, o5, hb5⟩; obtain rfl : xs = K := rise_eq xs K hrise HK.out.2.2.1 (fun q => (hfind q).trans (HK.out.2.2.2 q).symm); obtain ⟨A5, c5, rfl, hR5⟩ := rdF_of_own o5; have hok5 := treOk_impl A5 c5 xs w5 hR5 (by omega) HTK.out; rw [HOK.out] at hok5; have HB5 : Hid (Below w.heap.size w w5) := hb.trans (hb5.mono hsz); have HO5 : Hid (w5.ownsRow w.heap.size 51 2 (.slice A5 xs.length c5) xs.length (cellsF xs)) := ownsUpF o5 hsz; clear hfiles hrise hfind o5 hR5 hb5)
              | (go_at_call 14; refine hok5.mono ?_; rintro e w6 ⟨rfl, hb6⟩; clear hok5))
            go_ret2
            refine ⟨_, by rw [HN.out]; rfl, ?_, HB5.out.trans (hb6.mono HB5.out.size)⟩
            unfold turnL; rw [HN.out]
            exact ownsUnder HO5.out hb6 (Nat.le_refl _)
end Go.Proofs.Ytbceegonaomblaa.W
