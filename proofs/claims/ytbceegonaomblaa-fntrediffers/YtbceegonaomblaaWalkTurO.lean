
/-
  A map of files, told in the order of its paths: the iterator that the program makes (for every loop body that leaves maps and rows of texts as they are), and the row that it gathers. Maps of at most 1048576 entries.
-/
import Derived.RangeFuncNested
import Derived.RangeFuncBound
import Derived.RangeFuncCalls
import Derived.RangeFuncLeaves
import Derived.RangeFuncBox
import Derived.Shelf.Abstract
import Derived.Shelf.RegionOpen
import Derived.WalkKit
import Derived.OwnWalkIn
import Derived.TacticsInMore
import Derived.LoopNIn
import Derived.LoopIn
import Derived.Maps.AppendAt
import Derived.Maps.OwnIn
import Derived.Test.YtbceegonaomblaaIter
import Derived.Test.YtbceegonaomblaaWalkTurM
namespace Go.Proofs.Ytbceegonaomblaa.W
open Go.RowKit Go.Shelf Go.Proofs.Ytbceegonaomblaa.M Go.Maps Go.Sort Go.MapKept Go.ChangeMaps
attribute [local go_sem] Oper.semAt_some
set_option linter.unusedVariables false

/-- what a loop body must leave as it is: maps, and blocks of whatever else than files and rows of files -/
def keptO : Obj → Bool
  | .cells _ t _ => decide (t ≠ 51) && decide (t ≠ 23)
  | o => o.isWalk
structure KpF (W W' : World) : Prop where
  size : W.heap.size ≤ W'.heap.size
  same : ∀ (k : Nat) (o : Obj), W.heap[k]? = some o → keptO o = true → W'.heap[k]? = some o
theorem kpF_t {A B C : World} (h : KpF A B) (k : KpF B C) : KpF A C := ⟨Nat.le_trans h.size k.size, fun i o hi ho => k.same i o (h.same i o hi ho) ho⟩
theorem kpF_b (W : World) (l : Nat) (o o' : Obj) (hl : W.heap[l]? = some o) (h1 : o.isCells = false) (h2 : o.isWalk = false) : KpF W (W.putObj l o') := by
  refine ⟨by simp [World.putObj], fun k o2 hk ho => ?_⟩
  by_cases hkl : k = l
  · subst hkl
    obtain rfl : o2 = o := by rw [hk] at hl; exact Option.some.inj hl
    cases o2 <;> simp_all [keptO, Obj.isCells, Obj.isWalk]
  · exact (World.putObj_heap_other (by omega)).trans hk
theorem KpF.map {W W' : World} (h : KpF W W') {P : Program} {k : TypeId} {R : Value → Option (DataW Unit × List MemPlace)} {b n : Nat} {D : DataW Unit} (ho : W.ownsMap P k R b n D) : W'.ownsMap P k R b n D := by
  obtain ⟨es, clock, hb, Ft, hs, hD⟩ := ho
  exact ⟨es, clock, h.same b _ hb rfl, Ft, hs, hD⟩
theorem KpF.row {W W' : World} (h : KpF W W') {base n : Nat} {v : Value} {xs : List Value} (ho : W.ownsRow base 9 1 v n xs) : W'.ownsRow base 9 1 v n xs := by
  refine ⟨ho.1, ?_⟩
  rcases ho.2 with h1 | ⟨g, cap, cur, h1, h2, h3, h4⟩
  · exact .inl h1
  · exact .inr ⟨g, cap, cur, h1, h2, h.same g _ h3 (by simp [keptO]), h4⟩

/-- a map's keys: each once, and just those that it has -/
theorem keys_iff {P : Program} {k : TypeId} {R : Value → Option (DataW Unit × List MemPlace)} {w : World} {b n : Nat} {D : DataW Unit} (hown : w.ownsMap P k R b n D) (K : Keyed P k) (hk : P.underlying k = some .string) : (strKeys D).Nodup ∧ ∀ x, x ∈ strKeys D ↔ Maps.has D (.string x) = true := by
  obtain ⟨es, hD, hpw, _⟩ := hown.entries K
  obtain ⟨es', hD', hko⟩ := hown.keysOf
  obtain rfl : es = es' := by rw [hD] at hD'; simpa using hD'
  subst hD
  have hs : ∀ p ∈ es, ∃ x, p.1 = .string x := fun p hp => by obtain ⟨v, hv⟩ := hko p hp; obtain ⟨x, _, hx, _⟩ := Maps.keyOf_str hk hv; exact ⟨x, hx⟩
  constructor
  · show (es.map fun p => strOf p.1).Nodup
    refine List.pairwise_map.2 (hpw.imp_of_mem fun {p q} hp' hq' hne e => hne ?_)
    obtain ⟨a, ha⟩ := hs p hp'
    obtain ⟨b, hb⟩ := hs q hq'
    rw [ha, hb] at e ⊢
    exact congrArg _ e
  · intro x
    rw [Maps.has_eq, List.any_eq_true]
    show x ∈ es.map (fun p => strOf p.1) ↔ _
    rw [List.mem_map]
    constructor
    · rintro ⟨p, hp, e⟩
      obtain ⟨a, ha⟩ := hs p hp
      refine ⟨p, hp, ?_⟩
      rw [ha] at e ⊢
      obtain rfl : a = x := e
      simp [Lit.sameKey]
    · rintro ⟨p, hp, e⟩
      obtain ⟨a, ha⟩ := hs p hp
      refine ⟨p, hp, ?_⟩
      rw [ha] at e ⊢
      simpa [Lit.sameKey, strOf] using e

/-- the files that a map tells, in the order of their paths -/
def filesOf (f : ByteArray → Option ByteArray) (ks : List (List UInt8)) : List TF := ks.map fun k => ⟨⟨k.toArray⟩, (f ⟨k.toArray⟩).getD ByteArray.empty⟩
theorem mk_list (q : ByteArray) : (⟨q.data.toList.toArray⟩ : ByteArray) = q := by cases q; simp
theorem findF_filesOf (f : ByteArray → Option ByteArray) (ks : List (List UInt8)) (q : ByteArray) : findF (filesOf f ks) q = if q.data.toList ∈ ks then some ((f q).getD ByteArray.empty) else none := by
  induction ks with
  | nil => simp [filesOf, findF]
  | cons k l ih =>
    show (if (⟨k.toArray⟩ : ByteArray) = q then _ else findF (filesOf f l) q) = _
    by_cases h : (⟨k.toArray⟩ : ByteArray) = q
    · subst h; simp
    · rw [if_neg h, ih]
      have h2 : ¬ q.data.toList = k := fun e => h (by rw [← e])
      simp [h2]
theorem filesOf_ok {D : DataW Unit} {f : ByteArray → Option ByteArray} {ks ss : List (List UInt8)} (hnd : (strKeys D).Nodup) (hm : ∀ x, x ∈ strKeys D ↔ Maps.has D (.string x) = true) (hf : mapF D f) (hp : ss.Perm (strKeys D)) (hk : ks = ss.mergeSort fun x y => decide (x ≤ y)) :
    RiseF (filesOf f ks) ∧ (∀ q, findF (filesOf f ks) q = f q) ∧ (∀ k ∈ ks, (f ⟨k.toArray⟩).isSome = true) ∧ ks.length = (strKeys D).length := by
  have hkp : ks.Perm (strKeys D) := by rw [hk]; exact (List.mergeSort_perm _ _).trans hp
  have hmem : ∀ x, x ∈ ks ↔ (f ⟨x.toArray⟩).isSome = true := fun x => by
    rw [hkp.mem_iff, hm x, ← (hf ⟨x.toArray⟩).1]
  have hpw : ks.Pairwise fun x y => x < y := by
    have h1 : ks.Pairwise fun x y => x ≤ y := by
      rw [hk]
      have := List.pairwise_mergeSort (le := fun x y : List UInt8 => decide (x ≤ y)) (fun a b c h1 h2 => by simp only [decide_eq_true_eq] at *; exact List.le_trans h1 h2) (fun a b => by simp only [Bool.or_eq_true, decide_eq_true_eq]; exact List.le_total a b) ss
      exact this.imp fun h => by simpa using h
    have h2 : ks.Nodup := hkp.nodup_iff.2 hnd
    refine (h1.and h2).imp fun {a b} h => ?_
    rcases tri a b with h3 | h3 | h3
    · exact h3
    · exact absurd h3 h.2
    · exact absurd (List.le_antisymm h.1 (List.le_of_lt h3)) h.2
  refine ⟨?_, fun q => ?_, fun k hk' => (hmem k).1 hk', hkp.length_eq⟩
  · unfold RiseF filesOf
    rw [List.pairwise_map]
    exact hpw.imp fun h => h
  · rw [findF_filesOf]
    have := hmem q.data.toList
    rw [mk_list] at this
    by_cases h : q.data.toList ∈ ks
    · rw [if_pos h]
      cases e : f q with
      | none => rw [e] at this; simp [h] at this
      | some t => rfl
    · rw [if_neg h]
      cases e : f q with
      | none => rfl
      | some t => rw [e] at this; simp [h] at this

/-- how a file is handed to a loop body: its path, and itself -/
def encsF (x : TF) : Array Value := #[.string x.pa, .agg #[.string x.pa, .string x.by_]]

theorem sortsT (m : Nat) : AnyZ.SortsIn Try.prog Try.sortedT_ren Fence.wide m :=
  ⟨fun blk off cap ss W hH hblk hsz => callsIn_wide.2 (AnyM.slices_Sort_string Try.sortT blk off cap ss W hH hblk hsz),
   fun p cap W => callsIn_wide.2 (AnyM.slices_Sort_string_none Try.sortT p cap W)⟩
theorem keysCall (mb : Option Nat) (W : World) : CallsIn Fence.wide 5 Try.prog 69 #[.map mb] W fun e w' => e = .returned (.func (.func 83) #[] #[.pointer (some ⟨W.heap.size, 0, none⟩)]) ∧ w' = W.alloc (.cells #[.map mb] 60) :=
  AnyZ.keys_in Try.keysT Fence.wide 5 trivial rfl mb W
set_option maxHeartbeats 1000000 in
theorem sortedCall (b nn : Nat) (D0 : DataW Unit) (w : World) (hown : w.ownsMap Try.prog 9 fileElem b nn D0) (hmax : Maps.size D0 ≤ maxLen) (hbytes : Maps.size D0 * 16 ≤ 140737488355328) :
    CallsIn Fence.wide 5 Try.prog 68 #[.func (.func 83) #[] #[.pointer (some ⟨w.heap.size, 0, none⟩)]] (w.alloc (.cells #[.map (some b)] 60)) fun e w' => ∃ (v : Value) (ss : List (List UInt8)), e = .returned v ∧ ss.Perm (strKeys D0) ∧
      w'.ownsRow (w.alloc (.cells #[.map (some b)] 60)).heap.size 9 1 v ss.length ((ss.mergeSort (fun x y => decide (x ≤ y))).map encStr) ∧ (v = .slice none 0 0 ↔ ss = []) ∧ Below (w.alloc (.cells #[.map (some b)] 60)).heap.size (w.alloc (.cells #[.map (some b)] 60)) w' := by
  have hbl := hown.lt
  have hseq : SeqGives Fence.wide 2 Try.prog 83 #[.pointer (some ⟨w.heap.size, 0, none⟩)] encStr (fun ss => ss.Perm (strKeys D0)) (Maps.size D0) (w.alloc (.cells #[.map (some b)] 60)) :=
    AnyZ.keys_gives (ρ := Try.keysT_ren) { Try.keysT with } Fence.wide _ trivial rfl (by omega) w.heap.size b nn D0 _ (by simp) (by simp) (by
      obtain ⟨es, clock, hb, Ft, hs, hD⟩ := hown
      exact ⟨es, clock, (Below.heap_alloc _ _ b hbl).trans hb, Ft, hs, hD⟩)
  exact AnyZ.sorted_in Try.sortedT Fence.wide 5 trivial trivial trivial trivial rfl (by omega) (sortsT _) (enters_of Try.func50 (by kernel_rfl) rfl) 83 #[.pointer (some ⟨w.heap.size, 0, none⟩)] trivial (enters_of Try.func83 (by kernel_rfl) rfl) _ _ hmax hbytes _ hseq

theorem row_form {w : World} {base n : Nat} {v : Value} {xs : List Value} (h : w.ownsRow base 9 1 v n xs) : ∃ A c, v = .slice A n c ∧ ∀ j (hj : j < xs.length), ∃ g, A = some ⟨g, 0, none⟩ ∧ g < w.heap.size ∧ w.cell? ⟨g, j, none⟩ = some xs[j] := by
  rcases h.2 with ⟨h1, h2⟩ | ⟨g, cap, cur, h1, h2, h3, h4⟩
  · subst h1; subst h2
    exact ⟨none, 0, rfl, fun j hj => by have := h.1; omega⟩
  · subst h1
    refine ⟨some ⟨g, 0, none⟩, cap, rfl, fun j hj => ⟨g, rfl, (Array.getElem?_eq_some_iff.1 h3).1, ?_⟩⟩
    have := h.cellAt j (by rw [← h.1]; exact hj)
    rw [this]; simp
theorem KpF.refl (W : World) : KpF W W := ⟨Nat.le_refl _, fun _ _ h _ => h⟩

set_option maxHeartbeats 2000000 in
set_option maxRecDepth 100000 in
theorem order_stops (B b nn : Nat) (D : DataW Unit) (f : ByteArray → Option ByteArray) (w : World) (hB : B < w.heap.size) (hc : w.heap[B]? = some (.cells #[.map (some b)] 60 (0, 0))) (hown : w.ownsMap Try.prog 9 fileElem b nn D) (hf : mapF D f) (hn : nn ≤ 1048576) :
    SeqStopsK Fence.wide 6 Try.prog 67 #[.pointer (some ⟨B, 0, none⟩)] encsF KpF (fun xs => RiseF xs ∧ (∀ q, findF xs q = f q)) (fun _ => True) nn w := fun l J Jx W hW hJ hJx hY h0 => by
  have hcW : W.heap[B]? = some (.cells #[.map (some b)] 60 (0, 0)) := (hW.block B hB).trans hc
  have hownW : W.ownsMap Try.prog 9 fileElem b nn D := by
    have hbl := hown.lt
    obtain ⟨es, clock, hb, Ft, hs, hD⟩ := hown
    exact ⟨es, clock, (hW.block b hbl).trans hb, Ft, hs, hD⟩
  have law := Maps.string_keyed (P := Try.prog) Try.underlying9
  obtain ⟨hnd, hmem⟩ := keys_iff hownW law Try.underlying9
  have hsize := hownW.size_le
  have hm0 : Maps.size D ≤ maxLen := by unfold maxLen; omega
  have hcell : W.cell? ⟨B, 0, none⟩ = some (.map (some b)) := by simp [World.cell?, hcW]
  have cK := keysCall (some b) W
  have cS := sortedCall b nn D W hownW hm0 (by omega)
  have h1 : 1 ≤ 6 := by omega
  have hfK : Fence.wide.fn 69 := trivial
  have hfS : Fence.wide.fn 68 := trivial
  have HOW : Hid (W.ownsMap Try.prog 9 fileElem b nn D) := hownW
  have HCW : Hid (W.heap[B]? = some (.cells #[.map (some b)] 60 (0, 0))) := hcW
  refine callsIn_of_wp Try.func67 rfl trivial ?_ rfl
  simp only [Try.ntmps67, List.size_toArray, List.length_cons, List.length_nil, Nat.reduceAdd, Nat.reduceSub, Array.replicate_succ, Array.replicate_zero, List.push_toArray, List.append_toArray, List.nil_append, List.cons_append]
  gi_wp2_with (first
    | (gi_at_call 69; refine cK.mono ?_; rintro e w' ⟨rfl, rfl⟩; clear cK)
    | (gi_at_call 68; refine cS.mono ?_; rintro e w2 ⟨v, ss, rfl, hS, hrow, hnil, hb⟩; obtain ⟨A, cA, rfl, hA⟩ := row_form hrow; have HS : Hid (ss.Perm (strKeys D)) := hS; have HROW : Hid (w2.ownsRow (W.alloc (.cells #[.map (some b)] 60)).heap.size 9 1 (.slice A ss.length cA) ss.length ((ss.mergeSort (fun x y => decide (x ≤ y))).map encStr)) := hrow; have HBL : Hid (Below W.heap.size W w2) := (show Below W.heap.size W w2 from ((Below.refl _ _).alloc (Nat.le_refl _) _).trans (hb.mono (by simp))); clear cS hA hb hrow hS hnil))
  obtain ⟨ks, hks⟩ : ∃ ks, ks = ss.mergeSort fun x y => decide (x ≤ y) := ⟨_, rfl⟩
  obtain ⟨hrise, hfind, hsome, hlen⟩ := filesOf_ok hnd hmem hf HS.out hks
  have hls : ss.length = ks.length := by rw [hks, List.length_mergeSort]
  have HKS : Hid (w2.ownsRow (W.alloc (.cells #[.map (some b)] 60)).heap.size 9 1 (.slice A ss.length cA) ss.length (ks.map encStr)) := (show World.ownsRow _ _ _ _ _ _ _ from by rw [hks]; exact HROW.out)
  have hkn : ks.length ≤ nn := by
    have : (strKeys D).length = Maps.size D := by
      obtain ⟨es, hD, _⟩ := hownW.entries law
      rw [hD]; show (es.map _).length = _; rw [List.length_map, Maps.size_eq]
    omega
  have hJ2 : J [] w2 := hJ [] W w2 none h0 ⟨HBL.out.os, HBL.out.tape, HBL.out.output, HBL.out.size, fun k hk _ => HBL.out.block k hk⟩ (fun r e => by cases e)
  have HM2 : Hid (w2.ownsMap Try.prog 9 fileElem b nn D) := (show World.ownsMap _ _ _ _ _ _ _ from by
    obtain ⟨es, clock, hb, Ft, hs, hD⟩ := HOW.out
    exact ⟨es, clock, (HBL.out.block b HOW.out.lt).trans hb, Ft, hs, hD⟩)
  have HC2 : Hid (w2.heap[B]? = some (.cells #[.map (some b)] 60 (0, 0))) := (HBL.out.block B (by have := hW.size; omega)).trans HCW.out
  have hkl : ∀ k ∈ ks, k.length ≤ maxLen := fun k hk => by
    have h9 : k ∈ ss := by rw [hks] at hk; exact (List.mergeSort_perm _ _).mem_iff.1 hk
    exact strKeys_le HOW.out Try.underlying9 k (HS.out.mem_iff.1 h9)
  rw [hls] at HKS ⊢
  have hk64 : ks.length ≤ 1048576 := by omega
  have HKN : Hid (ks.length ≤ nn) := hkn
  clear hks HROW HS hls hcell hownW hcW h0 hlen hsize hm0 hnd hmem hkn
  gi_wp2
  gi_loopw [9] (fun iv wr => ∃ j : Nat, j ≤ ks.length ∧ iv = .int .i64 j ∧ J ((filesOf f ks).take j) wr ∧ KpF w2 wr) (fun i _ => ks.length - (RowKit.intOf i).toNat)
  case atStart => exact ⟨0, Nat.zero_le _, rfl, hJ2, KpF.refl _⟩
  case round =>
    obtain ⟨j, hj, rfl, hJr, hkp⟩ := hrel
    by_cases hlt : j < ks.length
    · have hrowr := hkp.row HKS.out
      obtain ⟨A', c', e', hA⟩ := row_form hrowr
      cases e'
      obtain ⟨g, rfl, hgl, hgc⟩ := hA j (by simpa using hlt)
      have hownr := hkp.map HM2.out
      have hBr : wr.cell? ⟨B, 0, none⟩ = some (.map (some b)) := by
        have := hkp.same B _ HC2.out (by simp [keptO])
        simp [World.cell?, this]
      have hin : ks[j] ∈ ks := List.getElem_mem hlt
      have hso := hsome _ hin
      have hkeyl := hkl _ hin
      have HTK : Hid ((filesOf f ks).take (j + 1) = (filesOf f ks).take j ++ [⟨⟨ks[j].toArray⟩, (f ⟨ks[j].toArray⟩).getD ByteArray.empty⟩]) := (show _ = _ by rw [List.take_succ_eq_append_getElem (by simpa [filesOf] using hlt)]; simp [filesOf])
      simp only [List.getElem_map, encStr] at hgc
      obtain ⟨k, hk⟩ : ∃ k, ks[j] = k := ⟨_, rfl⟩
      rw [hk] at hgc hso hkeyl HTK
      obtain ⟨t, ht⟩ := Option.isSome_iff_exists.1 hso
      rw [ht] at HTK
      have hat := (hf ⟨k.toArray⟩).2 t ht
      have hkey : keyOf Try.prog 9 (.string ⟨k.toArray⟩) = some (.string (⟨k.toArray⟩ : ByteArray).data.toList) := Go.WideMaps.keyOf_string_mk Try.underlying9 (by simpa [ByteArray.size] using hkeyl)
      obtain ⟨v9, ps9, hrun, hv9⟩ := hownr.lookup law Try.underlying60 (zeroF wr) (zd := .agg [.lit (.string []), .lit (.string [])]) (fileElem_mk ByteArray.empty ByteArray.empty) hkey
      obtain ⟨s9, t9, rfl, hz9⟩ := fileElem_inv hv9
      rw [hat] at hz9
      have e1 : s9 = ⟨k.toArray⟩ := by
        have h9 := congrArg Prod.fst hz9
        simp only [DataW.agg.injEq, List.cons.injEq, DataW.lit.injEq, Lit.string.injEq] at h9
        exact (pa_eq h9.1).symm
      have e2 : t9 = t := by
        have h9 := congrArg Prod.fst hz9
        simp only [DataW.agg.injEq, List.cons.injEq, DataW.lit.injEq, Lit.string.injEq] at h9
        exact (pa_eq h9.2.1).symm
      subst e1; subst e2
      have hlenp : ((filesOf f ks).take j).length < nn := by have := HKN.out; simp [filesOf]; omega
      obtain ⟨fn, tmps, assign, body, hy, hR⟩ := hY _ ⟨⟨k.toArray⟩, t9⟩ wr hJr hlenp
      dsimp only [encsF] at hy
      clear hv9 hat hz9 hso hin hA hkey hlenp hgl ht
      gi_wp2
      refine hR.mono ?_
      rintro e W3 (⟨rfl, hJ3, hk3⟩ | ⟨rfl, hJx3⟩)
      · gi_wp2
        go_roundw
        case rel => exact ⟨j + 1, by omega, by go_num, by rw [HTK.out]; exact hJ3, kpF_t hkp hk3⟩
        case measure => simp [RowKit.intOf]; omega
      · gi_wp2
        refine bodyPost_ret (results_none rfl _ _ _) rfl ?_
        exact ⟨⟨_, rfl⟩, .inr ⟨_, trivial, hJx3⟩⟩
    · gi_wp2
      go_end0
      obtain rfl : j = ks.length := by omega
      have e9 : (filesOf f ks).take ks.length = filesOf f ks := List.take_of_length_le (by simp [filesOf])
      rw [e9] at hJr
      exact ⟨⟨_, rfl⟩, .inl ⟨filesOf f ks, ⟨hrise, hfind⟩, hJr⟩⟩

set_option maxHeartbeats 400000 in
theorem inOrder_any (b : Nat) (w : World) :
    Calls Try.prog 59 #[.map (some b)] w fun e w' => e = .returned (.func (.func 67) #[] #[.pointer (some ⟨w.heap.size, 0, none⟩)]) ∧ w.alloc (.cells #[.map (some b)] 60) = w' := by
  go_enter Try.func59, Try.ntmps59
  go_wp2
  go_ret
  exact ⟨rfl, rfl⟩
end Go.Proofs.Ytbceegonaomblaa.W
