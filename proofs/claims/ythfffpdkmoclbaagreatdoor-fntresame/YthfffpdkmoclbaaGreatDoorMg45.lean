/-
  A tree's texts, gathered by the program: 'put' and 'leaf' of what is laid, 'filesBehind'. Texts of at most 4194303 bytes.
  The walks of strings.Builder's copyCheck, WriteString and WriteByte in this program. A builder whose text stays below 1000000 bytes.
  The walks of the program's (sheetObject).text, of writeObject at a sheet, and of ObjSheet. At most 1048576 entries, names of at most 1048576 bytes.
-/
import Derived.Test.YthfffpdkmoclbaaGreatDoorMg17
import Derived.Test.YthfffpdkmoclbaaGreatDoorMg40
import Derived.Test.YthfffpdkmoclbaaGreatDoorMg01
import Derived.Lib.Builder
import Derived.Lib.AppendStr
import Derived.Shelf.Strings.Builder1
import Derived.Below
import Derived.OwnWalk
import Derived.Test.YthfffpdkmoclbaaGreatDoorMg14
import Derived.Test.YthfffpdkmoclbaaGreatDoorMg25
import Derived.Test.YthfffpdkmoclbaaGreatDoorMg02
namespace Go.Proofs.YthfffpdkmoclbaaGreatDoor.W
open Go.RowKit Go.Proofs.YthfffpdkmoclbaaGreatDoor.M
set_option linter.unusedVariables false

/-- what is laid so far lies in a block: its texts -/
structure Lay (w : World) (lb : Nat) (v : Value) (T : List ByteArray) : Prop where
  cell : w.cell? ⟨lb, 0, none⟩ = some v
  fz : w.frozen? ⟨lb, 0, none⟩ = false
  row : w.ownsRow (lb + 1) 9 1 v T.length (strs (sL T))
theorem Lay.lt {w : World} {lb : Nat} {v : Value} {T : List ByteArray} (h : Lay w lb v T) : lb < w.heap.size := World.block_lt_of_cell? _ _ h.cell
theorem Lay.off {w : World} {lb : Nat} {v : Value} {T : List ByteArray} (h : Lay w lb v T) : v.ownBlock ≠ some lb := fun e => by
  have := (h.row.lt lb e).1
  omega
/-- all is as it was, but what is laid -/
structure Fr (w w' : World) (lb : Nat) (v v' : Value) : Prop where
  os : w'.os = w.os
  tape : w'.tape = w.tape
  output : w'.output = w.output
  size : w.heap.size ≤ w'.heap.size
  block : ∀ k, k < w.heap.size → k ≠ lb → v.ownBlock ≠ some k → w'.heap[k]? = w.heap[k]?
  own : v'.ownBlock = v.ownBlock ∨ ∃ g, v'.ownBlock = some g ∧ w.heap.size ≤ g
theorem Fr.trans {w w' w'' : World} {lb : Nat} {v v' v'' : Value} (h : Fr w w' lb v v') (k : Fr w' w'' lb v' v'') : Fr w w'' lb v v'' := by
  refine ⟨k.os.trans h.os, k.tape.trans h.tape, k.output.trans h.output, Nat.le_trans h.size k.size, fun i hi h1 h2 => ?_, ?_⟩
  · refine (k.block i (Nat.lt_of_lt_of_le hi h.size) h1 (fun e => ?_)).trans (h.block i hi h1 h2)
    rcases h.own with ho | ⟨g, ho, hg⟩
    · exact h2 (ho ▸ e)
    · rw [ho] at e
      simp at e
      omega
  · rcases k.own with ko | ⟨g, ko, hg⟩
    · rcases h.own with ho | ⟨g, ho, hg⟩
      · exact .inl (ko.trans ho)
      · exact .inr ⟨g, ko.trans ho, hg⟩
    · exact .inr ⟨g, ko, Nat.le_trans h.size hg⟩
theorem Fr.of {w w' : World} {lb : Nat} {v : Value} (h : Below w.heap.size w w') : Fr w w' lb v v := ⟨h.os, h.tape, h.output, h.size, fun k hk _ _ => h.block k hk, .inl rfl⟩
theorem Lay.below {w w' : World} {lb : Nat} {v : Value} {T : List ByteArray} (h : Lay w lb v T) (hb : Below w.heap.size w w') : Lay w' lb v T := ⟨(hb.cell (p := ⟨lb, 0, none⟩) h.lt).trans h.cell, (hb.frozen (p := ⟨lb, 0, none⟩) h.lt).trans h.fz, ownsUnder h.row hb (Nat.le_refl _)⟩
/-- a slice of files apart from what is laid -/
def SrcF (w : World) (lb : Nat) (A : Option Addr) (L : List TF) : Prop := RdF w.heap.size w A L ∧ ∀ b o, A = some ⟨b, o, none⟩ → b < lb ∨ (lb < b ∧ ∃ cs, w.heap[b]? = some (.cells cs 98))
theorem own_typed {w : World} {b n z g : Nat} {e : TypeId} {v : Value} {xs : List Value} (h : w.ownsRow b e z v n xs) (hg : v.ownBlock = some g) : b ≤ g ∧ ∃ cs, w.heap[g]? = some (.cells cs e) := by
  rcases h.2 with ⟨rfl, _⟩ | ⟨g1, c1, cur1, rfl, h1, h2, _⟩
  · simp [Value.ownBlock] at hg
  · obtain rfl : g1 = g := by simpa [Value.ownBlock] using hg
    exact ⟨h1, cur1, h2⟩
theorem SrcF.off {w : World} {lb : Nat} {A : Option Addr} {L : List TF} {v : Value} {T : List ByteArray} (h : SrcF w lb A L) (hl : Lay w lb v T) : ∀ b o, A = some ⟨b, o, none⟩ → b ≠ lb ∧ v.ownBlock ≠ some b := fun b o e => by
  rcases h.2 b o e with h1 | ⟨h1, cs, h2⟩
  · exact ⟨by omega, fun e9 => by have := (own_typed hl.row e9).1; omega⟩
  · refine ⟨by omega, fun e9 => ?_⟩
    obtain ⟨_, cs', h3⟩ := own_typed hl.row e9
    rw [h2] at h3
    cases h3
theorem SrcF.fr {w w' : World} {lb : Nat} {A : Option Addr} {L : List TF} {v v' : Value} {T : List ByteArray} (h : SrcF w lb A L) (hl : Lay w lb v T) (f : Fr w w' lb v v') : SrcF w' lb A L := by
  have ho := h.off hl
  refine ⟨fun j hj => ?_, fun b o e => ?_⟩
  · obtain ⟨b, o, e, hb, c1, c2⟩ := h.1 j hj
    obtain ⟨h1, h2⟩ := ho b o e
    have hk := f.block b hb h1 h2
    exact ⟨b, o, e, Nat.lt_of_lt_of_le hb f.size, (World.cell?_of_block (a := ⟨b, _, none⟩) hk).trans c1, (World.cell?_of_block (a := ⟨b, _, none⟩) hk).trans c2⟩
  · obtain ⟨h1, h2⟩ := ho b o e
    rcases h.2 b o e with h3 | ⟨h3, cs, h4⟩
    · exact .inl h3
    · refine .inr ⟨h3, cs, (f.block b ?_ h1 h2).trans h4⟩
      rcases Nat.lt_or_ge b w.heap.size with h5 | h5
      · exact h5
      · rw [Array.getElem?_eq_none h5] at h4; cases h4
theorem SrcF.below {w w' : World} {lb : Nat} {A : Option Addr} {L : List TF} (h : SrcF w lb A L) (hb : Below w.heap.size w w') : SrcF w' lb A L := by
  refine ⟨h.1.up hb, fun b o e => ?_⟩
  rcases h.2 b o e with h3 | ⟨h3, cs, h4⟩
  · exact .inl h3
  · refine .inr ⟨h3, cs, (hb.block b ?_).trans h4⟩
    rcases Nat.lt_or_ge b w.heap.size with h5 | h5
    · exact h5
    · rw [Array.getElem?_eq_none h5] at h4; cases h4
theorem own_slice {w : World} {b n z : Nat} {e : TypeId} {v : Value} {xs : List Value} (h : w.ownsRow b e z v n xs) : ∃ A n1 k1, v = .slice A n1 k1 := by
  rcases h.2 with ⟨e5, _⟩ | ⟨_, _, _, e5, _⟩ <;> exact ⟨_, _, _, e5⟩
/-- a row of one's own of another type is kept -/
theorem own_fr {w w' : World} {lb b n z : Nat} {e : TypeId} {u v v' : Value} {T : List ByteArray} {xs : List Value} (h : w.ownsRow b e z u n xs) (hb : lb < b) (he : e ≠ 9) (hl : Lay w lb v T) (f : Fr w w' lb v v') : w'.ownsRow b e z u n xs := by
  refine ⟨h.1, ?_⟩
  rcases h.2 with h2 | ⟨g1, c1, cur1, hu, h1, h2, h3⟩
  · exact .inl h2
  · have hlt : g1 < w.heap.size := by
      rcases Nat.lt_or_ge g1 w.heap.size with h5 | h5
      · exact h5
      · rw [Array.getElem?_eq_none h5] at h2; cases h2
    have hk := f.block g1 hlt (by omega) (fun e9 => by
      obtain ⟨_, cs', h4⟩ := own_typed hl.row e9
      rw [h2] at h4
      cases h4
      exact he rfl)
    exact .inr ⟨g1, c1, cur1, hu, h1, hk.trans h2, h3⟩
set_option maxHeartbeats 2000000 in
set_option maxRecDepth 100000 in
theorem putL_any (lb : Nat) (v : Value) (T : List ByteArray) (s : ByteArray) (w : World) (hl : Lay w lb v T) (hs : s.size ≤ 4194304) (hT : T.length ≤ 100000000) :
    Calls Tryz.prog 99 #[.pointer (some ⟨lb, 0, none⟩), .string s] w fun e w' => e = .returned (.int .i64 (idOfN s.data.toList)) ∧ ∃ v', Lay w' lb v' (T ++ [s]) ∧ Fr w w' lb v v' := by
  obtain ⟨i0, hi, hz0, hz1, hz2⟩ := info_parts infoSt
  have c0 := hl.cell
  have hlt := hl.lt
  have HLY : Hid (Lay w lb v T) := hl
  have c1 : (w.alloc (.cells #[.string s] 9)).cell? ⟨lb, 0, none⟩ = some v := (World.cell?_alloc_lt _ _ _ hlt).trans c0
  go_enter Tryz.func99, Tryz.ntmps99
  go_wp2_with (first
    | (at_builtin; refine wpL_app rfl _ _ 51 rfl (lb + 1) 9 i0 (.string ByteArray.empty) 1 16 Tryz.underlying51 hi hz0 hz1 hz2 rfl (by decide) v T.length (strs (sL T)) rfl (HLY.out.row.alloc _) ⟨w.heap.size, 0, none⟩ 1 1 [.string s] rfl rfl (cells_new w #[.string s] 9) (by simp [Value.oneCell']) (by unfold maxLen; omega) (by omega) (by simp; omega) ?_; intro v5 w5 O5 g5 b5; obtain ⟨A5, n5, k5, rfl⟩ := own_slice O5; have c5 : w5.cell? ⟨lb, 0, none⟩ = some v := (World.cell?_of_block (a := ⟨lb, 0, none⟩) (g5.block lb (by simp; omega) (fun e => HLY.out.off e.symm))).trans c1; have z5 : w5.frozen? ⟨lb, 0, none⟩ = false := (World.frozen?_of_block (a := ⟨lb, 0, none⟩) (g5.block lb (by simp; omega) (fun e => HLY.out.off e.symm))).trans (by have := ((Below.refl w.heap.size w).alloc (Nat.le_refl _) (.cells #[.string s] 9)).frozen (p := ⟨lb, 0, none⟩) hlt; exact this.trans HLY.out.fz))
    | (go_at_call 17; refine (idOf_impl s _ hs).mono ?_; rintro e w6 ⟨rfl, hw6⟩; subst hw6))
  go_ret
  have hz := g5.size
  simp only [World.size_alloc] at hz
  have hO : (w5.setCell ⟨lb, 0, none⟩ (.slice A5 n5 k5)).ownsRow (lb + 1) 9 1 (.slice A5 n5 k5) (T.length + 1) (strs (sL T) ++ [.string s]) := ownsRow_setCell_below O5 (a := ⟨lb, 0, none⟩) (by simp) _
  refine ⟨rfl, _, ⟨World.cell?_setCell_same _ _ _ c5, by simpa using z5, ?_⟩, ?_⟩
  · rw [sL_app, strs_app, strs_one, List.length_append]
    exact hO
  · refine ⟨?_, ?_, ?_, ?_, fun k hk h1 h2 => ?_, ?_⟩
    · exact g5.os
    · exact g5.tape
    · exact g5.output
    · simp; omega
    · refine (Below.heap_setCell _ _ _ _ (fun e => h1 e)).trans ?_
      refine (g5.block k (by simp; omega) (fun e => h2 e.symm)).trans ?_
      exact ((Below.refl w.heap.size w).alloc (Nat.le_refl _) (.cells #[.string s] 9)).block k hk
    · rcases b5 with b5 | b5
      · exact .inl b5
      · exact .inr ⟨_, b5, by simp⟩
theorem leaf7 (b : ByteArray) : (leafB b).size ≤ 7 := by
  by_cases h6 : b.size ≤ 6
  · rw [← leafB_yes b h6, ByteArray.size_append]
    show 1 + b.size ≤ 7
    omega
  · rw [← leafB_no b h6]
    show 0 ≤ 7
    omega
set_option maxHeartbeats 2000000 in
set_option maxRecDepth 100000 in
theorem leafL_any (lb : Nat) (v : Value) (T : List ByteArray) (p t : ByteArray) (w : World) (hl : Lay w lb v T) (ht : t.size ≤ 1048576) (hT : T.length ≤ 100000000) :
    Calls Tryz.prog 102 #[.pointer (some ⟨lb, 0, none⟩), .agg #[.string p, .string t]] w fun e w' => e = .returned (.int .i64 (idOfN (leafB t).data.toList)) ∧ ∃ v', Lay w' lb v' (T ++ [leafB t]) ∧ Fr w w' lb v v' := by
  have hs : (leafB t).size ≤ 4194304 := by have := leaf7 t; omega
  have HLY : Hid (Lay w lb v T) := hl
  obtain ⟨s, hse⟩ : ∃ s, leafB t = s := ⟨_, rfl⟩
  have HS : Hid (leafB t = s) := hse
  rw [hse] at hs ⊢
  clear hl hse
  go_enter Tryz.func102, Tryz.ntmps102
  go_wp2_with (first
    | (go_at_call 125; refine (leaf_impl t _ (by unfold maxLen; omega)).mono ?_; rw [HS.out]; rintro e w1 ⟨rfl, hb1⟩; have hB1 : Below w.heap.size w w1 := ((Below.refl _ w).alloc (Nat.le_refl _) _).trans (hb1.mono (by simp)); have HB1 : Hid (Below w.heap.size w w1) := hB1; clear hb1 hB1)
    | (go_at_call 99; refine (putL_any lb v T s _ (HLY.out.below HB1.out) hs hT).mono ?_; rintro e w2 ⟨rfl, v', hl2, hf2⟩))
  go_ret
  exact ⟨rfl, v', hl2, (Fr.of HB1.out).trans hf2⟩
theorem rest_on (s : ByteArray) (v W : World) (HB : Below v.heap.size v W) (hs : s.size ≤ 4194304) :
    Calls Tryz.prog 150 #[.string s] W fun e w' => e = .returned (.string ⟨(restL s.data.toList).toArray⟩) ∧ Below v.heap.size v w' :=
  (rest_impl s W hs).mono fun _ _ ⟨h1, h2⟩ => ⟨h1, HB.trans (h2.mono HB.size)⟩
theorem front_step (a : List UInt8) (L : List TF) (j : Nat) (h : j < L.length) (hs : ∀ x ∈ L.take j, fstF x = a) (hf : fstF L[j] = a) : ∀ x ∈ L.take (j + 1), fstF x = a := fun x hx => by
  rw [List.take_succ_eq_append_getElem h] at hx
  rcases List.mem_append.1 hx with h1 | h1
  · exact hs x h1
  · rw [List.mem_singleton.1 h1]; exact hf
theorem front_take (a : List UInt8) (L : List TF) (j : Nat) (hs : ∀ x ∈ L.take j, fstF x = a) (hn : ∀ h : j < L.length, fstF L[j] ≠ a) : frontF a L = L.take j := by
  have e : L = L.take j ++ L.drop j := (List.take_append_drop j L).symm
  unfold frontF
  conv => lhs; rw [e]
  rw [List.takeWhile_append_of_pos (fun x hx => decide_eq_true (hs x hx))]
  have : (L.drop j).takeWhile (fun x => decide (fstF x = a)) = [] := by
    by_cases h : j < L.length
    · rw [List.drop_eq_getElem_cons h, List.takeWhile_cons_of_neg (by simpa using hn h)]
    · rw [List.drop_eq_nil_of_le (by omega)]; rfl
  rw [this, List.append_nil]
set_option maxRecDepth 100000 in
set_option maxHeartbeats 4000000 in
theorem behind_any (A : Option Addr) (c : Nat) (L : List TF) (a : List UInt8) (w : World) (hL : RdF w.heap.size w A L) (hn : L.length ≤ 1048576) (ht : smallF 1048576 L) :
    Calls Tryz.prog 124 #[.slice A L.length c, .string ⟨a.toArray⟩] w fun e w' => (∃ v, e = .returned v ∧ w'.ownsRow w.heap.size 98 2 v (frontF a L).length (cellsF ((frontF a L).map rstF))) ∧ Below w.heap.size w w' := by
  obtain ⟨i0, hi, hz0, hz1, hz2⟩ := info_parts infoF
  have HL : Hid (RdF w.heap.size w A L) := hL
  have HT : Hid (smallF 1048576 L) := ht
  obtain ⟨s, hs⟩ : ∃ s, ByteArray.mk a.toArray = s := ⟨_, rfl⟩
  have HS : Hid (ByteArray.mk a.toArray = s) := hs
  rw [hs]
  clear hL ht hs
  go_enter Tryz.func124, Tryz.ntmps124
  go_wp2
  go_loopw [5, 10] (fun v iv wr => ∃ (j : Nat) (M : List TF), j ≤ L.length ∧ iv = .int .i64 j ∧ Hid (M = (L.take j).map rstF) ∧ Hid (∀ x ∈ L.take j, fstF x = a) ∧ M.length = j ∧ wr.ownsRow w.heap.size 98 2 v M.length (cellsF M) ∧ Below w.heap.size w wr) (fun _ i _ => L.length - (intOf i).toNat)
  case atStart => exact ⟨0, [], Nat.zero_le _, rfl, rfl, (show ∀ x ∈ L.take 0, fstF x = a from by simp), rfl, World.ownsRow_nil _ _ _ _, Below.refl _ _⟩
  case round =>
    obtain ⟨j, M, hj, rfl, HM, HF, hM, hown, hb⟩ := hrel
    have hsz := hb.size
    by_cases hlt : j < L.length
    · obtain ⟨b, o, rfl, hbl, c1, c2⟩ := (HL.out.below hb (Nat.le_refl _)) j hlt
      have hsm := HT.out _ (List.getElem_mem hlt)
      have est : (L.take (j + 1)).map rstF = (L.take j).map rstF ++ [rstF L[j]] := by rw [List.take_succ_eq_append_getElem hlt, List.map_append]; rfl
      rw [← HM.out] at est
      have hfn := front_step a L j hlt HF.out
      have hfe := front_take a L j HF.out
      obtain ⟨y, hy⟩ : ∃ y, L[j] = y := ⟨_, rfl⟩
      rw [hy] at c1 c2 hsm est hfn
      obtain ⟨q, t⟩ := y
      simp only at c1 c2 hsm
      obtain ⟨s1, s2⟩ := hsm
      obtain ⟨fq, hfq⟩ : ∃ fq, ByteArray.mk (firstL q.data.toList).toArray = fq := ⟨_, rfl⟩
      have HFQ : Hid (ByteArray.mk (firstL q.data.toList).toArray = fq) := hfq
      by_cases hfa : fstF ⟨q, t⟩ = a
      · have hfs : fq = s := by rw [← hfq, ← HS.out, ← hfa]; rfl
        subst hfs
        obtain ⟨rq, hrq⟩ : ∃ rq, ByteArray.mk (restL q.data.toList).toArray = rq := ⟨_, rfl⟩
        have HRQ : Hid (ByteArray.mk (restL q.data.toList).toArray = rq) := hrq
        have HE : Hid (M ++ [⟨rq, t⟩] = (L.take (j + 1)).map rstF) := (show _ = _ from by rw [est, ← hrq]; rfl)
        have HF2 : Hid (∀ x ∈ L.take (j + 1), fstF x = a) := hfn hfa
        have e1 : (fq.toList == fq.toList) = true := by simp
        clear est hy hfa hfq hrq HM hfn hfe HF
        have HNB : Hid (∀ k, u5.ownBlock = some k → k < wr.heap.size) := (show ∀ k, u5.ownBlock = some k → k < wr.heap.size from fun k hk => by
          obtain ⟨_, cs, h4⟩ := own_typed hown hk
          rcases Nat.lt_or_ge k wr.heap.size with h5 | h5
          · exact h5
          · rw [Array.getElem?_eq_none h5] at h4; cases h4)
        go_wp2_with (go_at_call 123; refine (first_impl q _ (by omega)).mono ?_; rw [HFQ.out]; rintro e w1 ⟨rfl, hb1⟩; have hB1 : Below wr.heap.size wr w1 := ((Below.refl _ wr).alloc (Nat.le_refl _) _).trans (hb1.mono (by simp)); have d1 : w1.cell? ⟨wr.heap.size, 0, none⟩ = some (.string q) := (hb1.cell (p := ⟨wr.heap.size, 0, none⟩) (by simp)).trans (cells_new wr #[.string q, .string t] _ 0 _ rfl); have d2 : w1.cell? ⟨wr.heap.size, 1, none⟩ = some (.string t) := (hb1.cell (p := ⟨wr.heap.size, 1, none⟩) (by simp)).trans (cells_new wr #[.string q, .string t] _ 1 _ rfl); have hbw1 : wr.heap.size < w1.heap.size := Nat.lt_of_lt_of_le (by simp) hb1.size; replace hown := ownsUnder hown hB1 (Nat.le_refl _); have HO1 : Hid (w1.ownsRow w.heap.size 98 2 u5 M.length (cellsF M)) := hown; replace hb := hb.trans (hB1.mono hsz); have D1 : Hid (w1.cell? ⟨wr.heap.size, 0, none⟩ = some (.string q)) := d1; have D2 : Hid (w1.cell? ⟨wr.heap.size, 1, none⟩ = some (.string t)) := d2; clear hb1 hB1)
        have hsz1 : w.heap.size ≤ w1.heap.size := by omega
        go_region_held_law (fun w' => w'.cell? ⟨wr.heap.size, 0, none⟩ = some (.string q) ∧ w'.cell? ⟨wr.heap.size, 1, none⟩ = some (.string t)) (first | exact ⟨d1, d2⟩ | exact SS6 | exact SS | exact ⟨(World.cell?_alloc_lt _ _ _ hbw2).trans SS.1, (World.cell?_alloc_lt _ _ _ hbw2).trans SS.2⟩ | go_keep)
          (first
            | (go_at_call 150; refine (rest_on q w1 _ (by first | exact Below.refl _ _ | exact (Below.refl _ _).drew) (by omega)).mono ?_; rw [HRQ.out]; rintro e w2 ⟨rfl, HB2⟩; have hs2 := HB2.size; have SS : w2.cell? ⟨wr.heap.size, 0, none⟩ = some (.string q) ∧ w2.cell? ⟨wr.heap.size, 1, none⟩ = some (.string t) := ⟨(HB2.cell (p := ⟨wr.heap.size, 0, none⟩) hbw1).trans D1.out, (HB2.cell (p := ⟨wr.heap.size, 1, none⟩) hbw1).trans D2.out⟩; have hbw2 : wr.heap.size < w2.heap.size := Nat.lt_of_lt_of_le hbw1 hs2)
            | (refine stepApp3 _ (by rfl) (by rfl) _ _ 49 (by rfl) w.heap.size 98 i0 (.agg #[.string ByteArray.empty, .string ByteArray.empty]) 2 32 Tryz.underlying49 hi hz0 hz1 hz2 rfl (by omega) u5 M.length (cellsF M) (by rfl) (by first | exact ownsUnder HO1.out (HB2.alloc hs2 _) (Nat.le_refl _) | exact ownsUnder HO1.out ((HB2.alloc hs2 _).drew) (Nat.le_refl _)) ⟨w2.heap.size, 0, none⟩ 1 1 [.string rq, .string t] (by rfl) rfl (World.news_of_block (heap_alloc_new w2 _)) (fun u hu => by simp at hu; rcases hu with rfl | rfl <;> rfl) (by unfold maxLen; omega) (by omega) (by first | exact Nat.le_trans hsz1 (Nat.le_trans hs2 (by simp)) | (simp; omega)) ?_; intro v6 w6 o6 gr6 _; have HB6 : Below w.heap.size w w6 := (by first | exact growOwn ((hb.trans (HB2.mono hsz1)).alloc (Nat.le_trans hsz1 hs2) _) (Nat.le_trans hsz1 (Nat.le_trans hs2 (by simp))) (ownsUnder HO1.out (HB2.alloc hs2 _) (Nat.le_refl _)) gr6 (Nat.le_refl _) | exact growOwn (((hb.trans (HB2.mono hsz1)).alloc (Nat.le_trans hsz1 hs2) _).drew) (Nat.le_trans hsz1 (Nat.le_trans hs2 (by simp))) (ownsUnder HO1.out ((HB2.alloc hs2 _).drew) (Nat.le_refl _)) gr6 (Nat.le_refl _)); have SS6 : w6.cell? ⟨wr.heap.size, 0, none⟩ = some (.string q) ∧ w6.cell? ⟨wr.heap.size, 1, none⟩ = some (.string t) := ⟨(World.cell?_of_block (a := ⟨wr.heap.size, 0, none⟩) (gr6.block wr.heap.size (by simp; omega) (fun e9 => absurd (HNB.out wr.heap.size e9.symm) (Nat.lt_irrefl _)))).trans ((World.cell?_alloc_lt _ _ _ hbw2).trans SS.1), (World.cell?_of_block (a := ⟨wr.heap.size, 1, none⟩) (gr6.block wr.heap.size (by simp; omega) (fun e9 => absurd (HNB.out wr.heap.size e9.symm) (Nat.lt_irrefl _)))).trans ((World.cell?_alloc_lt _ _ _ hbw2).trans SS.2)⟩))
        all_goals
          go_wp2
          go_roundw
          case rel =>
            refine ⟨j + 1, M ++ [⟨rq, t⟩], by omega, by go_num, HE, HF2, by simp; omega, ?_, HB6⟩
            rw [cellsF_snoc, List.length_append]
            exact o6
          case measure => simp [intOf]; omega
      · have hne : fq ≠ s := fun e => hfa (by
          have h1 := congrArg (fun z : ByteArray => z.data.toList) (hfq.trans (e.trans HS.out.symm))
          simpa [fstF] using h1)
        have e1 : (fq.toList == s.toList) = false := by
          rw [Lib.toList_data, Lib.toList_data]
          simpa using fun e => hne (pa_eqB e)
        have HK : Hid (M = (frontF a L).map rstF) := (show _ = _ from by rw [HM.out, hfe (fun _ => by rw [hy]; exact hfa)])
        have HK2 : Hid (M.length = (frontF a L).length) := (show _ = _ from by rw [HK.out, List.length_map])
        clear est hy hfa hne hfq HM hfn hfe
        go_wp2_with (go_at_call 123; refine (first_impl q _ (by omega)).mono ?_; rw [HFQ.out]; rintro e w1 ⟨rfl, hb1⟩; have hB1 : Below wr.heap.size wr w1 := ((Below.refl _ wr).alloc (Nat.le_refl _) _).trans (hb1.mono (by simp)); replace hown := ownsUnder hown hB1 (Nat.le_refl _); replace hb := hb.trans (hB1.mono hsz); clear hb1 hB1)
        go_ret
        rw [← HK.out, ← HK2.out]
        exact ⟨⟨_, rfl, hown⟩, hb⟩
    · go_wp2
      go_ret
      obtain rfl : j = L.length := by omega
      have e := HM.out
      rw [List.take_length] at e
      have ef := front_take a L L.length HF.out (fun h => absurd h (Nat.lt_irrefl _))
      rw [List.take_length] at ef
      rw [ef]
      subst e
      rw [List.length_map] at hown
      exact ⟨⟨_, rfl, hown⟩, hb⟩
end Go.Proofs.YthfffpdkmoclbaaGreatDoor.W
namespace Go.Proofs.YthfffpdkmoclbaaGreatDoor.W
open Go.RowKit Go.Shelf

theorem sizeBld : (Tryz.prog.info? 262).map (fun i => i.size) = some 2 := by kernel_rfl
theorem liesBld : liesAt Tryz.prog Tryz.prog.depth 262 (2 / Tryz.prog.cellsOf 262) 0 262 1 = true := by kernel_rfl
theorem infoU8 : (Tryz.prog.info? 5).map (fun i => (i.zero, i.size, i.bytes)) = some (some (.int .u8 0), 1, 1) := by kernel_rfl

set_option maxHeartbeats 1000000 in
theorem check_used (b : Nat) (w : World) (h0 : w.cell? ⟨b, 0, none⟩ = some (.pointer (some ⟨b, 0, none⟩))) :
    Calls Tryz.prog 222 #[.pointer (some ⟨b, 0, none⟩)] w fun e w' => e = .returned (.tuple #[]) ∧ w = w' := by
  obtain ⟨j, hj, hjs⟩ := Option.map_eq_some_iff.1 sizeBld
  have same := Lib.run_neq_ptr_same (P := Tryz.prog) (w := w) ⟨b, 0, none⟩ Tryz.underlying260 hj
  go_enter Tryz.func222, Tryz.ntmps222
  go_wp2
  go_end0
  exact ⟨rfl, rfl⟩

set_option maxHeartbeats 1000000 in
theorem check_fresh (b : Nat) (w : World) (h0 : w.cell? ⟨b, 0, none⟩ = some (.pointer none)) (hsh : w.shape? b = some (262, 2)) (hfz : w.frozen? ⟨b, 0, none⟩ = false) :
    Calls Tryz.prog 222 #[.pointer (some ⟨b, 0, none⟩)] w fun e w' => e = .returned (.tuple #[]) ∧ w' = w.setCell ⟨b, 0, none⟩ (.pointer (some ⟨b, 0, none⟩)) := by
  obtain ⟨j, hj, hjs⟩ := Option.map_eq_some_iff.1 sizeBld
  have toU := Lib.run_to_unsafe (P := Tryz.prog) (w := w) ⟨b, 0, none⟩ Tryz.underlying260 (show Tryz.prog.underlying 178 = some .unsafePointer by kernel_rfl) hj (by rw [hjs]; decide) hsh (Nat.zero_lt_succ 1)
  have ofU := Lib.run_from_unsafe (P := Tryz.prog) (w := w) ⟨b, 0, none⟩ (show Tryz.prog.underlying 178 = some .unsafePointer by kernel_rfl) Tryz.underlying260 hj hsh liesBld
  have ne : (callFunc 223 #[.pointer (some ⟨b, 0, none⟩)]).run Tryz.prog w = .ok (.value (.pointer (some ⟨b, 0, none⟩))) w := by
    rw [run_callFunc_extern Tryz.func223 (by kernel_rfl) (by kernel_rfl) (by kernel_rfl) (e := Extern.AbiNoEscape.same) (by kernel_rfl), Lib.run_noEscape]; rfl
  go_enter Tryz.func222, Tryz.ntmps222
  go_wp2
  go_end0
  exact ⟨rfl, rfl⟩

/-- a builder of this program: its text so far -/
def Bld (B b : Nat) (bs : List Value) (w : World) : Prop := Lib.IsBuilder 262 5 B b bs w

/-- blocks that hold no bytes stay, but the builder's own -/
def Keeps (b : Nat) (w w' : World) : Prop := ∀ k cs T fr, k ≠ b → T ≠ 5 → w.heap[k]? = some (.cells cs T fr) → w'.heap[k]? = some (.cells cs T fr)
theorem Keeps.refl (b : Nat) (w : World) : Keeps b w w := fun _ _ _ _ _ _ h => h
theorem Keeps.trans {b : Nat} {a c d : World} (h : Keeps b a c) (k : Keeps b c d) : Keeps b a d := fun i cs T fr h1 h2 h3 => k i cs T fr h1 h2 (h i cs T fr h1 h2 h3)
theorem Keeps.set (b : Nat) (w : World) (o : Nat) (u : Value) : Keeps b w (w.setCell ⟨b, o, none⟩ u) := fun _ _ _ _ h1 _ h3 => (Below.heap_setCell _ _ _ _ h1).trans h3
theorem Keeps.alloc (b : Nat) (w : World) (x : Obj) : Keeps b w (w.alloc x) := fun _ _ _ _ _ _ h3 => (Below.heap_alloc _ _ _ (Array.getElem?_eq_some_iff.1 h3).1).trans h3
theorem Keeps.grown {b B n : Nat} {w w' : World} {v : Value} {xs : List Value} (hown : w.ownsRow B 5 1 v n xs) (hg : w.grownBy w' v.ownBlock) : Keeps b w w' := fun k _ _ _ _ h2 h3 =>
  (hg.block k (Array.getElem?_eq_some_iff.1 h3).1 (fun e => Lib.ownBlock_ne hown h3 h2 e.symm)).trans h3

theorem check_any (B b : Nat) (bs : List Value) (w : World) (h : Bld B b bs w) :
    Calls Tryz.prog 222 #[.pointer (some ⟨b, 0, none⟩)] w fun e w' => e = .returned (.tuple #[]) ∧ Lib.BuilderAt 262 5 B b (.pointer (some ⟨b, 0, none⟩)) bs w' ∧ Below B w w' ∧ Keeps b w w' := by
  rcases h with h | h
  · obtain ⟨hB, v, hbk, hown, hne⟩ := h
    have hlt : b < w.heap.size := (Array.getElem?_eq_some_iff.1 hbk).1
    refine (check_fresh b w (by rw [Lib.cell_of_heap hbk]; rfl) (by simp [World.shape?, hbk]) (Lib.frozen_of_heap hbk 0)).mono ?_
    rintro e w' ⟨rfl, rfl⟩
    refine ⟨rfl, ⟨hB, v, ?_, ?_, hne⟩, (Below.refl _ _).setCell (p := ⟨b, 0, none⟩) hB _, Keeps.set b w 0 _⟩
    · simp [World.setCell, Array.getElem?_modify, hbk]
    · refine hown.kept (row := some b) ⟨rfl, rfl, rfl, by simp [World.setCell], fun k _ hn => Below.heap_setCell _ _ _ _ (fun e => hn (by rw [e]))⟩ (.inr hne)
  · refine (check_used b w (by obtain ⟨_, v, hbk, _⟩ := h; rw [Lib.cell_of_heap hbk]; rfl)).mono ?_
    rintro e w' ⟨rfl, rfl⟩
    exact ⟨rfl, h, Below.refl _ _, Keeps.refl _ _⟩

theorem ownSlice {w : World} {B n : Nat} {e : TypeId} {v : Value} {xs : List Value} (h : w.ownsRow B e 1 v n xs) : ∃ ao n' cap, v = .slice ao n' cap := by
  rcases h.2 with ⟨hv, _⟩ | ⟨g, cap, cur, hv, _⟩
  · exact ⟨_, _, _, hv⟩
  · exact ⟨_, _, _, hv⟩
theorem growBld {w w' a : World} {B n : Nat} {e : TypeId} {v : Value} {xs : List Value} (hb : Below B a w) (hB : B ≤ a.heap.size) (hown : w.ownsRow B e 1 v n xs) (hg : w.grownBy w' v.ownBlock) : Below B a w' :=
  hb.grown hg (Nat.le_trans hB hb.size) (fun k hk => (hown.lt k hk).1)
theorem stored_bld {w : World} {B b : Nat} {p u v : Value} {xs : List Value} (hB : B ≤ b) (hbk : w.heap[b]? = some (.cells #[p, u] 262 (0, 0))) (hown : w.ownsRow B 5 1 v xs.length xs) :
    Lib.BuilderAt 262 5 B b p xs (w.setCell ⟨b, 1, none⟩ v) := by
  have hne : v.ownBlock ≠ some b := Lib.ownBlock_ne hown hbk (by decide)
  refine ⟨hB, v, ?_, ?_, hne⟩
  · simp [World.setCell, Array.getElem?_modify, hbk]
  · exact hown.kept (row := some b) ⟨rfl, rfl, rfl, by simp [World.setCell], fun k _ hn => Below.heap_setCell _ _ _ _ (fun e => hn (by rw [e]))⟩ (.inr hne)

set_option maxHeartbeats 1000000 in
theorem wstr_any (B b : Nat) (bs : List Value) (s : ByteArray) (w : World) (h : Bld B b bs w) (hl : bs.length + s.size ≤ 1000000) (hB : B ≤ w.heap.size) :
    Calls Tryz.prog 218 #[.pointer (some ⟨b, 0, none⟩), .string s] w fun e w' => e = .returned (.tuple #[.int .i64 s.size, .nilIface]) ∧ Bld B b (bs ++ Lib.strCells s) w' ∧ Below B w w' ∧ Keeps b w w' := by
  obtain ⟨i0, hi, hz0, hz1, hz2⟩ := info_parts infoU8
  go_enter Tryz.func218, Tryz.ntmps218
  go_wp2_with (first
    | (go_at_call 222; refine (check_any B b bs _ h).mono ?_; rintro e w1 ⟨rfl, ⟨hbB, v, hbk, hown, hne⟩, hb1, kp1⟩; have hz := hb1.size; have c1 : w1.cell? ⟨b, 1, none⟩ = some v := (by rw [Lib.cell_of_heap hbk]; rfl))
    | (at_builtin; refine Lib.wpList_append_own_string _ rfl _ _ 22 9 rfl B 5 i0 Tryz.underlying22 Tryz.underlying9 hi hz0 hz1 hz2 _ _ _ rfl hown s rfl (by unfold maxLen; omega) (by omega) (by omega) ?_; intro v' w2 hown' hgrow _; obtain ⟨ao, n', cap', rfl⟩ := ownSlice hown'; have hlt : b < w1.heap.size := (Array.getElem?_eq_some_iff.1 hbk).1; have hbk2 : w2.heap[b]? = some (.cells #[.pointer (some ⟨b, 0, none⟩), v] 262 (0, 0)) := (hgrow.block b (by first | exact hlt | (simp; omega)) (fun e => hne e.symm)).trans hbk; have d1 : w2.cell? ⟨b, 1, none⟩ = some v := (by rw [Lib.cell_of_heap hbk2]; rfl); have f1 := Lib.frozen_of_heap hbk2 1))
  go_ret2
  refine ⟨rfl, Or.inr (stored_bld hbB hbk2 (by rw [List.length_append, Lib.strCells_length]; exact hown')), ?_, (kp1.trans (Keeps.grown hown hgrow)).trans (Keeps.set b w2 1 _)⟩
  exact (growBld hb1 hB hown hgrow).setCell (p := ⟨b, 1, none⟩) hbB _

set_option maxHeartbeats 1000000 in
theorem wbyte_any (B b : Nat) (bs : List Value) (x : Int) (w : World) (h : Bld B b bs w) (hl : bs.length + 1 ≤ 1000000) (hB : B ≤ w.heap.size) :
    Calls Tryz.prog 219 #[.pointer (some ⟨b, 0, none⟩), .int .u8 x] w fun e w' => e = .returned .nilIface ∧ Bld B b (bs ++ [.int .u8 x]) w' ∧ Below B w w' ∧ Keeps b w w' := by
  obtain ⟨i0, hi, hz0, hz1, hz2⟩ := info_parts infoU8
  go_enter Tryz.func219, Tryz.ntmps219
  go_wp2_with (first
    | (go_at_call 222; refine (check_any B b bs _ h).mono ?_; rintro e w1 ⟨rfl, ⟨hbB, v, hbk, hown, hne⟩, hb1, kp1⟩; have hz := hb1.size; have c1 : w1.cell? ⟨b, 1, none⟩ = some v := (by rw [Lib.cell_of_heap hbk]; rfl))
    | (at_builtin; refine wpList_append_own _ rfl _ _ 22 rfl B 5 i0 (.int .u8 0) 1 1 Tryz.underlying22 hi hz0 hz1 hz2 rfl (by decide) _ _ _ rfl (hown.alloc _) ⟨w1.heap.size, 0, none⟩ 1 1 [.int .u8 x] rfl rfl (cells_new _ #[.int .u8 x] _) (fun u hu => by simp at hu; subst hu; rfl) (by unfold maxLen; omega) (by omega) (by simp; omega) ?_; intro v' w2 hown' hgrow _; obtain ⟨ao, n', cap', rfl⟩ := ownSlice hown'; have hlt : b < w1.heap.size := (Array.getElem?_eq_some_iff.1 hbk).1; have hbk2 : w2.heap[b]? = some (.cells #[.pointer (some ⟨b, 0, none⟩), v] 262 (0, 0)) := (hgrow.block b (by first | exact hlt | (simp; omega)) (fun e => hne e.symm)).trans (Below.heap_alloc _ _ _ (Array.getElem?_eq_some_iff.1 hbk).1 |>.trans hbk); have d1 : w2.cell? ⟨b, 1, none⟩ = some v := (by rw [Lib.cell_of_heap hbk2]; rfl); have f1 := Lib.frozen_of_heap hbk2 1))
  go_ret
  refine ⟨rfl, Or.inr (stored_bld hbB hbk2 (by rw [List.length_append]; exact hown')), ?_, ((kp1.trans (Keeps.alloc b w1 _)).trans (Keeps.grown (hown.alloc _) hgrow)).trans (Keeps.set b w2 1 _)⟩
  exact (growBld (hb1.alloc (by omega) _) hB (hown.alloc _) hgrow).setCell (p := ⟨b, 1, none⟩) hbB _
end Go.Proofs.YthfffpdkmoclbaaGreatDoor.W
namespace Go.Proofs.YthfffpdkmoclbaaGreatDoor.W
open Go.RowKit Go.Proofs.YthfffpdkmoclbaaGreatDoor.M

theorem bld_new (w : World) (B : Nat) (hB : B ≤ w.heap.size) : Bld B w.heap.size [] (w.alloc (.cells #[.pointer none, .slice none 0 0] 262)) := by
  refine Or.inl ⟨hB, .slice none 0 0, ?_, World.ownsRow_nil _ _ _ _, by simp [Value.ownBlock]⟩
  show (w.heap.push _)[w.heap.size]? = _
  simp
theorem bytes_mk (t : List UInt8) (x : OE) (m : UInt8) (hm : m = mrk x.sh) : (Lib.byteCells (83 :: t) ++ Lib.strCells x.nm) ++ [Value.int .u8 m.toNat] ++ Lib.strCells (idHexB x.id) = Lib.byteCells (83 :: (t ++ encE (enO x))) := by
  subst hm
  simp [Lib.strCells_eq, Lib.byteCells, encE, enO]

theorem bld_below {B b : Nat} {bs : List Value} {w w' : World} (h : Bld B b bs w) (hb : Below w.heap.size w w') : Bld B b bs w' := by
  have go : ∀ p, Lib.BuilderAt 262 5 B b p bs w → Lib.BuilderAt 262 5 B b p bs w' := fun p ⟨h1, v, h2, h3, h4⟩ =>
    ⟨h1, v, (hb.block b (Array.getElem?_eq_some_iff.1 h2).1).trans h2, ownsUnder h3 hb (Nat.le_refl _), h4⟩
  rcases h with h | h
  · exact Or.inl (go _ h)
  · exact Or.inr (go _ h)
theorem bld_lt {B b : Nat} {bs : List Value} {w : World} (h : Bld B b bs w) : b < w.heap.size := by
  rcases h with ⟨_, v, h2, _⟩ | ⟨_, v, h2, _⟩ <;> exact (Array.getElem?_eq_some_iff.1 h2).1

set_option maxHeartbeats 4000000 in
theorem text_any (A : Option Addr) (c : Nat) (L : List OE) (w : World) (hL : RdO w.heap.size w A L) (hn : L.length ≤ 60) (hok : ∀ j (h : j < L.length), okE (enO L[j]) = true) :
    Calls Tryz.prog 217 #[.agg #[.slice A L.length c]] w fun ev w' => ev = .returned (.string ⟨(83 :: encL (L.map enO)).toArray⟩) ∧ Below w.heap.size w w' := by
  have HL : Hid (RdO w.heap.size w A L) := hL
  have HK : Hid (∀ j (h : j < L.length), okE (enO L[j]) = true) := hok
  clear hL hok
  have b0 := bld_new (w.alloc (.cells #[.slice A L.length c] 128)) w.heap.size (by simp)
  have z0 : (w.alloc (.cells #[.slice A L.length c] 128)).heap.size = w.heap.size + 1 := by simp
  rw [z0] at b0
  have B0 : Below w.heap.size w ((w.alloc (.cells #[.slice A L.length c] 128)).alloc (.cells #[.pointer none, .slice none 0 0] 262)) := ((Below.refl _ _).alloc (Nat.le_refl _) _).alloc (by simp) _
  have q0 : ((w.alloc (.cells #[.slice A L.length c] 128)).alloc (.cells #[.pointer none, .slice none 0 0] 262)).heap[w.heap.size]? = some (.cells #[.slice A L.length c] 128 (0, 0)) := by
    rw [Below.heap_alloc _ _ _ (by simp)]
    show (w.heap.push _)[w.heap.size]? = _
    simp
  go_enter Tryz.func217, Tryz.ntmps217
  go_wp2_with (go_at_call 218; refine (wstr_any w.heap.size (w.heap.size + 1) [] ⟨#[83]⟩ _ b0 (by decide) (by simp; omega)).mono ?_; rintro e w1 ⟨rfl, b1, hb1, kp1⟩; have q1 := kp1 w.heap.size _ _ _ (by omega) (by decide) q0; have c1 : w1.cell? ⟨w.heap.size, 0, none⟩ = some (.slice A L.length c) := (by rw [Lib.cell_of_heap q1]; rfl); replace hb1 := B0.trans hb1; clear B0 b0 q0 kp1)
  go_loopw [10] (fun iv wr => ∃ (j : Nat) (tx : List UInt8), j ≤ L.length ∧ iv = .int .i64 j ∧ tx.length ≤ 12 * j ∧ Hid (tx = encL ((L.map enO).take j)) ∧ Hid (Bld w.heap.size (w.heap.size + 1) (Lib.byteCells (83 :: tx)) wr) ∧ Below w.heap.size w wr) (fun i _ => L.length - (intOf i).toNat)
  case atStart => exact ⟨0, [], Nat.zero_le _, rfl, by simp, rfl, b1, hb1⟩
  case round =>
    obtain ⟨j, tx, hj, rfl, htl, ET, HB, hb⟩ := hrel
    have hsz := hb.size
    by_cases hlt : j < L.length
    · obtain ⟨b, o, rfl, hbl, e1, e2, e3⟩ := (HL.out.below hb (Nat.le_refl _)) j hlt
      have EN : Hid (encL ((L.map enO).take (j + 1)) = tx ++ encE (enO L[j])) := by show _ = _; rw [takeO L j hlt, ET.out]
      have K1 := HK.out j hlt
      obtain ⟨x, hx⟩ : ∃ x, L[j] = x := ⟨_, rfl⟩
      rw [hx] at e1 e2 e3 EN K1
      clear hx
      obtain ⟨l12, l3, l8⟩ := encO_len x K1
      have K1' : Hid (okE (enO x) = true) := K1
      clear K1
      have hbb := bld_lt HB.out
      have ba := bld_below HB.out ((Below.refl _ wr).alloc (Nat.le_refl _) (.cells #[.string x.nm, .bool x.sh, .int .i64 x.id] 90))
      have qa : (wr.alloc (.cells #[.string x.nm, .bool x.sh, .int .i64 x.id] 90)).heap[wr.heap.size]? = some (.cells #[.string x.nm, .bool x.sh, .int .i64 x.id] 90 (0, 0)) := by
        show (wr.heap.push _)[wr.heap.size]? = _
        simp
      have za : (wr.alloc (.cells #[.string x.nm, .bool x.sh, .int .i64 x.id] 90)).heap.size = wr.heap.size + 1 := by simp
      have Ba := hb.alloc (by omega) (.cells #[.string x.nm, .bool x.sh, .int .i64 x.id] 90)
      have t1 : True := trivial
      have HV0 : x.sh = false → Hid ((Lib.byteCells (83 :: tx) ++ Lib.strCells x.nm) ++ [Value.int .u8 61] ++ Lib.strCells (idHexB x.id) = Lib.byteCells (83 :: (tx ++ encE (enO x)))) := fun hs => bytes_mk tx x 61 (by rw [hs]; rfl)
      have HV1 : x.sh = true → Hid ((Lib.byteCells (83 :: tx) ++ Lib.strCells x.nm) ++ [Value.int .u8 47] ++ Lib.strCells (idHexB x.id) = Lib.byteCells (83 :: (tx ++ encE (enO x)))) := fun hs => bytes_mk tx x 47 (by rw [hs]; rfl)
      cases hsh : x.sh
      · have HV := HV0 hsh
        clear HV0 HV1
        rw [hsh] at ba qa za Ba e2
        go_wp2_with (first
          | (go_at_call 218; have _t := t1; refine (wstr_any w.heap.size (w.heap.size + 1) _ x.nm _ ba (by rw [Lib.byteCells_length]; simp; omega) (by omega)).mono ?_; rintro e w2 ⟨rfl, b2, hb2, kp2⟩; clear _t t1; have q2 := kp2 wr.heap.size _ _ _ (by omega) (by decide) qa; have d1 : w2.cell? ⟨wr.heap.size, 1, none⟩ = some (.bool false) := (by rw [Lib.cell_of_heap q2]; rfl); have B2 := Ba.trans hb2)
          | (go_at_call 219; refine (wbyte_any w.heap.size (w.heap.size + 1) _ 61 _ b2 (by rw [List.length_append, Lib.byteCells_length, Lib.strCells_length]; simp; omega) B2.size).mono ?_; rintro e w3 ⟨rfl, b3, hb3, kp3⟩; have q3 := kp3 wr.heap.size _ _ _ (by omega) (by decide) q2; have d2 : w3.cell? ⟨wr.heap.size, 2, none⟩ = some (.int .i64 x.id) := (by rw [Lib.cell_of_heap q3]; rfl); have B3 := B2.trans hb3)
          | (go_at_call 220; refine (hex_impl x.id _).mono ?_; rintro e w4 ⟨rfl, hb4⟩; have b4 := bld_below b3 hb4; have B4 := B3.trans (hb4.mono B3.size))
          | (go_at_call 218; refine (wstr_any w.heap.size (w.heap.size + 1) _ (idHexB x.id) _ b4 (by rw [List.length_append, List.length_append, Lib.byteCells_length, Lib.strCells_length]; simp; omega) B4.size).mono ?_; rintro e w5 ⟨rfl, b5, hb5, kp5⟩; have B5 := B4.trans hb5))
        go_roundw
        case rel => exact ⟨j + 1, tx ++ encE (enO x), by omega, by go_num, by rw [List.length_append]; omega, EN.out.symm, by rw [HV.out] at b5; exact b5, B5⟩
        case measure => simp [intOf]; omega
      · have HV := HV1 hsh
        clear HV0 HV1
        rw [hsh] at ba qa za Ba e2
        go_wp2_with (first
          | (go_at_call 218; have _t := t1; refine (wstr_any w.heap.size (w.heap.size + 1) _ x.nm _ ba (by rw [Lib.byteCells_length]; simp; omega) (by omega)).mono ?_; rintro e w2 ⟨rfl, b2, hb2, kp2⟩; clear _t t1; have q2 := kp2 wr.heap.size _ _ _ (by omega) (by decide) qa; have d1 : w2.cell? ⟨wr.heap.size, 1, none⟩ = some (.bool true) := (by rw [Lib.cell_of_heap q2]; rfl); have B2 := Ba.trans hb2)
          | (go_at_call 219; refine (wbyte_any w.heap.size (w.heap.size + 1) _ 47 _ b2 (by rw [List.length_append, Lib.byteCells_length, Lib.strCells_length]; simp; omega) B2.size).mono ?_; rintro e w3 ⟨rfl, b3, hb3, kp3⟩; have q3 := kp3 wr.heap.size _ _ _ (by omega) (by decide) q2; have d2 : w3.cell? ⟨wr.heap.size, 2, none⟩ = some (.int .i64 x.id) := (by rw [Lib.cell_of_heap q3]; rfl); have B3 := B2.trans hb3)
          | (go_at_call 220; refine (hex_impl x.id _).mono ?_; rintro e w4 ⟨rfl, hb4⟩; have b4 := bld_below b3 hb4; have B4 := B3.trans (hb4.mono B3.size))
          | (go_at_call 218; refine (wstr_any w.heap.size (w.heap.size + 1) _ (idHexB x.id) _ b4 (by rw [List.length_append, List.length_append, Lib.byteCells_length, Lib.strCells_length]; simp; omega) B4.size).mono ?_; rintro e w5 ⟨rfl, b5, hb5, kp5⟩; have B5 := B4.trans hb5))
        go_roundw
        case rel => exact ⟨j + 1, tx ++ encE (enO x), by omega, by go_num, by rw [List.length_append]; omega, EN.out.symm, by rw [HV.out] at b5; exact b5, B5⟩
        case measure => simp [intOf]; omega
    · obtain rfl : j = L.length := by omega
      have hE : tx = encL (L.map enO) := by
        rw [ET.out]; congr 1
        exact List.take_of_length_le (by simp)
      have hs := Tryz.Builder_String_any w.heap.size (w.heap.size + 1) (83 :: tx) wr HB.out hsz
      have HE : Hid (tx = encL (L.map enO)) := hE
      clear hE
      go_wp2_with (go_at_call 221; refine hs.mono ?_; rintro e w9 ⟨rfl, hb9⟩)
      go_ret
      rw [← HE.out]
      exact ⟨rfl, hb.trans hb9⟩
theorem m_sheetOk (v : Value) (w : World) : (method 382 128 (.agg #[v]) "loop.example/chartulary/impl.ok").run Tryz.prog w = .ok (160, .agg #[v]) w := by kernel_rfl
theorem m_sheetText (v : Value) (w : World) : (method 382 128 (.agg #[v]) "loop.example/chartulary/impl.text").run Tryz.prog w = .ok (217, .agg #[v]) w := by kernel_rfl
theorem okL_parts (L : List OE) (h : okL (L.map enO) = true) : L.length ≤ 60 ∧ ∀ j (h : j < L.length), okE (enO L[j]) = true := by
  unfold okL at h
  simp only [Bool.and_eq_true, decide_eq_true_eq, List.length_map] at h
  exact ⟨h.1, fun j hj => List.all_eq_true.1 h.2.1 _ (List.mem_map.2 ⟨L[j], List.getElem_mem hj, rfl⟩)⟩

set_option maxHeartbeats 1000000 in
theorem sheet_impl (A : Option Addr) (c : Nat) (L : List OE) (w : World) (hL : RdO w.heap.size w A L) (hn : L.length ≤ 1048576) (ht : ∀ j (h : j < L.length), (L[j]).nm.size ≤ 1048576) :
    Calls Tryz.prog 100 #[.slice A L.length c] w fun ev w' => ev = .returned (.string ⟨(sheetT (L.map enO)).toArray⟩) ∧ Below w.heap.size w w' := by
  have m1 := m_sheetOk
  have m2 := m_sheetText
  have hw : Calls Tryz.prog 122 #[.iface 128 (.agg #[.slice A L.length c])] w fun ev w' => ev = .returned (.string ⟨(sheetT (L.map enO)).toArray⟩) ∧ Below w.heap.size w w' := by
    have hok := sheetOk_any A c L w hL hn ht
    cases h : okL (L.map enO)
    · rw [h] at hok
      have e : sheetT (L.map enO) = [] := by unfold sheetT; rw [h]; rfl
      rw [e]
      clear e h
      go_enter Tryz.func122, Tryz.ntmps122
      go_wp2_with (go_at_call 160; refine hok.mono ?_; rintro ev w1 ⟨rfl, hb1⟩)
      go_ret
      exact ⟨rfl, hb1⟩
    · rw [h] at hok
      have e : sheetT (L.map enO) = 83 :: encL (L.map enO) := by unfold sheetT; rw [h]; rfl
      obtain ⟨h60, hall⟩ := okL_parts L h
      rw [e]
      have HT : Hid (∀ w', RdO w'.heap.size w' A L → Calls Tryz.prog 217 #[.agg #[.slice A L.length c]] w' fun ev w'' => ev = .returned (.string ⟨(83 :: encL (L.map enO)).toArray⟩) ∧ Below w'.heap.size w' w'') := fun w' r => text_any A c L w' r h60 hall
      clear e h hall
      go_enter Tryz.func122, Tryz.ntmps122
      go_wp2_with (first
        | (go_at_call 160; refine hok.mono ?_; rintro ev w1 ⟨rfl, hb1⟩)
        | (go_at_call 217; refine (HT.out _ (hL.up hb1)).mono ?_; rintro ev w2 ⟨rfl, hb2⟩))
      go_ret
      exact ⟨rfl, hb1.trans (hb2.mono hb1.size)⟩
  go_enter Tryz.func100, Tryz.ntmps100
  go_wp2_with (go_at_call 122; refine hw.mono ?_; rintro ev w1 ⟨rfl, hb1⟩)
  go_ret
  exact ⟨rfl, hb1⟩
end Go.Proofs.YthfffpdkmoclbaaGreatDoor.W
