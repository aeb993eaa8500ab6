
/-
  A tree's texts, gathered by the program: 'put' and 'leaf' of what is laid, 'filesBehind'. Texts of at most 4194303 bytes.
-/
import Derived.Test.YtgbcgchnnmgmfaaWalkLayT
import Derived.Test.YtgbcgchnnmgmfaaMathTLa3
namespace Go.Proofs.Ytgbcgchnnmgmfaa.W
open Go.RowKit Go.Proofs.Ytgbcgchnnmgmfaa.M
set_option linter.unusedVariables false

/-- what is laid so far lies in a block: its texts -/
structure Lay (w : World) (lb : Nat) (v : Value) (T : List ByteArray) : Prop where
  cell : w.cell? ⟨lb, 0, none⟩ = some v
  fz : w.frozen? ⟨lb, 0, none⟩ = false
  row : w.ownsRow (lb + 1) 9 1 v T.length (strs (sL T))
theorem Lay.lt {w : World} {lb : Nat} {v : Value} {T : List ByteArray} (h : Lay w lb v T) : lb < w.heap.size := World.block_lt_of_cell? _ _ h.cell
theorem Lay.off {w : World} {lb : Nat} {v : Value} {T : List ByteArray} (h : Lay w lb v T) : v.ownBlock ≠ some lb := fun e => by
  have := (h.row.lt lb e).1
  omega
/-- all is as it was, but what is laid -/
structure Fr (w w' : World) (lb : Nat) (v v' : Value) : Prop where
  os : w'.os = w.os
  tape : w'.tape = w.tape
  output : w'.output = w.output
  size : w.heap.size ≤ w'.heap.size
  block : ∀ k, k < w.heap.size → k ≠ lb → v.ownBlock ≠ some k → w'.heap[k]? = w.heap[k]?
  own : v'.ownBlock = v.ownBlock ∨ ∃ g, v'.ownBlock = some g ∧ w.heap.size ≤ g
theorem Fr.trans {w w' w'' : World} {lb : Nat} {v v' v'' : Value} (h : Fr w w' lb v v') (k : Fr w' w'' lb v' v'') : Fr w w'' lb v v'' := by
  refine ⟨k.os.trans h.os, k.tape.trans h.tape, k.output.trans h.output, Nat.le_trans h.size k.size, fun i hi h1 h2 => ?_, ?_⟩
  · refine (k.block i (Nat.lt_of_lt_of_le hi h.size) h1 (fun e => ?_)).trans (h.block i hi h1 h2)
    rcases h.own with ho | ⟨g, ho, hg⟩
    · exact h2 (ho ▸ e)
    · rw [ho] at e
      simp at e
      omega
  · rcases k.own with ko | ⟨g, ko, hg⟩
    · rcases h.own with ho | ⟨g, ho, hg⟩
      · exact .inl (ko.trans ho)
      · exact .inr ⟨g, ko.trans ho, hg⟩
    · exact .inr ⟨g, ko, Nat.le_trans h.size hg⟩
theorem Fr.of {w w' : World} {lb : Nat} {v : Value} (h : Below w.heap.size w w') : Fr w w' lb v v := ⟨h.os, h.tape, h.output, h.size, fun k hk _ _ => h.block k hk, .inl rfl⟩
theorem Lay.below {w w' : World} {lb : Nat} {v : Value} {T : List ByteArray} (h : Lay w lb v T) (hb : Below w.heap.size w w') : Lay w' lb v T := ⟨(hb.cell (p := ⟨lb, 0, none⟩) h.lt).trans h.cell, (hb.frozen (p := ⟨lb, 0, none⟩) h.lt).trans h.fz, ownsUnder h.row hb (Nat.le_refl _)⟩
/-- a slice of files apart from what is laid -/
def SrcF (w : World) (lb : Nat) (A : Option Addr) (L : List TF) : Prop := RdF w.heap.size w A L ∧ ∀ b o, A = some ⟨b, o, none⟩ → b < lb ∨ (lb < b ∧ ∃ cs, w.heap[b]? = some (.cells cs 39))
theorem own_typed {w : World} {b n z g : Nat} {e : TypeId} {v : Value} {xs : List Value} (h : w.ownsRow b e z v n xs) (hg : v.ownBlock = some g) : b ≤ g ∧ ∃ cs, w.heap[g]? = some (.cells cs e) := by
  rcases h.2 with ⟨rfl, _⟩ | ⟨g1, c1, cur1, rfl, h1, h2, _⟩
  · simp [Value.ownBlock] at hg
  · obtain rfl : g1 = g := by simpa [Value.ownBlock] using hg
    exact ⟨h1, cur1, h2⟩
theorem SrcF.off {w : World} {lb : Nat} {A : Option Addr} {L : List TF} {v : Value} {T : List ByteArray} (h : SrcF w lb A L) (hl : Lay w lb v T) : ∀ b o, A = some ⟨b, o, none⟩ → b ≠ lb ∧ v.ownBlock ≠ some b := fun b o e => by
  rcases h.2 b o e with h1 | ⟨h1, cs, h2⟩
  · exact ⟨by omega, fun e9 => by have := (own_typed hl.row e9).1; omega⟩
  · refine ⟨by omega, fun e9 => ?_⟩
    obtain ⟨_, cs', h3⟩ := own_typed hl.row e9
    rw [h2] at h3
    cases h3
theorem SrcF.fr {w w' : World} {lb : Nat} {A : Option Addr} {L : List TF} {v v' : Value} {T : List ByteArray} (h : SrcF w lb A L) (hl : Lay w lb v T) (f : Fr w w' lb v v') : SrcF w' lb A L := by
  have ho := h.off hl
  refine ⟨fun j hj => ?_, fun b o e => ?_⟩
  · obtain ⟨b, o, e, hb, c1, c2⟩ := h.1 j hj
    obtain ⟨h1, h2⟩ := ho b o e
    have hk := f.block b hb h1 h2
    exact ⟨b, o, e, Nat.lt_of_lt_of_le hb f.size, (World.cell?_of_block (a := ⟨b, _, none⟩) hk).trans c1, (World.cell?_of_block (a := ⟨b, _, none⟩) hk).trans c2⟩
  · obtain ⟨h1, h2⟩ := ho b o e
    rcases h.2 b o e with h3 | ⟨h3, cs, h4⟩
    · exact .inl h3
    · refine .inr ⟨h3, cs, (f.block b ?_ h1 h2).trans h4⟩
      rcases Nat.lt_or_ge b w.heap.size with h5 | h5
      · exact h5
      · rw [Array.getElem?_eq_none h5] at h4; cases h4
theorem SrcF.below {w w' : World} {lb : Nat} {A : Option Addr} {L : List TF} (h : SrcF w lb A L) (hb : Below w.heap.size w w') : SrcF w' lb A L := by
  refine ⟨h.1.up hb, fun b o e => ?_⟩
  rcases h.2 b o e with h3 | ⟨h3, cs, h4⟩
  · exact .inl h3
  · refine .inr ⟨h3, cs, (hb.block b ?_).trans h4⟩
    rcases Nat.lt_or_ge b w.heap.size with h5 | h5
    · exact h5
    · rw [Array.getElem?_eq_none h5] at h4; cases h4
theorem own_slice {w : World} {b n z : Nat} {e : TypeId} {v : Value} {xs : List Value} (h : w.ownsRow b e z v n xs) : ∃ A n1 k1, v = .slice A n1 k1 := by
  rcases h.2 with ⟨e5, _⟩ | ⟨_, _, _, e5, _⟩ <;> exact ⟨_, _, _, e5⟩
/-- a row of one's own of another type is kept -/
theorem own_fr {w w' : World} {lb b n z : Nat} {e : TypeId} {u v v' : Value} {T : List ByteArray} {xs : List Value} (h : w.ownsRow b e z u n xs) (hb : lb < b) (he : e ≠ 9) (hl : Lay w lb v T) (f : Fr w w' lb v v') : w'.ownsRow b e z u n xs := by
  refine ⟨h.1, ?_⟩
  rcases h.2 with h2 | ⟨g1, c1, cur1, hu, h1, h2, h3⟩
  · exact .inl h2
  · have hlt : g1 < w.heap.size := by
      rcases Nat.lt_or_ge g1 w.heap.size with h5 | h5
      · exact h5
      · rw [Array.getElem?_eq_none h5] at h2; cases h2
    have hk := f.block g1 hlt (by omega) (fun e9 => by
      obtain ⟨_, cs', h4⟩ := own_typed hl.row e9
      rw [h2] at h4
      cases h4
      exact he rfl)
    exact .inr ⟨g1, c1, cur1, hu, h1, hk.trans h2, h3⟩
set_option maxHeartbeats 2000000 in
set_option maxRecDepth 100000 in
theorem put_any (lb : Nat) (v : Value) (T : List ByteArray) (s : ByteArray) (w : World) (hl : Lay w lb v T) (hs : s.size ≤ 4194304) (hT : T.length ≤ 100000000) :
    Calls Try.prog 30 #[.pointer (some ⟨lb, 0, none⟩), .string s] w fun e w' => e = .returned (.int .i64 (idOfN s.data.toList)) ∧ ∃ v', Lay w' lb v' (T ++ [s]) ∧ Fr w w' lb v v' := by
  obtain ⟨i0, hi, hz0, hz1, hz2⟩ := info_parts infoSt
  have c0 := hl.cell
  have hlt := hl.lt
  have HLY : Hid (Lay w lb v T) := hl
  have c1 : (w.alloc (.cells #[.string s] 9)).cell? ⟨lb, 0, none⟩ = some v := (World.cell?_alloc_lt _ _ _ hlt).trans c0
  go_enter Try.func30, Try.ntmps30
  go_wp2_with (first
    | (at_builtin; refine wpL_app rfl _ _ 24 rfl (lb + 1) 9 i0 (.string ByteArray.empty) 1 16 Try.underlying24 hi hz0 hz1 hz2 rfl (by decide) v T.length (strs (sL T)) rfl (HLY.out.row.alloc _) ⟨w.heap.size, 0, none⟩ 1 1 [.string s] rfl rfl (cells_new w #[.string s] 9) (by simp [Value.oneCell']) (by unfold maxLen; omega) (by omega) (by simp; omega) ?_; intro v5 w5 O5 g5 b5; obtain ⟨A5, n5, k5, rfl⟩ := own_slice O5; have c5 : w5.cell? ⟨lb, 0, none⟩ = some v := (World.cell?_of_block (a := ⟨lb, 0, none⟩) (g5.block lb (by simp; omega) (fun e => HLY.out.off e.symm))).trans c1; have z5 : w5.frozen? ⟨lb, 0, none⟩ = false := (World.frozen?_of_block (a := ⟨lb, 0, none⟩) (g5.block lb (by simp; omega) (fun e => HLY.out.off e.symm))).trans (by have := ((Below.refl w.heap.size w).alloc (Nat.le_refl _) (.cells #[.string s] 9)).frozen (p := ⟨lb, 0, none⟩) hlt; exact this.trans HLY.out.fz))
    | (go_at_call 43; refine (idOf_impl s _ hs).mono ?_; rintro e w6 ⟨rfl, hw6⟩; subst hw6))
  go_ret
  have hz := g5.size
  simp only [World.size_alloc] at hz
  have hO : (w5.setCell ⟨lb, 0, none⟩ (.slice A5 n5 k5)).ownsRow (lb + 1) 9 1 (.slice A5 n5 k5) (T.length + 1) (strs (sL T) ++ [.string s]) := ownsRow_setCell_below O5 (a := ⟨lb, 0, none⟩) (by simp) _
  refine ⟨rfl, _, ⟨World.cell?_setCell_same _ _ _ c5, by simpa using z5, ?_⟩, ?_⟩
  · rw [sL_app, strs_app, strs_one, List.length_append]
    exact hO
  · refine ⟨?_, ?_, ?_, ?_, fun k hk h1 h2 => ?_, ?_⟩
    · exact g5.os
    · exact g5.tape
    · exact g5.output
    · simp; omega
    · refine (Below.heap_setCell _ _ _ _ (fun e => h1 e)).trans ?_
      refine (g5.block k (by simp; omega) (fun e => h2 e.symm)).trans ?_
      exact ((Below.refl w.heap.size w).alloc (Nat.le_refl _) (.cells #[.string s] 9)).block k hk
    · rcases b5 with b5 | b5
      · exact .inl b5
      · exact .inr ⟨_, b5, by simp⟩
theorem leaf7 (b : ByteArray) : (leafB b).size ≤ 7 := by
  by_cases h6 : b.size ≤ 6
  · rw [← leafB_yes b h6, ByteArray.size_append]
    show 1 + b.size ≤ 7
    omega
  · rw [← leafB_no b h6]
    show 0 ≤ 7
    omega
set_option maxHeartbeats 2000000 in
set_option maxRecDepth 100000 in
theorem leaf_any (lb : Nat) (v : Value) (T : List ByteArray) (p t : ByteArray) (w : World) (hl : Lay w lb v T) (ht : t.size ≤ 1048576) (hT : T.length ≤ 100000000) :
    Calls Try.prog 33 #[.pointer (some ⟨lb, 0, none⟩), .agg #[.string p, .string t]] w fun e w' => e = .returned (.int .i64 (idOfN (leafB t).data.toList)) ∧ ∃ v', Lay w' lb v' (T ++ [leafB t]) ∧ Fr w w' lb v v' := by
  have hs : (leafB t).size ≤ 4194304 := by have := leaf7 t; omega
  have HLY : Hid (Lay w lb v T) := hl
  obtain ⟨s, hse⟩ : ∃ s, leafB t = s := ⟨_, rfl⟩
  have HS : Hid (leafB t = s) := hse
  rw [hse] at hs ⊢
  clear hl hse
  go_enter Try.func33, Try.ntmps33
  go_wp2_with (first
    | (go_at_call 47; refine (leaf_impl t _ (by unfold maxLen; omega)).mono ?_; rw [HS.out]; rintro e w1 ⟨rfl, hb1⟩; have hB1 : Below w.heap.size w w1 := ((Below.refl _ w).alloc (Nat.le_refl _) _).trans (hb1.mono (by simp)); have HB1 : Hid (Below w.heap.size w w1) := hB1; clear hb1 hB1)
    | (go_at_call 30; refine (put_any lb v T s _ (HLY.out.below HB1.out) hs hT).mono ?_; rintro e w2 ⟨rfl, v', hl2, hf2⟩))
  go_ret
  exact ⟨rfl, v', hl2, (Fr.of HB1.out).trans hf2⟩
theorem rest_on (s : ByteArray) (v W : World) (HB : Below v.heap.size v W) (hs : s.size ≤ 4194304) :
    Calls Try.prog 54 #[.string s] W fun e w' => e = .returned (.string ⟨(restL s.data.toList).toArray⟩) ∧ Below v.heap.size v w' :=
  (rest_impl s W hs).mono fun _ _ ⟨h1, h2⟩ => ⟨h1, HB.trans (h2.mono HB.size)⟩
theorem front_step (a : List UInt8) (L : List TF) (j : Nat) (h : j < L.length) (hs : ∀ x ∈ L.take j, fstF x = a) (hf : fstF L[j] = a) : ∀ x ∈ L.take (j + 1), fstF x = a := fun x hx => by
  rw [List.take_succ_eq_append_getElem h] at hx
  rcases List.mem_append.1 hx with h1 | h1
  · exact hs x h1
  · rw [List.mem_singleton.1 h1]; exact hf
theorem front_take (a : List UInt8) (L : List TF) (j : Nat) (hs : ∀ x ∈ L.take j, fstF x = a) (hn : ∀ h : j < L.length, fstF L[j] ≠ a) : frontF a L = L.take j := by
  have e : L = L.take j ++ L.drop j := (List.take_append_drop j L).symm
  unfold frontF
  conv => lhs; rw [e]
  rw [List.takeWhile_append_of_pos (fun x hx => decide_eq_true (hs x hx))]
  have : (L.drop j).takeWhile (fun x => decide (fstF x = a)) = [] := by
    by_cases h : j < L.length
    · rw [List.drop_eq_getElem_cons h, List.takeWhile_cons_of_neg (by simpa using hn h)]
    · rw [List.drop_eq_nil_of_le (by omega)]; rfl
  rw [this, List.append_nil]
set_option maxRecDepth 100000 in
set_option maxHeartbeats 4000000 in
theorem behind_any (A : Option Addr) (c : Nat) (L : List TF) (a : List UInt8) (w : World) (hL : RdF w.heap.size w A L) (hn : L.length ≤ 1048576) (ht : smallF 1048576 L) :
    Calls Try.prog 46 #[.slice A L.length c, .string ⟨a.toArray⟩] w fun e w' => (∃ v, e = .returned v ∧ w'.ownsRow w.heap.size 39 2 v (frontF a L).length (cellsF ((frontF a L).map rstF))) ∧ Below w.heap.size w w' := by
  obtain ⟨i0, hi, hz0, hz1, hz2⟩ := info_parts infoF
  have HL : Hid (RdF w.heap.size w A L) := hL
  have HT : Hid (smallF 1048576 L) := ht
  obtain ⟨s, hs⟩ : ∃ s, ByteArray.mk a.toArray = s := ⟨_, rfl⟩
  have HS : Hid (ByteArray.mk a.toArray = s) := hs
  rw [hs]
  clear hL ht hs
  go_enter Try.func46, Try.ntmps46
  go_wp2
  go_loopw [5, 10] (fun v iv wr => ∃ (j : Nat) (M : List TF), j ≤ L.length ∧ iv = .int .i64 j ∧ Hid (M = (L.take j).map rstF) ∧ Hid (∀ x ∈ L.take j, fstF x = a) ∧ M.length = j ∧ wr.ownsRow w.heap.size 39 2 v M.length (cellsF M) ∧ Below w.heap.size w wr) (fun _ i _ => L.length - (intOf i).toNat)
  case atStart => exact ⟨0, [], Nat.zero_le _, rfl, rfl, (show ∀ x ∈ L.take 0, fstF x = a from by simp), rfl, World.ownsRow_nil _ _ _ _, Below.refl _ _⟩
  case round =>
    obtain ⟨j, M, hj, rfl, HM, HF, hM, hown, hb⟩ := hrel
    have hsz := hb.size
    by_cases hlt : j < L.length
    · obtain ⟨b, o, rfl, hbl, c1, c2⟩ := (HL.out.below hb (Nat.le_refl _)) j hlt
      have hsm := HT.out _ (List.getElem_mem hlt)
      have est : (L.take (j + 1)).map rstF = (L.take j).map rstF ++ [rstF L[j]] := by rw [List.take_succ_eq_append_getElem hlt, List.map_append]; rfl
      rw [← HM.out] at est
      have hfn := front_step a L j hlt HF.out
      have hfe := front_take a L j HF.out
      obtain ⟨y, hy⟩ : ∃ y, L[j] = y := ⟨_, rfl⟩
      rw [hy] at c1 c2 hsm est hfn
      obtain ⟨q, t⟩ := y
      simp only at c1 c2 hsm
      obtain ⟨s1, s2⟩ := hsm
      obtain ⟨fq, hfq⟩ : ∃ fq, ByteArray.mk (firstL q.data.toList).toArray = fq := ⟨_, rfl⟩
      have HFQ : Hid (ByteArray.mk (firstL q.data.toList).toArray = fq) := hfq
      by_cases hfa : fstF ⟨q, t⟩ = a
      · have hfs : fq = s := by rw [← hfq, ← HS.out, ← hfa]; rfl
        subst hfs
        obtain ⟨rq, hrq⟩ : ∃ rq, ByteArray.mk (restL q.data.toList).toArray = rq := ⟨_, rfl⟩
        have HRQ : Hid (ByteArray.mk (restL q.data.toList).toArray = rq) := hrq
        have HE : Hid (M ++ [⟨rq, t⟩] = (L.take (j + 1)).map rstF) := (show _ = _ from by rw [est, ← hrq]; rfl)
        have HF2 : Hid (∀ x ∈ L.take (j + 1), fstF x = a) := hfn hfa
        have e1 : (fq.toList == fq.toList) = true := by simp
        clear est hy hfa hfq hrq HM hfn hfe HF
        have HNB : Hid (∀ k, u5.ownBlock = some k → k < wr.heap.size) := (show ∀ k, u5.ownBlock = some k → k < wr.heap.size from fun k hk => by
          obtain ⟨_, cs, h4⟩ := own_typed hown hk
          rcases Nat.lt_or_ge k wr.heap.size with h5 | h5
          · exact h5
          · rw [Array.getElem?_eq_none h5] at h4; cases h4)
        go_wp2_with (go_at_call 45; refine (first_impl q _ (by omega)).mono ?_; rw [HFQ.out]; rintro e w1 ⟨rfl, hb1⟩; have hB1 : Below wr.heap.size wr w1 := ((Below.refl _ wr).alloc (Nat.le_refl _) _).trans (hb1.mono (by simp)); have d1 : w1.cell? ⟨wr.heap.size, 0, none⟩ = some (.string q) := (hb1.cell (p := ⟨wr.heap.size, 0, none⟩) (by simp)).trans (cells_new wr #[.string q, .string t] _ 0 _ rfl); have d2 : w1.cell? ⟨wr.heap.size, 1, none⟩ = some (.string t) := (hb1.cell (p := ⟨wr.heap.size, 1, none⟩) (by simp)).trans (cells_new wr #[.string q, .string t] _ 1 _ rfl); have hbw1 : wr.heap.size < w1.heap.size := Nat.lt_of_lt_of_le (by simp) hb1.size; replace hown := ownsUnder hown hB1 (Nat.le_refl _); have HO1 : Hid (w1.ownsRow w.heap.size 39 2 u5 M.length (cellsF M)) := hown; replace hb := hb.trans (hB1.mono hsz); have D1 : Hid (w1.cell? ⟨wr.heap.size, 0, none⟩ = some (.string q)) := d1; have D2 : Hid (w1.cell? ⟨wr.heap.size, 1, none⟩ = some (.string t)) := d2; clear hb1 hB1)
        have hsz1 : w.heap.size ≤ w1.heap.size := by omega
        go_region_held_law (fun w' => w'.cell? ⟨wr.heap.size, 0, none⟩ = some (.string q) ∧ w'.cell? ⟨wr.heap.size, 1, none⟩ = some (.string t)) (first | exact ⟨d1, d2⟩ | exact SS6 | exact SS | exact ⟨(World.cell?_alloc_lt _ _ _ hbw2).trans SS.1, (World.cell?_alloc_lt _ _ _ hbw2).trans SS.2⟩ | go_keep)
          (first
            | (go_at_call 54; refine (rest_on q w1 _ (by first | exact Below.refl _ _ | exact (Below.refl _ _).drew) (by omega)).mono ?_; rw [HRQ.out]; rintro e w2 ⟨rfl, HB2⟩; have hs2 := HB2.size; have SS : w2.cell? ⟨wr.heap.size, 0, none⟩ = some (.string q) ∧ w2.cell? ⟨wr.heap.size, 1, none⟩ = some (.string t) := ⟨(HB2.cell (p := ⟨wr.heap.size, 0, none⟩) hbw1).trans D1.out, (HB2.cell (p := ⟨wr.heap.size, 1, none⟩) hbw1).trans D2.out⟩; have hbw2 : wr.heap.size < w2.heap.size := Nat.lt_of_lt_of_le hbw1 hs2)
            | (refine stepApp3 _ (by rfl) (by rfl) _ _ 27 (by rfl) w.heap.size 39 i0 (.agg #[.string ByteArray.empty, .string ByteArray.empty]) 2 32 Try.underlying27 hi hz0 hz1 hz2 rfl (by omega) u5 M.length (cellsF M) (by rfl) (by first | exact ownsUnder HO1.out (HB2.alloc hs2 _) (Nat.le_refl _) | exact ownsUnder HO1.out ((HB2.alloc hs2 _).drew) (Nat.le_refl _)) ⟨w2.heap.size, 0, none⟩ 1 1 [.string rq, .string t] (by rfl) rfl (World.news_of_block (heap_alloc_new w2 _)) (fun u hu => by simp at hu; rcases hu with rfl | rfl <;> rfl) (by unfold maxLen; omega) (by omega) (by first | exact Nat.le_trans hsz1 (Nat.le_trans hs2 (by simp)) | (simp; omega)) ?_; intro v6 w6 o6 gr6 _; have HB6 : Below w.heap.size w w6 := (by first | exact growOwn ((hb.trans (HB2.mono hsz1)).alloc (Nat.le_trans hsz1 hs2) _) (Nat.le_trans hsz1 (Nat.le_trans hs2 (by simp))) (ownsUnder HO1.out (HB2.alloc hs2 _) (Nat.le_refl _)) gr6 (Nat.le_refl _) | exact growOwn (((hb.trans (HB2.mono hsz1)).alloc (Nat.le_trans hsz1 hs2) _).drew) (Nat.le_trans hsz1 (Nat.le_trans hs2 (by simp))) (ownsUnder HO1.out ((HB2.alloc hs2 _).drew) (Nat.le_refl _)) gr6 (Nat.le_refl _)); have SS6 : w6.cell? ⟨wr.heap.size, 0, none⟩ = some (.string q) ∧ w6.cell? ⟨wr.heap.size, 1, none⟩ = some (.string t) := ⟨(World.cell?_of_block (a := ⟨wr.heap.size, 0, none⟩) (gr6.block wr.heap.size (by simp; omega) (fun e9 => absurd (HNB.out wr.heap.size e9.symm) (Nat.lt_irrefl _)))).trans ((World.cell?_alloc_lt _ _ _ hbw2).trans SS.1), (World.cell?_of_block (a := ⟨wr.heap.size, 1, none⟩) (gr6.block wr.heap.size (by simp; omega) (fun e9 => absurd (HNB.out wr.heap.size e9.symm) (Nat.lt_irrefl _)))).trans ((World.cell?_alloc_lt _ _ _ hbw2).trans SS.2)⟩))
        all_goals
          go_wp2
          go_roundw
          case rel =>
            refine ⟨j + 1, M ++ [⟨rq, t⟩], by omega, by go_num, HE, HF2, by simp; omega, ?_, HB6⟩
            rw [cellsF_snoc, List.length_append]
            exact o6
          case measure => simp [intOf]; omega
      · have hne : fq ≠ s := fun e => hfa (by
          have h1 := congrArg (fun z : ByteArray => z.data.toList) (hfq.trans (e.trans HS.out.symm))
          simpa [fstF] using h1)
        have e1 : (fq.toList == s.toList) = false := by
          rw [Lib.toList_data, Lib.toList_data]
          simpa using fun e => hne (pa_eqB e)
        have HK : Hid (M = (frontF a L).map rstF) := (show _ = _ from by rw [HM.out, hfe (fun _ => by rw [hy]; exact hfa)])
        have HK2 : Hid (M.length = (frontF a L).length) := (show _ = _ from by rw [HK.out, List.length_map])
        clear est hy hfa hne hfq HM hfn hfe
        go_wp2_with (go_at_call 45; refine (first_impl q _ (by omega)).mono ?_; rw [HFQ.out]; rintro e w1 ⟨rfl, hb1⟩; have hB1 : Below wr.heap.size wr w1 := ((Below.refl _ wr).alloc (Nat.le_refl _) _).trans (hb1.mono (by simp)); replace hown := ownsUnder hown hB1 (Nat.le_refl _); replace hb := hb.trans (hB1.mono hsz); clear hb1 hB1)
        go_ret
        rw [← HK.out, ← HK2.out]
        exact ⟨⟨_, rfl, hown⟩, hb⟩
    · go_wp2
      go_ret
      obtain rfl : j = L.length := by omega
      have e := HM.out
      rw [List.take_length] at e
      have ef := front_take a L L.length HF.out (fun h => absurd h (Nat.lt_irrefl _))
      rw [List.take_length] at ef
      rw [ef]
      subst e
      rw [List.length_map] at hown
      exact ⟨⟨_, rfl, hown⟩, hb⟩
end Go.Proofs.Ytgbcgchnnmgmfaa.W
