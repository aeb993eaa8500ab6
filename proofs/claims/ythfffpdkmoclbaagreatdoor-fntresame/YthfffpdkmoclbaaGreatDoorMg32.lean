/-
  What PolPut answers, by cases: nothing put; a clash; or the text found under its id, all others as before. No condition.
  The walk of the exact laws' own 'markText': a mark's text. Marks of at most 100000000.
  The walks of the exact laws' own 'markPolItemS' and 'heldPolItemS': a row is written over with marks; marks are held. Rows of at most 1048576 items.
-/
import Derived.Test.YthfffpdkmoclbaaGreatDoorMg31
import Derived.Test.YthfffpdkmoclbaaGreatDoorMg01
import Derived.BigQuiet
import Derived.Deep.QuietTactic
import Derived.Deep.RegionWith
import Derived.Below
import Derived.Test.YthfffpdkmoclbaaGreatDoorMg30
namespace Go.Proofs.YthfffpdkmoclbaaGreatDoor.W
open Go.Proofs.YthfffpdkmoclbaaGreatDoor.M

/-- a text that is put lies under its id, what lay lies on -/
structure WasPut (L : List PI) (s : ByteArray) (X : List PI) (n c : Int) : Prop where
  id : n = (idOfN s.data.toList : Int)
  ok : okP X = true
  found : findP X n = some s
  again : putR X s = (X, n, 2)
  code : c = 1 ∨ c = 2
  new : (c = 1 ↔ X.length = L.length + 1)
  kept : ∀ x ∈ L, findP X x.id = some x.tx
  mem : ∀ x ∈ X, x ∈ L ∨ x = ⟨n, s⟩
  len : X.length ≤ L.length + 1
theorem findP_mem (L : List PI) (hr : RiseP L) : ∀ x ∈ L, findP L x.id = some x.tx := fun x hx => by
  obtain ⟨j, hj, rfl⟩ := List.getElem_of_mem hx
  exact findP_at L j hj hr
theorem findP_in (L : List PI) (n : Int) (t : ByteArray) (h : findP L n = some t) : ⟨n, t⟩ ∈ L := by
  induction L with
  | nil => cases h
  | cons y l ih =>
    unfold findP at h
    by_cases hy : y.id = n
    · rw [if_pos hy] at h
      cases h; subst hy
      exact List.mem_cons_self ..
    · rw [if_neg hy] at h
      exact List.mem_cons_of_mem _ (ih h)
theorem putR_cases (L : List PI) (s : ByteArray) :
    ((okP L = false ∨ kd s = 0) ∧ putR L s = ([], 0, 4)) ∨
    (okP L = true ∧ kd s ≠ 0 ∧ putR L s = (L, 0, 3)) ∨
    (okP L = true ∧ kd s ≠ 0 ∧ WasPut L s (putR L s).1 (putR L s).2.1 (putR L s).2.2) := by
  by_cases h : okP L = true ∧ kd s ≠ 0
  · obtain ⟨hk, hd⟩ := h
    have e : putR L s = putPool L (idOfN s.data.toList) s := by unfold putR; rw [if_pos ⟨hk, hd⟩]
    obtain ⟨h7, hi, hr⟩ := (okP_iff L).1 hk
    cases hf : findP L (idOfN s.data.toList) with
    | some t =>
      by_cases ht : t = s
      · subst ht
        have e2 : putPool L (idOfN t.data.toList) t = (L, (idOfN t.data.toList : Int), 2) := by unfold putPool; rw [hf]; simp
        refine .inr (.inr ⟨hk, hd, ?_⟩)
        rw [e, e2]
        exact ⟨rfl, hk, hf, by rw [e, e2], .inr rfl, by simp, findP_mem L hr, fun x hx => .inl hx, by simp⟩
      · have e2 : putPool L (idOfN s.data.toList) s = (L, 0, 3) := by unfold putPool; rw [hf]; simp [ht]
        exact .inr (.inl ⟨hk, hd, by rw [e, e2]⟩)
    | none =>
      by_cases h0 : L.length = 700
      · have e2 : putPool L (idOfN s.data.toList) s = (L, 0, 3) := by unfold putPool; rw [hf]; simp [h0]
        exact .inr (.inl ⟨hk, hd, by rw [e, e2]⟩)
      · have e2 : putPool L (idOfN s.data.toList) s = (insP L ⟨idOfN s.data.toList, s⟩, (idOfN s.data.toList : Int), 1) := by unfold putPool; rw [hf]; simp [h0]
        have hx : findP L (⟨(idOfN s.data.toList : Int), s⟩ : PI).id = none := hf
        have hr2 := riseP_ins L ⟨idOfN s.data.toList, s⟩ hr hx
        have hl2 := len_insP L ⟨idOfN s.data.toList, s⟩
        have hk2 : okP (insP L ⟨idOfN s.data.toList, s⟩) = true := (okP_iff _).2 ⟨by omega, fun x hm => by
          rcases (mem_insP ..).1 hm with hm | rfl
          · exact hi x hm
          · exact ⟨hd, rfl⟩, hr2⟩
        have hf2 : findP (insP L ⟨idOfN s.data.toList, s⟩) (idOfN s.data.toList) = some s := by
          rw [findP_ins L _ _ hx]; exact if_pos rfl
        refine .inr (.inr ⟨hk, hd, ?_⟩)
        rw [e, e2]
        refine ⟨rfl, hk2, hf2, ?_, .inl rfl, by simp [hl2], fun x hm => ?_, fun x hm => (mem_insP ..).1 hm, Nat.le_of_eq hl2⟩
        · unfold putR
          rw [if_pos ⟨hk2, hd⟩]
          unfold putPool; rw [hf2]; simp
        · rw [findP_ins L _ _ hx, if_neg (show ¬ x.id = (idOfN s.data.toList : Int) from (findP_none ..).1 hf x hm)]
          exact findP_mem L hr x hm
  · refine .inl ⟨?_, by unfold putR; rw [if_neg h]⟩
    by_cases hk : okP L = true
    · exact .inr (Classical.byContradiction fun hd => h ⟨hk, hd⟩)
    · exact .inl (by simpa using hk)
/-- items that were drawn: short texts, ids that are small -/
def smP (L : List PI) : Prop := ∀ x ∈ L, x.tx.size ≤ 1000 ∧ -1 ≤ x.id ∧ x.id ≤ 5000000000
theorem smP_put (L : List PI) (s : ByteArray) (h : smP L) (hs : s.size ≤ 1000) : smP (putR L s).1 := by
  have hb := idOfN_bd s.data.toList
  rcases putR_cases L s with ⟨_, e⟩ | ⟨_, _, e⟩ | ⟨_, _, hp⟩
  · rw [e]; exact fun x hx => by cases hx
  · rw [e]; exact h
  · intro x hx
    rcases hp.mem x hx with hx | rfl
    · exact h x hx
    · have := hp.id
      exact ⟨hs, by show -1 ≤ (putR L s).2.1; omega, by show (putR L s).2.1 ≤ 5000000000; omega⟩
theorem putR_len (L : List PI) (s : ByteArray) (h : L.length ≤ 700) : (putR L s).1.length ≤ 700 := by
  rcases putR_cases L s with ⟨_, e⟩ | ⟨_, _, e⟩ | ⟨_, _, hp⟩
  · rw [e]; simp
  · rw [e]; exact h
  · exact ((okP_iff _).1 hp.ok).1
/-- items whose texts are short -/
def shP (L : List PI) : Prop := ∀ x ∈ L, x.tx.size ≤ 1000
theorem smP.sh {L : List PI} (h : smP L) : shP L := fun x hx => (h x hx).1
theorem shP_sz (L : List PI) (h : shP L) : szP L ≤ L.length * 1000 := by
  induction L with
  | nil => simp [szP]
  | cons x l ih =>
    have h1 := ih fun y hy => h y (List.mem_cons_of_mem _ hy)
    have h2 := h x (List.mem_cons_self ..)
    simp [szP] at h1 ⊢
    omega
end Go.Proofs.YthfffpdkmoclbaaGreatDoor.W
namespace Go.Proofs.YthfffpdkmoclbaaGreatDoor.W
open Go.RowKit
theorem size_mkT (l : List UInt8) : (ByteArray.mk l.toArray).size = l.length := by simp [ByteArray.size]

/-- the decimals of a number, ahead of what is there already -/
def decA : Nat → Nat → List UInt8 → List UInt8
  | 0, _, acc => acc
  | f + 1, n, acc => if n = 0 then acc else decA f (n / 10) (UInt8.ofNat (48 + n % 10) :: acc)
/-- the text of a mark -/
def markL (k : Nat) : List UInt8 := 109 :: decA k k []
theorem decA_zero (f : Nat) (acc : List UInt8) : decA f 0 acc = acc := by cases f <;> simp [decA]
theorem decA_step (f n : Nat) (acc : List UInt8) (h : 1 ≤ n) (hf : n ≤ f) : ∃ f', n / 10 ≤ f' ∧ decA f n acc = decA f' (n / 10) (UInt8.ofNat (48 + n % 10) :: acc) := by
  cases f with
  | zero => omega
  | succ f => exact ⟨f, by omega, by simp only [decA]; rw [if_neg (by omega)]⟩
theorem conv1v (w : World) (v : Int) : (convert 22 9 (.slice (some ⟨w.heap.size, 0, none⟩) 1 1)).run Tryz.prog (w.alloc (.cells #[.int .u8 v] 5)) = .ok (.string (strOfNums [v])) (w.alloc (.cells #[.int .u8 v] 5)) :=
  run_convert_bytes_arg (P := Tryz.prog) (w.alloc (.cells #[.int .u8 v] 5)) 22 5 Tryz.underlying22 Tryz.underlying5 w.heap.size 0 1 1 [v] rfl (fun i hi => by
    obtain rfl : i = 0 := by omega
    simp) 9 Tryz.underlying9
theorem str1e (v : Int) : strOfNums [v] = ⟨#[UInt8.ofNat v.toNat]⟩ := by apply ByteArray.ext; simp [strOfNums]
theorem str1v (v : Int) : (strOfNums [v]).size = 1 := by rw [str1e]; rfl
theorem digC (n : Nat) : strOfNums [48 + (n : Int) % 10] = ⟨#[UInt8.ofNat (48 + n % 10)]⟩ := by
  rw [str1e]
  have : (48 + (n : Int) % 10).toNat = 48 + n % 10 := by omega
  rw [this]
theorem cons_mk (c : UInt8) (x : List UInt8) : (ByteArray.mk #[c] ++ ByteArray.mk x.toArray) = ⟨(c :: x).toArray⟩ := by
  apply ByteArray.ext; simp

set_option maxHeartbeats 1000000 in
theorem markText_any (k : Nat) (w : World) (h1 : 1 ≤ k) (h2 : k ≤ 100000000) :
    Calls Tryz.prog 77 #[.int .i64 k] w fun e w' => e = .returned (.string ⟨(markL k).toArray⟩) ∧ Below w.heap.size w w' := by
  have kc := conv1v
  have ks := str1v
  go_enter Tryz.func77, Tryz.ntmps77
  go_wp2
  go_loopw [0, 3] (fun nn o wr => ∃ (n f : Nat) (acc : List UInt8), nn = .int .i64 n ∧ o = .string ⟨acc.toArray⟩ ∧ n ≤ f ∧ n ≤ k ∧ acc.length + n ≤ k ∧ Hid (decA k k [] = decA f n acc) ∧ Below w.heap.size w wr) (fun nn _ _ => (intOf nn).toNat)
  case atStart => exact ⟨k, k, [], rfl, rfl, Nat.le_refl _, Nat.le_refl _, by simp, rfl, Below.refl _ _⟩
  case round =>
    obtain ⟨n, f, acc, rfl, rfl, hf, hnk, hacc, HD, hb⟩ := hrel
    have hsz := size_mkT acc
    by_cases hn : 1 ≤ n
    · have hpos : 0 < n := by omega
      go_wp2
      go_roundw
      case rel =>
        obtain ⟨f', hf', e'⟩ := decA_step f n acc hn hf
        exact ⟨n / 10, f', UInt8.ofNat (48 + n % 10) :: acc, by go_num, by rw [digC, cons_mk], hf', by omega, by simp; omega, HD.out.trans e', hb.alloc hb.size _⟩
      case measure => simp [intOf]; omega
    · go_wp2
      go_ret
      obtain rfl : n = 0 := by omega
      have e := HD.out
      rw [decA_zero] at e
      exact ⟨ret_str (by rw [cons_mk]; unfold markL; rw [e]), hb⟩

end Go.Proofs.YthfffpdkmoclbaaGreatDoor.W
namespace Go.Proofs.YthfffpdkmoclbaaGreatDoor.W
open Go.RowKit

theorem cellsP_set (L : List PI) (j : Nat) (x : PI) : ((cellsP L).set (j * 2) (.int .i64 x.id)).set (j * 2 + 1) (.string x.tx) = cellsP (L.set j x) := by
  induction L generalizing j with
  | nil => simp [cellsP]
  | cons y l ih =>
    have e : ∀ (z : PI) (m : List PI), cellsP (z :: m) = .int .i64 z.id :: .string z.tx :: cellsP m := fun z m => by simp [cellsP]
    cases j with
    | zero => rw [List.set_cons_zero, e, e]; rfl
    | succ j =>
      rw [List.set_cons_succ, e, e, ← ih j, show (j + 1) * 2 = j * 2 + 1 + 1 by omega]
      simp
/-- items of marks, from k on -/
def mkP (k n : Nat) : List PI := (List.range n).map fun j => ⟨((k + j * 2 : Nat) : Int), ⟨(markL (k + j * 2 + 1)).toArray⟩⟩
theorem mkP_length (k n : Nat) : (mkP k n).length = n := by simp [mkP]
def markedP (L : List PI) (k j : Nat) : List PI := mkP k j ++ L.drop j
theorem markedP_zero (L : List PI) (k : Nat) : markedP L k 0 = L := by simp [markedP, mkP]
theorem markedP_all (L : List PI) (k : Nat) : markedP L k L.length = mkP k L.length := by simp [markedP]
theorem markedP_length (L : List PI) (k j : Nat) (h : j ≤ L.length) : (markedP L k j).length = L.length := by simp [markedP, mkP_length]; omega
theorem markedP_step (L : List PI) (k j : Nat) (h : j < L.length) : (markedP L k j).set j ⟨((k + j * 2 : Nat) : Int), ⟨(markL (k + j * 2 + 1)).toArray⟩⟩ = markedP L k (j + 1) := by
  unfold markedP
  rw [List.set_append_right _ _ (by rw [mkP_length]; omega), mkP_length, Nat.sub_self, List.drop_eq_getElem_cons h, List.set_cons_zero]
  have e : mkP k (j + 1) = mkP k j ++ [⟨((k + j * 2 : Nat) : Int), ⟨(markL (k + j * 2 + 1)).toArray⟩⟩] := by
    unfold mkP; rw [List.range_succ, List.map_append]; rfl
  rw [e]; simp
theorem mkP_get (k n j : Nat) (h : j < (mkP k n).length) : (mkP k n)[j] = ⟨((k + j * 2 : Nat) : Int), ⟨(markL (k + j * 2 + 1)).toArray⟩⟩ := by simp [mkP]

/-- only the row at block g, and new blocks, have turned -/
def ButRow (g : Nat) (w w' : World) : Prop := w.grownBy w' (some g)
theorem ButRow.refl (g : Nat) (w : World) : ButRow g w w := ⟨rfl, rfl, rfl, Nat.le_refl _, fun _ _ _ => rfl⟩
theorem ButRow.trans {g : Nat} {a b c : World} (h : ButRow g a b) (k : ButRow g b c) : ButRow g a c :=
  ⟨k.os.trans h.os, k.tape.trans h.tape, k.output.trans h.output, Nat.le_trans h.size k.size, fun i hi hn => (k.block i (Nat.lt_of_lt_of_le hi h.size) hn).trans (h.block i hi hn)⟩
theorem ButRow.setCell (g : Nat) (w : World) (j : Nat) (u : Value) : ButRow g w (w.setCell ⟨g, j, none⟩ u) :=
  ⟨rfl, rfl, rfl, by simp [World.setCell], fun k _ hn => Below.heap_setCell _ _ _ _ (fun e => hn (by rw [e]))⟩
theorem ButRow.of_below {g : Nat} {w w' : World} (h : Below w.heap.size w w') : ButRow g w w' := ⟨h.os, h.tape, h.output, h.size, fun k hk _ => h.block k hk⟩
theorem ButRow.below {g B : Nat} {a w w' : World} (hb : Below B a w) (h : ButRow g w w') (hB : B ≤ w.heap.size) (hg : B ≤ g) : Below B a w' := hb.grown h hB (fun k e => by cases e; exact hg)

set_option maxHeartbeats 1000000 in
theorem markPS_any (base g cap k : Nat) (L : List PI) (w : World) (hown : w.ownsRow base 35 2 (.slice (some ⟨g, 0, none⟩) L.length cap) L.length (cellsP L)) (h1 : 1 ≤ k) (h2 : k + L.length * 2 ≤ 10000000) :
    Calls Tryz.prog 44 #[.slice (some ⟨g, 0, none⟩) L.length cap, .int .i64 k] w fun e w' => e = .returned (.int .i64 ((k + L.length * 2 : Nat) : Int)) ∧ w'.ownsRow base 35 2 (.slice (some ⟨g, 0, none⟩) L.length cap) L.length (cellsP (mkP k L.length)) ∧ ButRow g w w' := by
  go_enter Tryz.func44, Tryz.ntmps44
  go_wp2
  go_loopw [1, 5] (fun kk i wr => ∃ j : Nat, j ≤ L.length ∧ i = .int .i64 j ∧ kk = .int .i64 ((k + j * 2 : Nat) : Int) ∧ wr.ownsRow base 35 2 (.slice (some ⟨g, 0, none⟩) L.length cap) L.length (cellsP (markedP L k j)) ∧ ButRow g w wr) (fun _ i _ => L.length - (intOf i).toNat)
  case atStart => exact ⟨0, Nat.zero_le _, rfl, rfl, by rw [markedP_zero]; exact hown, ButRow.refl _ _⟩
  case round =>
    obtain ⟨j, hj, rfl, rfl, hrow, hb⟩ := hrel
    by_cases hlt : j < L.length
    · obtain ⟨u1, hu1⟩ := ownsCell hrow (j * 2) (by omega)
      have hf1 := hrow.frozenAt (j * 2)
      have HR : Hid (wr.ownsRow base 35 2 (.slice (some ⟨g, 0, none⟩) L.length cap) L.length (cellsP (markedP L k j))) := hrow
      have HB : Hid (ButRow g w wr) := hb
      clear hrow hb
      go_wp2_with (go_at_call 77; refine (markText_any (k + j * 2 + 1) _ (by omega) (by omega)).mono ?_; rintro e w1 ⟨rfl, hb1⟩; have hrow1 := ownsUnder (HR.out.stored (j * 2) (.int .i64 ((k + j * 2 : Nat) : Int))).1 hb1 (Nat.le_refl _); have hf2 := hrow1.frozenAt (j * 2 + 1); obtain ⟨u2, hu2⟩ := ownsCell hrow1 (j * 2 + 1) (by omega))
      go_roundw
      case rel =>
        have hst := (hrow1.stored (j * 2 + 1) (.string ⟨(markL (k + j * 2 + 1)).toArray⟩)).1
        have est := cellsP_set (markedP L k j) j ⟨((k + j * 2 : Nat) : Int), ⟨(markL (k + j * 2 + 1)).toArray⟩⟩
        rw [markedP_step L k j hlt] at est
        rw [est] at hst
        exact ⟨j + 1, by omega, by go_num, by go_num, hst, ((HB.out.trans (ButRow.setCell g wr (j * 2) _)).trans (ButRow.of_below hb1)).trans (ButRow.setCell g w1 (j * 2 + 1) _)⟩
      case measure => simp [intOf]; omega
    · go_wp2
      go_ret
      obtain rfl : j = L.length := by omega
      rw [markedP_all] at hrow
      exact ⟨rfl, hrow, hb⟩

end Go.Proofs.YthfffpdkmoclbaaGreatDoor.W
