/-
  The draws of a bent text and of an object's text, with the reader behind them: of what lay nothing but the reader has turned. Texts of at most 1000 bytes.
  The texts that are laid for short files are short. No condition.
  Rows of items of a pool: what it is that a slice reads as items; the walks of the exact laws' own helpers on them: 'szPolItem', 'szPolItemS', 'toPolItem', 'eqPolItem'. No condition but those named.
-/
import Derived.Test.YthfffpdkmoclbaaGreatDoorMg23
import Derived.Test.YthfffpdkmoclbaaGreatDoorMg28
import Derived.Test.YthfffpdkmoclbaaGreatDoorMg17
import Derived.Test.YthfffpdkmoclbaaGreatDoorMg20
import Derived.Test.YthfffpdkmoclbaaGreatDoorMg01
import Derived.OwnWalk
import Derived.Below
import Derived.BigQuiet
import Derived.Deep.QuietTactic
import Derived.Deep.RegionWith
namespace Go.Proofs.YthfffpdkmoclbaaGreatDoor.W
open Go.RowKit Go.Proofs.YthfffpdkmoclbaaGreatDoor.M

set_option maxHeartbeats 2000000 in
theorem bent_on (w : World) (rb p : Nat) (a : Option Addr) (len cap : Nat) (zs : Nat → Int) (s : ByteArray) (h : Rd w rb p a len cap zs) (hp : p ≤ 900000) (hlt : rb < w.heap.size) (hs : s.size ≤ 1000) :
    Calls Tryz.prog 83 #[.pointer (some ⟨rb, 0, none⟩), .string s] w fun e w' => ∃ (t : ByteArray) (p' : Nat), e = .returned (.string t) ∧ t.size ≤ s.size + 1 ∧ p' ≤ p + 5 ∧ Rd w' rb p' a len cap zs ∧ w.grownBy w' (some rb) := by
  have kc := conv1i
  have ks := str1_size
  go_enter Tryz.func83, Tryz.ntmps83
  go_wp2_with (first
    | (go_at_call 49; refine (pick_any _ rb p a len cap (s.size + 1) zs h (by omega) (by omega) (by omega)).mono ?_; rintro e w1 ⟨k, hk, rfl, hR1, hg1⟩; clear h; have hl1 : rb < w1.heap.size := Nat.lt_of_lt_of_le hlt hg1.size)
    | (go_at_call 49; refine (pick_any _ rb _ a len cap 256 zs hR1 (by omega) (by omega) (by omega)).mono ?_; rintro e w2 ⟨v1, hv1, rfl, hR2, hg2⟩; clear hR1; have hl2 : rb < w2.heap.size := Nat.lt_of_lt_of_le hl1 hg2.size)
    | (go_at_call 49; refine (pick_any _ rb _ a len cap 8 zs (hR2.alloc hl2 _) (by omega) (by omega) (by omega)).mono ?_; rintro e w3 ⟨v, hv, rfl, hR3, hg3⟩; clear hR2; obtain ⟨n, hcell, hn1, hn2⟩ := litInts8 _ hg3 hl2 v hv (by omega) (by omega); have hl3 : rb < w3.heap.size := Nat.lt_of_lt_of_le (by simp; omega) hg3.size)
    | (go_at_call 49; refine (pick_any _ rb _ a len cap 3 zs (hR3.alloc hl3 _) (by omega) (by omega) (by omega)).mono ?_; rintro e w4 ⟨v4, hv4, rfl, hR4, hg4⟩; clear hR3; have hl4 : rb < w4.heap.size := Nat.lt_of_lt_of_le (by simp; omega) hg4.size)
    | (go_at_call 49; refine (pick_any _ rb _ a len cap 2 zs hR4 (by omega) (by omega) (by omega)).mono ?_; rintro e w5 ⟨v5, hv5, rfl, hR5, hg5⟩; have hl5 : rb < w5.heap.size := Nat.lt_of_lt_of_le hl4 hg5.size))
  · go_quiet (fail)
    go_wp2
    go_ret
    exact ⟨_, p + 1 + 1 + 1 + 1, rfl, by simp [ByteArray.size_append, ByteArray.size_extract, ks]; omega, by omega, hR4.kept (row := none) (gdrewN _ _) (fun _ e => by cases e) hl4, gtrans (gtrans (gtrans (gtrans (gtrans (gtrans hg1 hg2) (galloc _ _)) hg3) (galloc _ _)) hg4) (gdrewN _ _)⟩
  · go_ret
    exact ⟨_, p + 1 + 1 + 1 + 1, rfl, by simp [ByteArray.size_append, ks], by omega, hR4, gtrans (gtrans (gtrans (gtrans (gtrans hg1 hg2) (galloc _ _)) hg3) (galloc _ _)) hg4⟩
  all_goals
    have hk' : k < s.size := by
      have := ‹((k : Int) == (s.size : Int)) = false›
      simp at this; omega
    go_quiet (fail)
    go_wp2
    go_ret
    exact ⟨_, p + 1 + 1 + 1 + 1 + 1, rfl, by simp [ByteArray.size_append, ByteArray.size_extract, ks]; omega, by omega, hR5.kept (row := none) (gdrewN _ _) (fun _ e => by cases e) hl5, gtrans (gtrans (gtrans (gtrans (gtrans (gtrans (gtrans hg1 hg2) (galloc _ _)) hg3) (galloc _ _)) hg4) hg5) (gdrewN _ _)⟩

theorem leafB_size9 (b : ByteArray) (h : b.size ≤ 64) : (leafB b).size ≤ 65 := by
  by_cases h6 : b.size ≤ 6
  · rw [← leafB_yes b h6, ByteArray.size_append]
    show 1 + b.size ≤ 65
    omega
  · rw [leaf_no b h6]; decide
set_option maxRecDepth 100000 in
set_option maxHeartbeats 2000000 in
theorem text_on (w : World) (rb n p : Nat) (ad : Option Addr) (len cap : Nat) (zs : Nat → Int) (h : Rd w rb p ad len cap zs) (hp : p ≤ 300000) (hlt : rb < w.heap.size) (hn : 1 ≤ n) (hn2 : n ≤ 1000000) :
    Calls Tryz.prog 50 #[.pointer (some ⟨rb, 0, none⟩), .int .i64 n] w fun e w' => ∃ (s : ByteArray) (p' : Nat), e = .returned (.string s) ∧ s.size ≤ 200 ∧ p' ≤ p + 500 ∧ Rd w' rb p' ad len cap zs ∧ w.grownBy w' (some rb) := by
  go_enter Tryz.func50, Tryz.ntmps50
  go_wp2_with (first
    | (go_at_call 80; refine (bytes_any w rb p ad len cap zs h (by omega) hlt).mono ?_; rintro e w1 ⟨b, p1, rfl, hb, hp1, hR1, hg1⟩; clear h; have hz1 := hg1.size)
    | (go_at_call 79; refine (leaf_spec b _ (by unfold maxLen; omega)).mono ?_; rintro e w2 ⟨rfl, rfl⟩; obtain ⟨S, hS⟩ : ∃ S, S = leafB b := ⟨_, rfl⟩; have hSz : S.size ≤ 65 := (by rw [hS]; exact leafB_size9 b hb); rw [← hS]; clear hS)
    | (go_at_call 49; refine (pick_any w1 rb p1 ad len cap 2 zs hR1 (by omega) (by omega) (by omega)).mono ?_; rintro e w3 ⟨v3, hv3, rfl, hR3, hg3⟩; clear hR1; have hz3 := hg3.size; have G3 := gtrans hg1 hg3)
    | (go_at_call 82; refine (entries_any w3 rb 99 (p1 + 1) ad len cap zs hR3 (by omega) (by omega) (by omega) (by omega)).mono ?_; rintro e w4 ⟨v, L, p4, rfl, h1, h2, h3, h4, hp4, hR4, hg4⟩; have hz4 := hg4.size; have G4 := gtrans G3 hg4; obtain ⟨A, c, rfl, rd⟩ := rdO_of_own h4; have HT : Hid (∀ j (h : j < L.length), (L[j]).nm.size ≤ 1048576) := (fun j hj => (by have := h3 _ (List.getElem_mem hj); omega)))
    | (go_at_call 81; refine (sheet_spec A c L _ rd (by omega) HT.out).mono ?_; rintro e w5 ⟨rfl, hb5⟩; have hz5 := hb5.size; have hR5 := rdBelow hR4 hb5 (by omega); have G5 := gtrans G4 (bGrow hb5); obtain ⟨T, hT⟩ : ∃ T, T = shB L := ⟨_, rfl⟩; have hTz : T.size ≤ 100 := (by rw [hT]; exact shB_size L h2); rw [show (ByteArray.mk (sheetT (L.map enO)).toArray) = T from hT.symm]; clear hT)
    | (go_at_call 49; refine (pick_any w5 rb p4 ad len cap n zs hR5 (by omega) (by omega) (by omega)).mono ?_; rintro e w6 ⟨v6, hv6, rfl, hR6, hg6⟩; have hz6 := hg6.size; have G6 := gtrans G5 hg6)
    | (go_at_call 49; refine (pick_any w3 rb (p1 + 1) ad len cap n zs hR3 (by omega) (by omega) (by omega)).mono ?_; rintro e w7 ⟨v7, hv7, rfl, hR7, hg7⟩; have hz7 := hg7.size; have G7 := gtrans G3 hg7)
    | (go_at_call 83; refine (bent_on w6 rb (p4 + 1) ad len cap zs T hR6 (by omega) (by omega) (by omega)).mono ?_; rintro e w8 ⟨t, p8, rfl, ht, hp8, hR8, hg8⟩)
    | (go_at_call 83; refine (bent_on w7 rb (p1 + 1 + 1) ad len cap zs S hR7 (by omega) (by omega) (by omega)).mono ?_; rintro e w8 ⟨t, p8, rfl, ht, hp8, hR8, hg8⟩))
  · go_ret
    exact ⟨t, p8, rfl, by omega, by omega, hR8, gtrans G6 hg8⟩
  · go_ret
    exact ⟨T, p4 + 1, rfl, by omega, by omega, hR6, G6⟩
  · go_ret
    exact ⟨t, p8, rfl, by omega, by omega, hR8, gtrans G7 hg8⟩
  · go_ret
    exact ⟨S, p1 + 1 + 1, rfl, by omega, by omega, hR7, G7⟩
end Go.Proofs.YthfffpdkmoclbaaGreatDoor.W
namespace Go.Proofs.YthfffpdkmoclbaaGreatDoor.W
open Go.RowKit Go.Proofs.YthfffpdkmoclbaaGreatDoor.M

theorem layD_short : ∀ (d : Nat) (L : List TF), shortF L → ∀ t ∈ (layD d L).1, t.size ≤ 1000 := by
  intro d
  induction d with
  | zero => intro L _ t ht; cases ht
  | succ d ih =>
    intro L hL t ht
    obtain ⟨a, _, ht⟩ := List.mem_flatMap.1 ht
    have hP : shortF (partF L a) := part_small L a 64 hL
    unfold grpOf at ht
    split at ht
    · rename_i x hx
      have hm : x ∈ partF L a := by
        revert hx
        unfold leafP
        split
        · rename_i y he
          intro hx
          split at hx
          · cases hx; rw [he]; exact List.mem_cons_self ..
          · cases hx
        · intro hx; cases hx
      have h1 := leafB_size9 x.by_ (hP x hm).2
      obtain rfl : t = leafB x.by_ := by simpa using ht
      omega
    · rcases List.mem_append.1 ht with ht | ht
      · exact ih _ hP t ht
      · obtain rfl : t = sheetOf (layD d (partF L a)).2 := by simpa using ht
        exact sheet_small _
theorem texT_short (L : List TF) (h : shortF L) : ∀ t ∈ texT L, t.size ≤ 1000 := fun t ht => by
  unfold texT at ht
  split at ht
  · unfold layT at ht
    rcases List.mem_append.1 ht with ht | ht
    · exact layD_short 3 L h t ht
    · obtain rfl : t = sheetOf (layD 3 L).2 := by simpa using ht
      exact sheet_small _
  · cases ht
end Go.Proofs.YthfffpdkmoclbaaGreatDoor.W
namespace Go.Proofs.YthfffpdkmoclbaaGreatDoor.W
open Go.RowKit

/-- an item: a number and a text -/
structure PI where
  id : Int
  tx : ByteArray

/-- the cells of items, one behind the other -/
def cellsP (L : List PI) : List Value := L.flatMap fun x => [.int .i64 x.id, .string x.tx]
theorem cellsP_length (L : List PI) : (cellsP L).length = L.length * 2 := by
  induction L with
  | nil => rfl
  | cons x l ih => simp [cellsP] at *; omega
theorem cellsP_snoc (L : List PI) (x : PI) : cellsP (L ++ [x]) = cellsP L ++ [.int .i64 x.id, .string x.tx] := by simp [cellsP]
theorem cellsP_get (L : List PI) (j : Nat) (h : j < L.length) : (cellsP L)[j * 2]? = some (.int .i64 (L[j]).id) ∧ (cellsP L)[j * 2 + 1]? = some (.string (L[j]).tx) := by
  induction L generalizing j with
  | nil => simp at h
  | cons x l ih =>
    have e : cellsP (x :: l) = .int .i64 x.id :: .string x.tx :: cellsP l := by simp [cellsP]
    rw [e]
    cases j with
    | zero => simp
    | succ j =>
      have := ih j (by simpa using h)
      rw [show (j + 1) * 2 = j * 2 + 1 + 1 by omega]
      simpa using this

/-- the slice at A reads as the items L; its block lies below B -/
def RdP (B : Nat) (w : World) (A : Option Addr) (L : List PI) : Prop :=
  ∀ j (h : j < L.length), ∃ b o, A = some ⟨b, o, none⟩ ∧ b < B ∧ w.cell? ⟨b, o + j * 2, none⟩ = some (.int .i64 (L[j]).id) ∧ w.cell? ⟨b, o + j * 2 + 1, none⟩ = some (.string (L[j]).tx)
theorem RdP.below {B B' : Nat} {w w' : World} {A : Option Addr} {L : List PI} (h : RdP B w A L) (hb : Below B' w w') (hB : B ≤ B') : RdP B w' A L := fun j hj => by
  obtain ⟨b, o, e, hl, c1, c2⟩ := h j hj
  exact ⟨b, o, e, hl, (hb.cell (p := ⟨b, _, none⟩) (by show b < B'; omega)).trans c1, (hb.cell (p := ⟨b, _, none⟩) (by show b < B'; omega)).trans c2⟩
theorem RdP.mono {B B' : Nat} {w : World} {A : Option Addr} {L : List PI} (h : RdP B w A L) (hB : B ≤ B') : RdP B' w A L := fun j hj => by
  obtain ⟨b, o, e, hl, c⟩ := h j hj
  exact ⟨b, o, e, by omega, c⟩
theorem RdP.up {w w' : World} {A : Option Addr} {L : List PI} (h : RdP w.heap.size w A L) (hb : Below w.heap.size w w') : RdP w'.heap.size w' A L := (h.below hb (Nat.le_refl _)).mono hb.size
/-- a row that the call made reads as what it holds -/
theorem rdP_of_own {w : World} {base : Nat} {e : TypeId} {v : Value} {L : List PI} (h : w.ownsRow base e 2 v L.length (cellsP L)) : ∃ A c, v = .slice A L.length c ∧ RdP w.heap.size w A L := by
  have hl := h.lt
  rcases h.2 with ⟨rfl, hn⟩ | ⟨g, cap, cur, rfl, _⟩
  · exact ⟨none, 0, by rw [hn], fun j hj => by omega⟩
  · refine ⟨some ⟨g, 0, none⟩, cap, rfl, fun j hj => ⟨g, 0, rfl, (hl g rfl).2, ?_, ?_⟩⟩
    · rw [Nat.zero_add, h.cellAt (j * 2) (by omega)]; exact (cellsP_get L j hj).1
    · rw [Nat.zero_add, h.cellAt (j * 2 + 1) (by omega)]; exact (cellsP_get L j hj).2

/-- how many bytes the texts have -/
def szP (L : List PI) : Nat := (L.map fun x => x.tx.size).sum
theorem szP_snoc (L : List PI) (j : Nat) (h : j < L.length) : szP (L.take (j + 1)) = szP (L.take j) + (L[j]).tx.size := by
  unfold szP
  rw [List.take_succ_eq_append_getElem h]
  simp only [List.map_append, List.sum_append, List.map_cons, List.map_nil, List.sum_cons, List.sum_nil, Nat.add_zero]
theorem szP_le (L : List PI) (j : Nat) : szP (L.take j) ≤ szP L := by
  unfold szP
  conv => rhs; rw [← List.take_append_drop j L]
  simp only [List.map_append, List.sum_append]
  omega

set_option maxHeartbeats 400000 in
theorem szPolItem_fits (i : Int) (t : ByteArray) (left : Nat) (w : World) (hl : left ≤ 1048576) (h : t.size ≤ left) :
    Calls Tryz.prog 74 #[.agg #[.int .i64 i, .string t], .int .i64 left] w fun e w' => e = .returned (.int .i64 ((left - t.size : Nat) : Int)) ∧ Below w.heap.size w w' := by
  go_enter Tryz.func74, Tryz.ntmps74
  go_wp2
  go_ret
  exact ⟨ret_int (by go_num), (Below.refl _ _).alloc (Nat.le_refl _) _⟩

set_option maxHeartbeats 400000 in
theorem szPolItem_over (i : Int) (t : ByteArray) (left : Nat) (w : World) (hl : left ≤ 1048576) (ht : t.size ≤ maxLen) (h : left < t.size) :
    Calls Tryz.prog 74 #[.agg #[.int .i64 i, .string t], .int .i64 left] w fun e w' => e = .returned (.int .i64 (-1)) ∧ Below w.heap.size w w' := by
  unfold maxLen at ht
  go_enter Tryz.func74, Tryz.ntmps74
  go_wp2
  go_ret
  exact ⟨rfl, (Below.refl _ _).alloc (Nat.le_refl _) _⟩

set_option maxHeartbeats 400000 in
theorem toPolItem_any (i : Int) (t : ByteArray) (w : World) :
    Calls Tryz.prog 75 #[.agg #[.int .i64 i, .string t]] w fun e w' => e = .returned (.agg #[.int .i64 i, .string t]) ∧ Below w.heap.size w w' := by
  go_enter Tryz.func75, Tryz.ntmps75
  go_wp2
  refine bodyPost_ret (v := .agg #[.int .i64 i, .string t]) (by simp [results, Tryz.results75, go_sem]) rfl ?_
  exact ⟨rfl, (((Below.refl _ _).alloc (Nat.le_refl _) _).alloc (by simp) _).alloc (by simp; omega) _⟩

set_option maxHeartbeats 400000 in
theorem eqPolItem_same (i : Int) (t : ByteArray) (w : World) :
    Calls Tryz.prog 76 #[.agg #[.int .i64 i, .string t], .agg #[.int .i64 i, .string t]] w fun e w' => e = .returned (.bool true) ∧ Below w.heap.size w w' := by
  go_enter Tryz.func76, Tryz.ntmps76
  go_wp2
  go_ret
  exact ⟨rfl, ((Below.refl _ _).alloc (Nat.le_refl _) _).alloc (by simp) _⟩
end Go.Proofs.YthfffpdkmoclbaaGreatDoor.W
