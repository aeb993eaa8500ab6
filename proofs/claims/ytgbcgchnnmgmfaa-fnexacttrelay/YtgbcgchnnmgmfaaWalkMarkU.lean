/-
  The walk of the exact laws' own 'markText': a mark's text. Marks of at most 100000000.
  The walks of the exact laws' own helpers on rows of texts: 'markStringS', 'heldStringS', 'eqStringS' (WalkMark's, over WalkMarkT, for seats that mark files, too). Rows of at most 1048576 texts.
-/
import Derived.Test.YtgbcgchnnmgmfaaBase
import Derived.BigQuiet
import Derived.Deep.QuietTactic
import Derived.Deep.RegionWith
import Derived.Below
import Derived.Test.YtgbcgchnnmgmfaaWalkPthSpec
namespace Go.Proofs.Ytgbcgchnnmgmfaa.W
open Go.RowKit
theorem size_mkT (l : List UInt8) : (ByteArray.mk l.toArray).size = l.length := by simp [ByteArray.size]

/-- the decimals of a number, ahead of what is there already -/
def decA : Nat → Nat → List UInt8 → List UInt8
  | 0, _, acc => acc
  | f + 1, n, acc => if n = 0 then acc else decA f (n / 10) (UInt8.ofNat (48 + n % 10) :: acc)
/-- the text of a mark -/
def markL (k : Nat) : List UInt8 := 109 :: decA k k []
theorem decA_zero (f : Nat) (acc : List UInt8) : decA f 0 acc = acc := by cases f <;> simp [decA]
theorem decA_step (f n : Nat) (acc : List UInt8) (h : 1 ≤ n) (hf : n ≤ f) : ∃ f', n / 10 ≤ f' ∧ decA f n acc = decA f' (n / 10) (UInt8.ofNat (48 + n % 10) :: acc) := by
  cases f with
  | zero => omega
  | succ f => exact ⟨f, by omega, by simp only [decA]; rw [if_neg (by omega)]⟩
theorem conv1v (w : World) (v : Int) : (convert 59 9 (.slice (some ⟨w.heap.size, 0, none⟩) 1 1)).run Try.prog (w.alloc (.cells #[.int .u8 v] 5)) = .ok (.string (strOfNums [v])) (w.alloc (.cells #[.int .u8 v] 5)) :=
  run_convert_bytes_arg (P := Try.prog) (w.alloc (.cells #[.int .u8 v] 5)) 59 5 Try.underlying59 Try.underlying5 w.heap.size 0 1 1 [v] rfl (fun i hi => by
    obtain rfl : i = 0 := by omega
    simp) 9 Try.underlying9
theorem str1e (v : Int) : strOfNums [v] = ⟨#[UInt8.ofNat v.toNat]⟩ := by apply ByteArray.ext; simp [strOfNums]
theorem str1v (v : Int) : (strOfNums [v]).size = 1 := by rw [str1e]; rfl
theorem digC (n : Nat) : strOfNums [48 + (n : Int) % 10] = ⟨#[UInt8.ofNat (48 + n % 10)]⟩ := by
  rw [str1e]
  have : (48 + (n : Int) % 10).toNat = 48 + n % 10 := by omega
  rw [this]
theorem cons_mk (c : UInt8) (x : List UInt8) : (ByteArray.mk #[c] ++ ByteArray.mk x.toArray) = ⟨(c :: x).toArray⟩ := by
  apply ByteArray.ext; simp

set_option maxHeartbeats 1000000 in
theorem markText_any (k : Nat) (w : World) (h1 : 1 ≤ k) (h2 : k ≤ 100000000) :
    Calls Try.prog 20 #[.int .i64 k] w fun e w' => e = .returned (.string ⟨(markL k).toArray⟩) ∧ Below w.heap.size w w' := by
  have kc := conv1v
  have ks := str1v
  go_enter Try.func20, Try.ntmps20
  go_wp2
  go_loopw [0, 3] (fun nn o wr => ∃ (n f : Nat) (acc : List UInt8), nn = .int .i64 n ∧ o = .string ⟨acc.toArray⟩ ∧ n ≤ f ∧ n ≤ k ∧ acc.length + n ≤ k ∧ Hid (decA k k [] = decA f n acc) ∧ Below w.heap.size w wr) (fun nn _ _ => (intOf nn).toNat)
  case atStart => exact ⟨k, k, [], rfl, rfl, Nat.le_refl _, Nat.le_refl _, by simp, rfl, Below.refl _ _⟩
  case round =>
    obtain ⟨n, f, acc, rfl, rfl, hf, hnk, hacc, HD, hb⟩ := hrel
    have hsz := size_mkT acc
    by_cases hn : 1 ≤ n
    · have hpos : 0 < n := by omega
      go_wp2
      go_roundw
      case rel =>
        obtain ⟨f', hf', e'⟩ := decA_step f n acc hn hf
        exact ⟨n / 10, f', UInt8.ofNat (48 + n % 10) :: acc, by go_num, by rw [digC, cons_mk], hf', by omega, by simp; omega, HD.out.trans e', hb.alloc hb.size _⟩
      case measure => simp [intOf]; omega
    · go_wp2
      go_ret
      obtain rfl : n = 0 := by omega
      have e := HD.out
      rw [decA_zero] at e
      exact ⟨ret_str (by rw [cons_mk]; unfold markL; rw [e]), hb⟩

end Go.Proofs.Ytgbcgchnnmgmfaa.W
namespace Go.Proofs.Ytgbcgchnnmgmfaa.W
open Go.RowKit Go.Proofs.Ytgbcgchnnmgmfaa.M

/-- the marks from k on, n of them -/
def marks (k n : Nat) : List (List UInt8) := (List.range n).map fun j => markL (k + j)
theorem marks_length (k n : Nat) : (marks k n).length = n := by simp [marks]
theorem marks_get (k n j : Nat) (h : j < n) : (marks k n)[j]? = some (markL (k + j)) := by simp [marks, h]
/-- a row in which the first j are marked -/
def marked (L : List (List UInt8)) (k j : Nat) : List (List UInt8) := marks k j ++ L.drop j
theorem marked_length (L : List (List UInt8)) (k j : Nat) (h : j ≤ L.length) : (marked L k j).length = L.length := by simp [marked, marks_length]; omega
theorem marked_zero (L : List (List UInt8)) (k : Nat) : marked L k 0 = L := by simp [marked, marks]
theorem marked_all (L : List (List UInt8)) (k : Nat) : marked L k L.length = marks k L.length := by simp [marked]
theorem marked_step (L : List (List UInt8)) (k j : Nat) (h : j < L.length) : (marked L k j).set j (markL (k + j)) = marked L k (j + 1) := by
  apply List.ext_getElem?
  intro i
  have hl : (marked L k j).length = L.length := marked_length L k j (by omega)
  by_cases e : i = j
  · subst e
    rw [List.getElem?_set_self (by omega)]
    unfold marked
    rw [List.getElem?_append_left (by rw [marks_length]; omega), marks_get _ _ _ (by omega)]
  · rw [List.getElem?_set_ne (Ne.symm e)]
    unfold marked
    by_cases hi : i < j
    · rw [List.getElem?_append_left (by rw [marks_length]; omega), List.getElem?_append_left (by rw [marks_length]; omega), marks_get _ _ _ hi, marks_get _ _ _ (by omega)]
    · rw [List.getElem?_append_right (by rw [marks_length]; omega), List.getElem?_append_right (by rw [marks_length]; omega), marks_length, marks_length, List.getElem?_drop, List.getElem?_drop]
      congr 1; omega
theorem strs_set (L : List (List UInt8)) (j : Nat) (x : List UInt8) : (strs L).set j (.string ⟨x.toArray⟩) = strs (L.set j x) := by
  simp [strs, List.map_set]

set_option maxHeartbeats 1000000 in
theorem markS_any (base g cap k : Nat) (L : List (List UInt8)) (w : World) (hown : w.ownsRow base 9 1 (.slice (some ⟨g, 0, none⟩) L.length cap) L.length (strs L)) (hbase : base ≤ w.heap.size) (hg : base ≤ g) (h1 : 1 ≤ k) (h2 : k + L.length ≤ 100000000) :
    Calls Try.prog 11 #[.slice (some ⟨g, 0, none⟩) L.length cap, .int .i64 k] w fun e w' => e = .returned (.int .i64 ((k + L.length : Nat) : Int)) ∧ w'.ownsRow base 9 1 (.slice (some ⟨g, 0, none⟩) L.length cap) L.length (strs (marks k L.length)) ∧ Below base w w' := by
  go_enter Try.func11, Try.ntmps11
  go_wp2
  go_loopw [1, 5] (fun kk i wr => ∃ j : Nat, j ≤ L.length ∧ i = .int .i64 j ∧ kk = .int .i64 ((k + j : Nat) : Int) ∧ wr.ownsRow base 9 1 (.slice (some ⟨g, 0, none⟩) L.length cap) L.length (strs (marked L k j)) ∧ Below base w wr) (fun _ i _ => L.length - (intOf i).toNat)
  case atStart => exact ⟨0, Nat.zero_le _, rfl, rfl, by rw [marked_zero]; exact hown, Below.refl _ _⟩
  case round =>
    obtain ⟨j, hj, rfl, rfl, hrow, hb⟩ := hrel
    have hsz := hb.size
    by_cases hlt : j < L.length
    · go_wp2_with (go_at_call 20; refine (markText_any (k + j) _ (by omega) (by omega)).mono ?_; rintro e w1 ⟨rfl, hb1⟩; have hrow1 : w1.ownsRow base 9 1 (.slice (some ⟨g, 0, none⟩) L.length cap) L.length (strs (marked L k j)) := hrow.kept (row := none) ⟨hb1.os, hb1.tape, hb1.output, hb1.size, fun q hq _ => hb1.block q hq⟩ (by simp [Value.ownBlock]); have hf1 := hrow1.frozenAt j; obtain ⟨u, hu⟩ : ∃ u, w1.cell? ⟨g, j, none⟩ = some u := ⟨_, (hrow1.cellAt j (by omega)).trans (List.getElem?_eq_getElem (by rw [strs_length, marked_length _ _ _ hj]; exact hlt))⟩)
      go_roundw
      case rel =>
        have hst := hrow1.stored j (.string ⟨(markL (k + j)).toArray⟩)
        rw [strs_set, marked_step L k j hlt] at hst
        exact ⟨j + 1, by omega, by go_num, by go_num, hst.1, (hb.trans (hb1.mono (by omega))).setCell (p := ⟨g, j, none⟩) hg _⟩
      case measure => simp [intOf]; omega
    · go_wp2
      go_ret
      obtain rfl : j = L.length := by omega
      rw [marked_all] at hrow
      exact ⟨rfl, hrow, hb⟩

theorem rowLt {w : World} {base g n cap : Nat} {xs : List Value} {e : TypeId} {z : Nat} (h : w.ownsRow base e z (.slice (some ⟨g, 0, none⟩) n cap) n xs) : base ≤ g ∧ g < w.heap.size := h.lt g rfl

set_option maxHeartbeats 1000000 in
theorem heldS_any (base g cap k n : Nat) (w : World) (hown : w.ownsRow base 9 1 (.slice (some ⟨g, 0, none⟩) n cap) n (strs (marks k n))) (h1 : 1 ≤ k) (h2 : k + n ≤ 100000000) :
    Calls Try.prog 12 #[.slice (some ⟨g, 0, none⟩) n cap, .int .i64 k] w fun e w' => e = .returned (.int .i64 ((k + n : Nat) : Int)) ∧ Below w.heap.size w w' := by
  have hgl := (rowLt hown).2
  have HC : Hid (∀ j, j < n → w.cell? ⟨g, j, none⟩ = some (.string ⟨(markL (k + j)).toArray⟩)) := fun j hj => by
    rw [hown.cellAt j (by omega)]; simp [strs, marks_get k n j hj]
  clear hown
  go_enter Try.func12, Try.ntmps12
  go_wp2
  go_loopw [1, 5] (fun kk i wr => ∃ j : Nat, j ≤ n ∧ i = .int .i64 j ∧ kk = .int .i64 ((k + j : Nat) : Int) ∧ Below w.heap.size w wr) (fun _ i _ => n - (intOf i).toNat)
  case atStart => exact ⟨0, Nat.zero_le _, rfl, rfl, Below.refl _ _⟩
  case round =>
    obtain ⟨j, hj, rfl, rfl, hb⟩ := hrel
    have hsz := hb.size
    by_cases hlt : j < n
    · have hcell : wr.cell? ⟨g, j, none⟩ = some (.string ⟨(markL (k + j)).toArray⟩) := (hb.cell (p := ⟨g, j, none⟩) hgl).trans (HC.out j hlt)
      go_wp2
      go_region_with (go_at_call 20; refine (markText_any (k + j) _ (by omega) (by omega)).mono ?_; rintro e w1 ⟨rfl, hb1⟩; have hcell1 : w1.cell? ⟨g, j, none⟩ = some (.string ⟨(markL (k + j)).toArray⟩) := (hb1.cell (p := ⟨g, j, none⟩) (by show g < _; simp; omega)).trans hcell; have hb2 : Below w.heap.size w w1 := hb.drew.trans (hb1.mono (by simp; omega)))
      all_goals
        go_wp2
        go_roundw
        case rel => exact ⟨j + 1, by omega, by go_num, by go_num, by first | exact hb2 | exact hb2.drew⟩
        case measure => simp [intOf]; omega
    · go_wp2
      go_ret
      obtain rfl : j = n := by omega
      exact ⟨rfl, hb⟩

set_option maxHeartbeats 400000 in
theorem eqS_none (a b : Option Addr) (c d : Nat) (w : World) :
    Calls Try.prog 8 #[.slice a 0 c, .slice b 0 d] w fun e w' => e = .returned (.bool true) ∧ Below w.heap.size w w' := by
  go_enter Try.func8, Try.ntmps8
  go_wp2
  refine wp_loop_rounds 1 ?_
  rw [rounds_succ]
  go_wp2
  go_ret
  exact ⟨rfl, Below.refl _ _⟩

set_option maxHeartbeats 1000000 in
theorem eqS_some (g1 c1 g2 c2 : Nat) (L : List (List UInt8)) (w : World) (h1 : ∀ j (h : j < L.length), w.cell? ⟨g1, j, none⟩ = some (.string ⟨(L[j]).toArray⟩)) (h2 : ∀ j (h : j < L.length), w.cell? ⟨g2, j, none⟩ = some (.string ⟨(L[j]).toArray⟩)) (hL : L.length ≤ 100000000) :
    Calls Try.prog 8 #[.slice (some ⟨g1, 0, none⟩) L.length c1, .slice (some ⟨g2, 0, none⟩) L.length c2] w fun e w' => e = .returned (.bool true) ∧ Below w.heap.size w w' := by
  have H1 : Hid (∀ j (h : j < L.length), w.cell? ⟨g1, j, none⟩ = some (.string ⟨(L[j]).toArray⟩)) := h1
  have H2 : Hid (∀ j (h : j < L.length), w.cell? ⟨g2, j, none⟩ = some (.string ⟨(L[j]).toArray⟩)) := h2
  clear h1 h2
  go_enter Try.func8, Try.ntmps8
  go_wp2
  go_loopw [5] (fun i wr => ∃ j q : Nat, j ≤ L.length ∧ i = .int .i64 j ∧ wr = w.drewN q) (fun i _ => L.length - (intOf i).toNat)
  case atStart => exact ⟨0, 0, Nat.zero_le _, rfl, rfl⟩
  case round =>
    obtain ⟨j, q, hj, rfl, rfl⟩ := hrel
    by_cases hlt : j < L.length
    · have k1 := H1.out j hlt
      have k2 := H2.out j hlt
      obtain ⟨x, hx⟩ : ∃ x, x = L[j] := ⟨_, rfl⟩
      rw [← hx] at k1 k2
      clear hx
      go_wp2
      go_quiet (fail)
      go_wp2
      go_roundw
      case rel => exact ⟨j + 1, _, by omega, by go_num, rfl⟩
      case measure => simp [intOf]; omega
    · go_wp2
      go_ret
      exact ⟨rfl, (Below.refl _ _).trans ⟨rfl, rfl, rfl, Nat.le_refl _, fun _ _ => rfl⟩⟩

/-- two rows of the same texts are found the same -/
theorem eqS_any (b1 b2 : Nat) (v1 v2 : Value) (L : List (List UInt8)) (w : World) (o1 : w.ownsRow b1 9 1 v1 L.length (strs L)) (o2 : w.ownsRow b2 9 1 v2 L.length (strs L)) (hL : L.length ≤ 100000000) :
    Calls Try.prog 8 #[v1, v2] w fun e w' => e = .returned (.bool true) ∧ Below w.heap.size w w' := by
  by_cases h0 : L.length = 0
  · rw [h0] at o1 o2
    obtain ⟨a, c, rfl⟩ : ∃ a c, v1 = .slice a 0 c := by
      rcases o1.2 with ⟨rfl, _⟩ | ⟨g, cap, _, rfl, _⟩
      · exact ⟨none, 0, rfl⟩
      · exact ⟨_, cap, rfl⟩
    obtain ⟨b, d, rfl⟩ : ∃ a c, v2 = .slice a 0 c := by
      rcases o2.2 with ⟨rfl, _⟩ | ⟨g, cap, _, rfl, _⟩
      · exact ⟨none, 0, rfl⟩
      · exact ⟨_, cap, rfl⟩
    exact eqS_none a b c d w
  · rcases o1.2 with ⟨_, h⟩ | ⟨g1, c1, _, rfl, _⟩
    · exact absurd h h0
    · rcases o2.2 with ⟨_, h⟩ | ⟨g2, c2, _, rfl, _⟩
      · exact absurd h h0
      · exact eqS_some g1 c1 g2 c2 L w (fun j hj => by rw [o1.cellAt j (by omega), strs_get L j hj]) (fun j hj => by rw [o2.cellAt j (by omega), strs_get L j hj]) hL

set_option maxHeartbeats 400000 in
theorem markS_none (a : Option Addr) (c : Nat) (k : Int) (w : World) :
    Calls Try.prog 11 #[.slice a 0 c, .int .i64 k] w fun e w' => e = .returned (.int .i64 k) ∧ w = w' := by
  go_enter Try.func11, Try.ntmps11
  go_wp2
  refine wp_loop_rounds 1 ?_
  rw [rounds_succ]
  go_wp2
  go_ret
  exact ⟨rfl, rfl⟩
set_option maxHeartbeats 400000 in
theorem heldS_none (a : Option Addr) (c : Nat) (k : Int) (w : World) :
    Calls Try.prog 12 #[.slice a 0 c, .int .i64 k] w fun e w' => e = .returned (.int .i64 k) ∧ w = w' := by
  go_enter Try.func12, Try.ntmps12
  go_wp2
  refine wp_loop_rounds 1 ?_
  rw [rounds_succ]
  go_wp2
  go_ret
  exact ⟨rfl, rfl⟩

theorem row0 {w : World} {b : Nat} {e : TypeId} {z : Nat} {v : Value} {xs : List Value} (o : w.ownsRow b e z v 0 xs) : ∃ a c, v = .slice a 0 c := by
  rcases o.2 with ⟨rfl, _⟩ | ⟨g, cap, _, rfl, _⟩
  · exact ⟨none, 0, rfl⟩
  · exact ⟨_, cap, rfl⟩

theorem markS_row (base : Nat) (v : Value) (L : List (List UInt8)) (w : World) (o : w.ownsRow base 9 1 v L.length (strs L)) (hbase : base ≤ w.heap.size) (hL : L.length ≤ 1048576) :
    Calls Try.prog 11 #[v, .int .i64 1] w fun e w' => e = .returned (.int .i64 ((1 + L.length : Nat) : Int)) ∧ w'.ownsRow base 9 1 v L.length (strs (marks 1 L.length)) ∧ Below base w w' := by
  by_cases h0 : L.length = 0
  · rw [h0] at o ⊢
    obtain ⟨a, c, rfl⟩ := row0 o
    refine (markS_none a c 1 w).mono ?_
    rintro e w' ⟨rfl, rfl⟩
    have hx : strs L = strs (marks 1 0) := by rw [List.eq_nil_of_length_eq_zero h0]; rfl
    rw [hx] at o
    exact ⟨rfl, o, Below.refl _ _⟩
  · rcases o.2 with ⟨_, h⟩ | ⟨g, cap, _, rfl, hg, _⟩
    · exact absurd h h0
    · exact markS_any base g cap 1 L w o hbase hg (by omega) (by omega)
theorem heldS_row (base : Nat) (v : Value) (n : Nat) (w : World) (o : w.ownsRow base 9 1 v n (strs (marks 1 n))) (hL : n ≤ 1048576) :
    Calls Try.prog 12 #[v, .int .i64 1] w fun e w' => e = .returned (.int .i64 ((1 + n : Nat) : Int)) ∧ Below w.heap.size w w' := by
  by_cases h0 : n = 0
  · subst h0
    obtain ⟨a, c, rfl⟩ := row0 o
    refine (heldS_none a c 1 w).mono ?_
    rintro e w' ⟨rfl, rfl⟩
    exact ⟨rfl, Below.refl _ _⟩
  · rcases o.2 with ⟨_, h⟩ | ⟨g, cap, _, rfl, _⟩
    · exact absurd h h0
    · exact heldS_any base g cap 1 n w o (by omega) (by omega)
/-- a row lies on behind whatever leaves the blocks below B alone, if it lies below B -/
theorem ownsBelow {w w' : World} {b B : Nat} {e : TypeId} {z : Nat} {v : Value} {n : Nat} {xs : List Value} (h : w.ownsRow b e z v n xs) (hb : Below B w w') (hB : w.heap.size ≤ B) : w'.ownsRow b e z v n xs := by
  refine ⟨h.1, ?_⟩
  rcases h.2 with h1 | ⟨g, cap, cur, h1, h2, h3, h4⟩
  · exact .inl h1
  · have hg : g < w.heap.size := (Array.getElem?_eq_some_iff.1 h3).1
    exact .inr ⟨g, cap, cur, h1, h2, (hb.block g (by omega)).trans h3, h4⟩
theorem ownsBelow' {w w' : World} {b B : Nat} {e : TypeId} {z : Nat} {v : Value} {n : Nat} {xs : List Value} (h : w.ownsRow b e z v n xs) (hb : Below B w w') (hB : ∀ k, v.ownBlock = some k → k < B) : w'.ownsRow b e z v n xs := by
  refine ⟨h.1, ?_⟩
  rcases h.2 with h1 | ⟨g, cap, cur, rfl, h2, h3, h4⟩
  · exact .inl h1
  · exact .inr ⟨g, cap, cur, rfl, h2, (hb.block g (hB g rfl)).trans h3, h4⟩
end Go.Proofs.Ytgbcgchnnmgmfaa.W
