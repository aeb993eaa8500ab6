
/-
  The walks of RolOf, of the program and of the specification: the lines of a user, in new memory. At most 1048576 lines.
-/
import Derived.Test.YtcaimlbibhaigaaRowH
import Derived.Test.YtcaimlbibhaigaaMathNew
namespace Go.Proofs.Ytcaimlbibhaigaa.W
open Go.RowKit

def ofH (L : List LN) (id : Int) : List LN := L.filter fun x => decide (x.user = id)
theorem ofH_take (L : List LN) (id : Int) (j : Nat) (h : j < L.length) : ofH (L.take (j + 1)) id = ofH (L.take j) id ++ (if (L[j]).user = id then [L[j]] else []) := by
  unfold ofH
  rw [List.take_succ_eq_append_getElem h, List.filter_append]
  congr 1
  by_cases e : (L[j]).user = id <;> simp [e]
theorem ofH_len (L : List LN) (id : Int) (j : Nat) : (ofH (L.take j) id).length ≤ j := by
  unfold ofH
  refine Nat.le_trans (List.length_filter_le _ _) ?_
  simp; omega

set_option maxHeartbeats 1000000 in
theorem rolOf_spec (A : Option Addr) (c : Nat) (L : List LN) (id : Int) (w : World) (hL : RdH w.heap.size w A L) (hn : L.length ≤ 1048576) :
    Calls Try.prog 5 #[.slice A L.length c, .int .i64 id] w fun e w' => (∃ v, e = .returned v ∧ w'.ownsRow w.heap.size 31 4 v (ofH L id).length (cellsH (ofH L id))) ∧ Below w.heap.size w w' := by
  have HL : Hid (RdH w.heap.size w A L) := hL
  clear hL
  obtain ⟨i0, hi, hz0, hz1, hz2⟩ := info_parts infoH
  go_enter Try.func5, Try.ntmps5
  go_wp2
  go_loopw [5, 6] (fun v iv wr => ∃ (j : Nat) (M : List LN), j ≤ L.length ∧ iv = .int .i64 j ∧ Hid (M = ofH (L.take j) id) ∧ M.length ≤ j ∧ wr.ownsRow w.heap.size 31 4 v M.length (cellsH M) ∧ Below w.heap.size w wr) (fun _ i _ => L.length - (intOf i).toNat)
  case atStart => exact ⟨0, [], Nat.zero_le _, rfl, rfl, Nat.le_refl _, World.ownsRow_lit w #[] 0 (Nat.le_refl _) (by unfold maxLen; omega) rfl, (Below.refl _ _).alloc (Nat.le_refl _) _⟩
  case round =>
    obtain ⟨j, M, hj, rfl, HM, hm, hown, hb⟩ := hrel
    have hsz := hb.size
    by_cases hlt : j < L.length
    · obtain ⟨b, o, rfl, hbl, c1, c2, c3, c4⟩ := (HL.out.below hb (Nat.le_refl _)) j hlt
      have est := ofH_take L id j hlt
      rw [← HM.out] at est
      by_cases hid : ¬ (L[j]).user = id
      · rw [if_neg hid, List.append_nil] at est
        have HE : Hid (M = ofH (L.take (j + 1)) id) := est.symm
        obtain ⟨x, hx⟩ : ∃ x, L[j] = x := ⟨_, rfl⟩
        rw [hx] at hid c1 c2 c3 c4
        obtain ⟨u, r, k, z⟩ := x
        have hne : (u == id) = false := by simpa using hid
        simp only at c1 c2 c3 c4
        clear est hid HM hx
        go_wp2
        go_roundw
        case rel => exact ⟨j + 1, M, by omega, by go_num, HE, by omega, hown, hb⟩
        case measure => simp [intOf]; omega
      · have hid' : (L[j]).user = id := Classical.byContradiction hid
        rw [if_pos hid'] at est
        have HE : Hid (M ++ [L[j]] = ofH (L.take (j + 1)) id) := est.symm
        obtain ⟨x, hx⟩ : ∃ x, L[j] = x := ⟨_, rfl⟩
        rw [hx] at HE hid' c1 c2 c3 c4
        obtain ⟨u, r, k, z⟩ := x
        simp only at c1 c2 c3 c4 hid'
        subst hid'
        clear est HM hx hid
        go_wp2_with (at_builtin; refine wpList_append_own _ rfl _ _ 24 rfl w.heap.size 31 i0 (.agg #[.int .i64 0, .int .i64 0, .int .i64 0, .int .i64 0]) 4 32 Try.underlying24 hi hz0 hz1 hz2 rfl (by decide) _ _ _ rfl (hown.alloc _) ⟨wr.heap.size, 0, none⟩ 1 1 [.int .i64 u, .int .i64 r, .int .i64 k, .int .i64 z] rfl rfl (cells_new _ #[.int .i64 u, .int .i64 r, .int .i64 k, .int .i64 z] _) (fun u hu => by simp at hu; rcases hu with rfl | rfl | rfl | rfl <;> rfl) (by unfold maxLen; omega) (by omega) (by simp; omega) ?_; intro v' w3 hown' hgrow3 hnil3)
        go_roundw
        case rel =>
          refine ⟨j + 1, M ++ [⟨u, r, k, z⟩], by omega, by go_num, HE, by simp; omega, ?_, ?_⟩
          · rw [cellsH_snoc, List.length_append]; exact hown'
          · exact growOwn (hb.alloc (by omega) _) (by simp; omega) (hown.alloc _) hgrow3 (Nat.le_refl _)
        case measure => simp [intOf]; omega
    · go_wp2
      go_ret
      obtain rfl : j = L.length := by omega
      have e := HM.out
      rw [List.take_length] at e
      rw [e] at hown
      exact ⟨⟨_, rfl, hown⟩, hb⟩
set_option maxHeartbeats 1000000 in
theorem rolOf_impl (A : Option Addr) (c : Nat) (L : List LN) (id : Int) (w : World) (hL : RdH w.heap.size w A L) (hn : L.length ≤ 1048576) :
    Calls Try.prog 7 #[.slice A L.length c, .int .i64 id] w fun e w' => (∃ v, e = .returned v ∧ w'.ownsRow w.heap.size 31 4 v (ofH L id).length (cellsH (ofH L id))) ∧ Below w.heap.size w w' := by
  have HL : Hid (RdH w.heap.size w A L) := hL
  clear hL
  obtain ⟨i0, hi, hz0, hz1, hz2⟩ := info_parts infoH
  go_enter Try.func7, Try.ntmps7
  go_wp2
  go_loopw [5, 10] (fun v iv wr => ∃ (j : Nat) (M : List LN), j ≤ L.length ∧ iv = .int .i64 j ∧ Hid (M = ofH (L.take j) id) ∧ M.length ≤ j ∧ wr.ownsRow w.heap.size 31 4 v M.length (cellsH M) ∧ Below w.heap.size w wr) (fun _ i _ => L.length - (intOf i).toNat)
  case atStart => exact ⟨0, [], Nat.zero_le _, rfl, rfl, Nat.le_refl _, World.ownsRow_nil _ _ _ _, Below.refl _ _⟩
  case round =>
    obtain ⟨j, M, hj, rfl, HM, hm, hown, hb⟩ := hrel
    have hsz := hb.size
    by_cases hlt : j < L.length
    · obtain ⟨b, o, rfl, hbl, c1, c2, c3, c4⟩ := (HL.out.below hb (Nat.le_refl _)) j hlt
      have est := ofH_take L id j hlt
      rw [← HM.out] at est
      by_cases hid : ¬ (L[j]).user = id
      · rw [if_neg hid, List.append_nil] at est
        have HE : Hid (M = ofH (L.take (j + 1)) id) := est.symm
        obtain ⟨x, hx⟩ : ∃ x, L[j] = x := ⟨_, rfl⟩
        rw [hx] at hid c1 c2 c3 c4
        obtain ⟨u, r, k, z⟩ := x
        have hne : (u == id) = false := by simpa using hid
        simp only at c1 c2 c3 c4
        clear est hid HM hx
        go_wp2
        go_roundw
        case rel => exact ⟨j + 1, M, by omega, by go_num, HE, by omega, hown.alloc _, hb.alloc (by omega) _⟩
        case measure => simp [intOf]; omega
      · have hid' : (L[j]).user = id := Classical.byContradiction hid
        rw [if_pos hid'] at est
        have HE : Hid (M ++ [L[j]] = ofH (L.take (j + 1)) id) := est.symm
        obtain ⟨x, hx⟩ : ∃ x, L[j] = x := ⟨_, rfl⟩
        rw [hx] at HE hid' c1 c2 c3 c4
        obtain ⟨u, r, k, z⟩ := x
        simp only at c1 c2 c3 c4 hid'
        subst hid'
        clear est HM hx hid
        go_wp2_with (at_builtin; refine wpList_append_own _ rfl _ _ 24 rfl w.heap.size 31 i0 (.agg #[.int .i64 0, .int .i64 0, .int .i64 0, .int .i64 0]) 4 32 Try.underlying24 hi hz0 hz1 hz2 rfl (by decide) _ _ _ rfl ((hown.alloc _).alloc _) ⟨wr.heap.size + 1, 0, none⟩ 1 1 [.int .i64 u, .int .i64 r, .int .i64 k, .int .i64 z] rfl rfl (cells_new' _ #[.int .i64 u, .int .i64 r, .int .i64 k, .int .i64 z] _ _ (by simp)) (fun u hu => by simp at hu; rcases hu with rfl | rfl | rfl | rfl <;> rfl) (by unfold maxLen; omega) (by omega) (by simp; omega) ?_; intro v' w3 hown' hgrow3 hnil3)
        go_roundw
        case rel =>
          refine ⟨j + 1, M ++ [⟨u, r, k, z⟩], by omega, by go_num, HE, by simp; omega, ?_, ?_⟩
          · rw [cellsH_snoc, List.length_append]; exact hown'
          · exact growOwn ((hb.alloc (by omega) _).alloc (by simp; omega) _) (by simp; omega) ((hown.alloc _).alloc _) hgrow3 (Nat.le_refl _)
        case measure => simp [intOf]; omega
    · go_wp2
      go_ret
      obtain rfl : j = L.length := by omega
      have e := HM.out
      rw [List.take_length] at e
      rw [e] at hown
      exact ⟨⟨_, rfl, hown⟩, hb⟩
theorem rolOf_own {b : Nat} {e : TypeId} (v : Value) (L : List LN) (id : Int) (w : World) (h : w.ownsRow b e 4 v L.length (cellsH L)) (hn : L.length ≤ 1048576) :
    Calls Try.prog 7 #[v, .int .i64 id] w fun e w' => (∃ v, e = .returned v ∧ w'.ownsRow w.heap.size 31 4 v (ofH L id).length (cellsH (ofH L id))) ∧ Below w.heap.size w w' := by
  obtain ⟨A, c, rfl, rd⟩ := rdH_of_own h
  exact rolOf_impl A c L id w rd hn
theorem rolOfS_own {b : Nat} {e : TypeId} (v : Value) (L : List LN) (id : Int) (w : World) (h : w.ownsRow b e 4 v L.length (cellsH L)) (hn : L.length ≤ 1048576) :
    Calls Try.prog 5 #[v, .int .i64 id] w fun e w' => (∃ v, e = .returned v ∧ w'.ownsRow w.heap.size 31 4 v (ofH L id).length (cellsH (ofH L id))) ∧ Below w.heap.size w w' := by
  obtain ⟨A, c, rfl, rd⟩ := rdH_of_own h
  exact rolOf_spec A c L id w rd hn
end Go.Proofs.Ytcaimlbibhaigaa.W
