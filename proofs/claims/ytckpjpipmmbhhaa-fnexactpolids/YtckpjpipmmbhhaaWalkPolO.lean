/-
  The walks of PolOut, of the program and of the specification: the items with another id, in new memory. At most 1048576 items.
-/
import Derived.Test.YtckpjpipmmbhhaaWalkPolS
namespace Go.Proofs.Ytckpjpipmmbhhaa.W
open Go.RowKit

theorem cells_new (w : World) (cs : Array Value) (t : TypeId) : ∀ j u, cs.toList[j]? = some u → (w.alloc (.cells cs t)).cell? ((⟨w.heap.size, 0, none⟩ : Addr).add j) = some u := by
  intro j u h
  have e : (⟨w.heap.size, 0, none⟩ : Addr).add j = ⟨w.heap.size, j, none⟩ := by unfold Addr.add; split <;> simp_all
  rw [e]
  simpa using h
theorem cells_new' (w : World) (cs : Array Value) (t : TypeId) (n : Nat) (hn : w.heap.size = n) : ∀ j u, cs.toList[j]? = some u → (w.alloc (.cells cs t)).cell? ((⟨n, 0, none⟩ : Addr).add j) = some u := by
  subst hn; exact cells_new w cs t
theorem growOwn {w w' : World} {B base : Nat} {a : World} {e : TypeId} {z : Nat} {v : Value} {n : Nat} {xs : List Value} (hb : Below B a w) (hB : B ≤ w.heap.size) (hown : w.ownsRow base e z v n xs) (hg : w.grownBy w' v.ownBlock) (hbase : B ≤ base) : Below B a w' :=
  hb.grown hg hB (fun k hk => Nat.le_trans hbase (hown.lt k hk).1)

def outP (L : List PI) (id : Int) : List PI := L.filter fun x => decide (x.id ≠ id)
theorem outP_take (L : List PI) (id : Int) (j : Nat) (h : j < L.length) : outP (L.take (j + 1)) id = outP (L.take j) id ++ (if (L[j]).id = id then [] else [L[j]]) := by
  unfold outP
  rw [List.take_succ_eq_append_getElem h, List.filter_append]
  congr 1
  by_cases e : (L[j]).id = id <;> simp [e]
theorem outP_len (L : List PI) (id : Int) (j : Nat) : (outP (L.take j) id).length ≤ j := by
  unfold outP
  refine Nat.le_trans (List.length_filter_le _ _) ?_
  simp; omega

set_option maxHeartbeats 1000000 in
theorem polOut_spec (A : Option Addr) (c : Nat) (L : List PI) (id : Int) (w : World) (hL : RdP w.heap.size w A L) (hn : L.length ≤ 1048576) :
    Calls Try.prog 20 #[.slice A L.length c, .int .i64 id] w fun e w' => (∃ v, e = .returned v ∧ w'.ownsRow w.heap.size 55 2 v (outP L id).length (cellsP (outP L id))) ∧ Below w.heap.size w w' := by
  have HL : Hid (RdP w.heap.size w A L) := hL
  clear hL
  obtain ⟨i0, hi, hz0, hz1, hz2⟩ := info_parts infoP
  go_enter Try.func20, Try.ntmps20
  go_wp2
  go_loopw [5, 6] (fun v iv wr => ∃ (j : Nat) (M : List PI), j ≤ L.length ∧ iv = .int .i64 j ∧ Hid (M = outP (L.take j) id) ∧ M.length ≤ j ∧ wr.ownsRow w.heap.size 55 2 v M.length (cellsP M) ∧ Below w.heap.size w wr) (fun _ i _ => L.length - (intOf i).toNat)
  case atStart => exact ⟨0, [], Nat.zero_le _, rfl, rfl, Nat.le_refl _, World.ownsRow_lit w #[] 0 (Nat.le_refl _) (by unfold maxLen; omega) rfl, (Below.refl _ _).alloc (Nat.le_refl _) _⟩
  case round =>
    obtain ⟨j, M, hj, rfl, HM, hm, hown, hb⟩ := hrel
    have hsz := hb.size
    by_cases hlt : j < L.length
    · obtain ⟨b, o, rfl, hbl, c1, c2⟩ := (HL.out.below hb (Nat.le_refl _)) j hlt
      have est := outP_take L id j hlt
      rw [← HM.out] at est
      by_cases hid : (L[j]).id = id
      · rw [if_pos hid, List.append_nil] at est
        have HE : Hid (M = outP (L.take (j + 1)) id) := est.symm
        rw [hid] at c1
        generalize (L[j]).tx = t at *
        clear est hid HM
        go_wp2
        go_roundw
        case rel => exact ⟨j + 1, M, by omega, by go_num, HE, by omega, hown, hb⟩
        case measure => simp [intOf]; omega
      · rw [if_neg hid] at est
        have HE : Hid (M ++ [L[j]] = outP (L.take (j + 1)) id) := est.symm
        obtain ⟨x, hx⟩ : ∃ x, L[j] = x := ⟨_, rfl⟩
        rw [hx] at HE hid c1 c2
        obtain ⟨i, t⟩ := x
        have hne : (i != id) = true := by simpa using hid
        simp only at c1 c2
        clear est HM hx hid
        go_wp2_with (at_builtin; refine wpList_append_own _ rfl _ _ 25 rfl w.heap.size 55 i0 (.agg #[.int .i64 0, .string ByteArray.empty]) 2 24 Try.underlying25 hi hz0 hz1 hz2 rfl (by decide) _ _ _ rfl (hown.alloc _) ⟨wr.heap.size, 0, none⟩ 1 1 [.int .i64 i, .string t] rfl rfl (cells_new _ #[.int .i64 i, .string t] _) (fun u hu => by simp at hu; rcases hu with rfl | rfl <;> rfl) (by unfold maxLen; omega) (by omega) (by simp; omega) ?_; intro v' w3 hown' hgrow3 hnil3)
        go_roundw
        case rel =>
          refine ⟨j + 1, M ++ [⟨i, t⟩], by omega, by go_num, HE, by simp; omega, ?_, ?_⟩
          · rw [cellsP_snoc, List.length_append]; exact hown'
          · exact growOwn (hb.alloc (by omega) _) (by simp; omega) (hown.alloc _) hgrow3 (Nat.le_refl _)
        case measure => simp [intOf]; omega
    · go_wp2
      go_ret
      obtain rfl : j = L.length := by omega
      have e := HM.out
      rw [List.take_length] at e
      rw [e] at hown
      exact ⟨⟨_, rfl, hown⟩, hb⟩
set_option maxHeartbeats 1000000 in
theorem polOut_impl (A : Option Addr) (c : Nat) (L : List PI) (id : Int) (w : World) (hL : RdP w.heap.size w A L) (hn : L.length ≤ 1048576) :
    Calls Try.prog 21 #[.slice A L.length c, .int .i64 id] w fun e w' => (∃ v, e = .returned v ∧ w'.ownsRow w.heap.size 55 2 v (outP L id).length (cellsP (outP L id))) ∧ Below w.heap.size w w' := by
  have HL : Hid (RdP w.heap.size w A L) := hL
  clear hL
  obtain ⟨i0, hi, hz0, hz1, hz2⟩ := info_parts infoP
  go_enter Try.func21, Try.ntmps21
  go_wp2
  go_loopw [5, 10] (fun v iv wr => ∃ (j : Nat) (M : List PI), j ≤ L.length ∧ iv = .int .i64 j ∧ Hid (M = outP (L.take j) id) ∧ M.length ≤ j ∧ wr.ownsRow w.heap.size 55 2 v M.length (cellsP M) ∧ Below w.heap.size w wr) (fun _ i _ => L.length - (intOf i).toNat)
  case atStart => exact ⟨0, [], Nat.zero_le _, rfl, rfl, Nat.le_refl _, World.ownsRow_nil _ _ _ _, Below.refl _ _⟩
  case round =>
    obtain ⟨j, M, hj, rfl, HM, hm, hown, hb⟩ := hrel
    have hsz := hb.size
    by_cases hlt : j < L.length
    · obtain ⟨b, o, rfl, hbl, c1, c2⟩ := (HL.out.below hb (Nat.le_refl _)) j hlt
      have est := outP_take L id j hlt
      rw [← HM.out] at est
      by_cases hid : (L[j]).id = id
      · rw [if_pos hid, List.append_nil] at est
        have HE : Hid (M = outP (L.take (j + 1)) id) := est.symm
        rw [hid] at c1
        generalize (L[j]).tx = t at *
        clear est hid HM
        go_wp2
        go_roundw
        case rel => exact ⟨j + 1, M, by omega, by go_num, HE, by omega, hown.alloc _, hb.alloc (by omega) _⟩
        case measure => simp [intOf]; omega
      · rw [if_neg hid] at est
        have HE : Hid (M ++ [L[j]] = outP (L.take (j + 1)) id) := est.symm
        obtain ⟨x, hx⟩ : ∃ x, L[j] = x := ⟨_, rfl⟩
        rw [hx] at HE hid c1 c2
        obtain ⟨i, t⟩ := x
        have hne : (i != id) = true := by simpa using hid
        simp only at c1 c2
        clear est HM hx hid
        go_wp2_with (at_builtin; refine wpList_append_own _ rfl _ _ 25 rfl w.heap.size 55 i0 (.agg #[.int .i64 0, .string ByteArray.empty]) 2 24 Try.underlying25 hi hz0 hz1 hz2 rfl (by decide) _ _ _ rfl ((hown.alloc _).alloc _) ⟨wr.heap.size + 1, 0, none⟩ 1 1 [.int .i64 i, .string t] rfl rfl (cells_new' _ #[.int .i64 i, .string t] _ _ (by simp)) (fun u hu => by simp at hu; rcases hu with rfl | rfl <;> rfl) (by unfold maxLen; omega) (by omega) (by simp; omega) ?_; intro v' w3 hown' hgrow3 hnil3)
        go_roundw
        case rel =>
          refine ⟨j + 1, M ++ [⟨i, t⟩], by omega, by go_num, HE, by simp; omega, ?_, ?_⟩
          · rw [cellsP_snoc, List.length_append]; exact hown'
          · exact growOwn ((hb.alloc (by omega) _).alloc (by simp; omega) _) (by simp; omega) ((hown.alloc _).alloc _) hgrow3 (Nat.le_refl _)
        case measure => simp [intOf]; omega
    · go_wp2
      go_ret
      obtain rfl : j = L.length := by omega
      have e := HM.out
      rw [List.take_length] at e
      rw [e] at hown
      exact ⟨⟨_, rfl, hown⟩, hb⟩
theorem polOut_own {b : Nat} {e : TypeId} (v : Value) (L : List PI) (id : Int) (w : World) (h : w.ownsRow b e 2 v L.length (cellsP L)) (hn : L.length ≤ 1048576) :
    Calls Try.prog 21 #[v, .int .i64 id] w fun e w' => (∃ v, e = .returned v ∧ w'.ownsRow w.heap.size 55 2 v (outP L id).length (cellsP (outP L id))) ∧ Below w.heap.size w w' := by
  obtain ⟨A, c, rfl, rd⟩ := rdP_of_own h
  exact polOut_impl A c L id w rd hn
theorem polOutS_own {b : Nat} {e : TypeId} (v : Value) (L : List PI) (id : Int) (w : World) (h : w.ownsRow b e 2 v L.length (cellsP L)) (hn : L.length ≤ 1048576) :
    Calls Try.prog 20 #[v, .int .i64 id] w fun e w' => (∃ v, e = .returned v ∧ w'.ownsRow w.heap.size 55 2 v (outP L id).length (cellsP (outP L id))) ∧ Below w.heap.size w w' := by
  obtain ⟨A, c, rfl, rd⟩ := rdP_of_own h
  exact polOut_spec A c L id w rd hn
end Go.Proofs.Ytckpjpipmmbhhaa.W
