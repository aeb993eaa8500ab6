/-
  The walks of PolIds, of the program and of the specification: the ids, in new memory. At most 1048576 items.
-/
import Derived.Test.YtckpjpipmmbhhaaWalkPolO
import Derived.Test.YtckpjpipmmbhhaaWalkInts
namespace Go.Proofs.Ytckpjpipmmbhhaa.W
open Go.RowKit

def idsP (L : List PI) : List Int := L.map fun x => x.id
theorem idsP_take (L : List PI) (j : Nat) (h : j < L.length) : idsP (L.take (j + 1)) = idsP (L.take j) ++ [(L[j]).id] := by
  unfold idsP
  rw [List.take_succ_eq_append_getElem h, List.map_append]; rfl
theorem infoI : (Try.prog.info? 3).map (fun i => (i.zero, i.size, i.bytes)) = some (some (.int .i64 0), 1, 8) := by kernel_rfl

set_option maxHeartbeats 1000000 in
theorem polIds_spec (A : Option Addr) (c : Nat) (L : List PI) (w : World) (hL : RdP w.heap.size w A L) (hn : L.length ≤ 1048576) :
    Calls Try.prog 14 #[.slice A L.length c] w fun e w' => (∃ v, e = .returned v ∧ w'.ownsRow w.heap.size 3 1 v (idsP L).length (cellsI (idsP L))) ∧ Below w.heap.size w w' := by
  have HL : Hid (RdP w.heap.size w A L) := hL
  clear hL
  obtain ⟨i0, hi, hz0, hz1, hz2⟩ := info_parts infoI
  go_enter Try.func14, Try.ntmps14
  go_wp2
  go_loopw [3, 4] (fun v iv wr => ∃ (j : Nat) (M : List Int), j ≤ L.length ∧ iv = .int .i64 j ∧ Hid (M = idsP (L.take j)) ∧ M.length ≤ j ∧ wr.ownsRow w.heap.size 3 1 v M.length (cellsI M) ∧ Below w.heap.size w wr) (fun _ i _ => L.length - (intOf i).toNat)
  case atStart => exact ⟨0, [], Nat.zero_le _, rfl, rfl, Nat.le_refl _, World.ownsRow_lit w #[] 0 (Nat.le_refl _) (by unfold maxLen; omega) rfl, (Below.refl _ _).alloc (Nat.le_refl _) _⟩
  case round =>
    obtain ⟨j, M, hj, rfl, HM, hm, hown, hb⟩ := hrel
    have hsz := hb.size
    by_cases hlt : j < L.length
    · obtain ⟨b, o, rfl, hbl, c1, c2⟩ := (HL.out.below hb (Nat.le_refl _)) j hlt
      have est := idsP_take L j hlt
      rw [← HM.out] at est
      have HE : Hid (M ++ [(L[j]).id] = idsP (L.take (j + 1))) := est.symm
      generalize (L[j]).id = i at *
      generalize (L[j]).tx = t at *
      clear est HM
      go_wp2_with (at_builtin; refine wpList_append_own _ rfl _ _ 29 rfl w.heap.size 3 i0 (.int .i64 0) 1 8 Try.underlying29 hi hz0 hz1 hz2 rfl (by decide) _ _ _ rfl (hown.alloc _) ⟨wr.heap.size, 0, none⟩ 1 1 [.int .i64 i] rfl rfl (cells_new _ #[.int .i64 i] _) (fun u hu => by simp at hu; subst hu; rfl) (by unfold maxLen; omega) (by omega) (by simp; omega) ?_; intro v' w3 hown' hgrow3 hnil3)
      go_roundw
      case rel =>
        refine ⟨j + 1, M ++ [i], by omega, by go_num, HE, by simp; omega, ?_, ?_⟩
        · rw [List.length_append, show cellsI (M ++ [i]) = cellsI M ++ [.int .i64 i] by simp [cellsI]]; exact hown'
        · exact growOwn (hb.alloc (by omega) _) (by simp; omega) (hown.alloc _) hgrow3 (Nat.le_refl _)
      case measure => simp [intOf]; omega
    · go_wp2
      go_ret
      obtain rfl : j = L.length := by omega
      have e := HM.out
      rw [List.take_length] at e
      rw [e] at hown
      exact ⟨⟨_, rfl, hown⟩, hb⟩

set_option maxHeartbeats 1000000 in
theorem polIds_impl (A : Option Addr) (c : Nat) (L : List PI) (w : World) (hL : RdP w.heap.size w A L) (hn : L.length ≤ 1048576) :
    Calls Try.prog 15 #[.slice A L.length c] w fun e w' => (∃ v, e = .returned v ∧ w'.ownsRow w.heap.size 3 1 v (idsP L).length (cellsI (idsP L))) ∧ Below w.heap.size w w' := by
  have HL : Hid (RdP w.heap.size w A L) := hL
  clear hL
  obtain ⟨i0, hi, hz0, hz1, hz2⟩ := info_parts infoI
  go_enter Try.func15, Try.ntmps15
  go_wp2
  go_loopw [3, 8] (fun v iv wr => ∃ (j : Nat) (M : List Int), j ≤ L.length ∧ iv = .int .i64 j ∧ Hid (M = idsP (L.take j)) ∧ M.length ≤ j ∧ wr.ownsRow w.heap.size 3 1 v M.length (cellsI M) ∧ Below w.heap.size w wr) (fun _ i _ => L.length - (intOf i).toNat)
  case atStart => exact ⟨0, [], Nat.zero_le _, rfl, rfl, Nat.le_refl _, World.ownsRow_nil _ _ _ _, Below.refl _ _⟩
  case round =>
    obtain ⟨j, M, hj, rfl, HM, hm, hown, hb⟩ := hrel
    have hsz := hb.size
    by_cases hlt : j < L.length
    · obtain ⟨b, o, rfl, hbl, c1, c2⟩ := (HL.out.below hb (Nat.le_refl _)) j hlt
      have est := idsP_take L j hlt
      rw [← HM.out] at est
      have HE : Hid (M ++ [(L[j]).id] = idsP (L.take (j + 1))) := est.symm
      generalize (L[j]).id = i at *
      generalize (L[j]).tx = t at *
      clear est HM
      go_wp2_with (at_builtin; refine wpList_append_own _ rfl _ _ 29 rfl w.heap.size 3 i0 (.int .i64 0) 1 8 Try.underlying29 hi hz0 hz1 hz2 rfl (by decide) _ _ _ rfl ((hown.alloc _).alloc _) ⟨wr.heap.size + 1, 0, none⟩ 1 1 [.int .i64 i] rfl rfl (cells_new' _ #[.int .i64 i] _ _ (by simp)) (fun u hu => by simp at hu; subst hu; rfl) (by unfold maxLen; omega) (by omega) (by simp; omega) ?_; intro v' w3 hown' hgrow3 hnil3)
      go_roundw
      case rel =>
        refine ⟨j + 1, M ++ [i], by omega, by go_num, HE, by simp; omega, ?_, ?_⟩
        · rw [List.length_append, show cellsI (M ++ [i]) = cellsI M ++ [.int .i64 i] by simp [cellsI]]; exact hown'
        · exact growOwn ((hb.alloc (by omega) _).alloc (by simp; omega) _) (by simp; omega) ((hown.alloc _).alloc _) hgrow3 (Nat.le_refl _)
      case measure => simp [intOf]; omega
    · go_wp2
      go_ret
      obtain rfl : j = L.length := by omega
      have e := HM.out
      rw [List.take_length] at e
      rw [e] at hown
      exact ⟨⟨_, rfl, hown⟩, hb⟩
theorem polIds_own {b : Nat} {e : TypeId} (v : Value) (L : List PI) (w : World) (h : w.ownsRow b e 2 v L.length (cellsP L)) (hn : L.length ≤ 1048576) :
    Calls Try.prog 15 #[v] w fun e w' => (∃ v, e = .returned v ∧ w'.ownsRow w.heap.size 3 1 v (idsP L).length (cellsI (idsP L))) ∧ Below w.heap.size w w' := by
  obtain ⟨A, c, rfl, rd⟩ := rdP_of_own h
  exact polIds_impl A c L w rd hn
theorem polIdsS_own {b : Nat} {e : TypeId} (v : Value) (L : List PI) (w : World) (h : w.ownsRow b e 2 v L.length (cellsP L)) (hn : L.length ≤ 1048576) :
    Calls Try.prog 14 #[v] w fun e w' => (∃ v, e = .returned v ∧ w'.ownsRow w.heap.size 3 1 v (idsP L).length (cellsI (idsP L))) ∧ Below w.heap.size w w' := by
  obtain ⟨A, c, rfl, rd⟩ := rdP_of_own h
  exact polIds_spec A c L w rd hn
end Go.Proofs.Ytckpjpipmmbhhaa.W
