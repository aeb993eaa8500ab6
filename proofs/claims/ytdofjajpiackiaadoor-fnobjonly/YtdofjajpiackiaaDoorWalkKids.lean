
/-
  ObjKids of the program and of the specification. Texts of at most 1048576 bytes.
-/
import Derived.Test.YtdofjajpiackiaaDoorWalkObE
import Derived.Test.YtdofjajpiackiaaDoorWalkInts
import Derived.Maps.AppendAt
namespace Go.Proofs.YtdofjajpiackiaaDoor.W
open Go.RowKit Go.Proofs.YtdofjajpiackiaaDoor.M

theorem infoI3 : (Tryd.prog.info? 3).map (fun i => (i.zero, i.size, i.bytes)) = some (some (.int .i64 0), 1, 8) := by kernel_rfl
/-- the ids of entries -/
def idsO (L : List OE) : List Int := L.map (·.id)
theorem idsO_take (L : List OE) (j : Nat) (h : j < L.length) : idsO (L.take (j + 1)) = idsO (L.take j) ++ [(L[j]).id] := by
  unfold idsO; rw [List.take_succ_eq_append_getElem h, List.map_append]; rfl
theorem idsO_len (L : List OE) : (idsO L).length = L.length := by simp [idsO]

set_option maxRecDepth 100000 in
set_option maxHeartbeats 2000000 in
theorem kids_impl (s : ByteArray) (w : World) (hs : s.size ≤ 1048576) (hg : TypeCell w) :
    Calls Tryd.prog 17 #[.string s] w fun e w' => (∃ v, e = .returned v ∧ w'.ownsRow w.heap.size 3 1 v (idsO (enL s)).length (cellsI (idsO (enL s)))) ∧ Below w.heap.size w w' := by
  obtain ⟨i0, hi, hz0, hz1, hz2⟩ := info_parts infoI3
  have q := fun w hg => enI_any s w hs hg
  have hL := enL_len s
  generalize enL s = L at *
  generalize decide (kd s = 2) = b at *
  go_enter Tryd.func17, Tryd.ntmps17
  go_wp2_with (go_at_call 13; refine (q _ hg).mono ?_; rintro e w1 ⟨⟨v, rfl, ow⟩, B⟩; obtain ⟨A, c, rfl, rd⟩ := rdO_of_own ow)
  have HL : Hid (RdO w1.heap.size w1 A L) := rd
  have hb1 := B.size
  clear rd ow
  go_loopw [5, 15] (fun kv iv wr => ∃ (j : Nat) (M : List Int), j ≤ L.length ∧ iv = .int .i64 j ∧ Hid (M = idsO (L.take j)) ∧ M.length ≤ j ∧ wr.ownsRow w1.heap.size 3 1 kv M.length (cellsI M) ∧ Below w1.heap.size w1 wr) (fun _ i _ => L.length - (intOf i).toNat)
  case atStart => exact ⟨0, [], Nat.zero_le _, rfl, rfl, Nat.le_refl _, World.ownsRow_nil _ _ _ _, Below.refl _ _⟩
  case round =>
    obtain ⟨j, M, hj, rfl, HM, hm, hown, hb⟩ := hrel
    have hsz := hb.size
    by_cases hlt : j < L.length
    · obtain ⟨b', o, rfl, hbl, c1, c2, c3⟩ := (HL.out.below hb (Nat.le_refl _)) j hlt
      have est := idsO_take L j hlt
      rw [← HM.out] at est
      have HE : Hid (M ++ [(L[j]).id] = idsO (L.take (j + 1))) := est.symm
      generalize (L[j]).id = i at *
      generalize (L[j]).nm = nm at *
      generalize (L[j]).sh = sh at *
      clear est HM
      go_wp2_with (at_builtin; refine wpList_append_own _ rfl _ _ 37 rfl w1.heap.size 3 i0 (.int .i64 0) 1 8 Tryd.underlying37 hi hz0 hz1 hz2 rfl (by decide) _ _ _ rfl ((hown.alloc _).alloc _) ⟨wr.heap.size + 1, 0, none⟩ 1 1 [.int .i64 i] rfl rfl (cells_new' _ #[.int .i64 i] _ _ (by simp)) (fun u hu => by simp at hu; subst hu; rfl) (by unfold maxLen; omega) (by omega) (by simp; omega) ?_; intro v' w3 hown' hgrow3 hnil3)
      go_roundw
      case rel =>
        refine ⟨j + 1, M ++ [i], by omega, by go_num, HE, by simp; omega, ?_, ?_⟩
        · rw [List.length_append, show cellsI (M ++ [i]) = cellsI M ++ [.int .i64 i] by simp [cellsI]]; exact hown'
        · exact growOwn ((hb.alloc (by omega) _).alloc (by simp; omega) _) (by simp; omega) ((hown.alloc _).alloc _) hgrow3 (Nat.le_refl _)
      case measure => simp [intOf]; omega
    · go_wp2
      go_ret
      obtain rfl : j = L.length := by omega
      have e := HM.out
      rw [List.take_length] at e
      rw [e] at hown
      exact ⟨⟨_, rfl, ownsUpO hown hb1⟩, B.trans (hb.mono hb1)⟩

set_option maxRecDepth 100000 in
set_option maxHeartbeats 2000000 in
theorem kids_spec (s : ByteArray) (w : World) (hs : s.size ≤ 1048576) :
    Calls Tryd.prog 19 #[.string s] w fun e w' => (∃ v, e = .returned v ∧ w'.ownsRow w.heap.size 3 1 v (idsO (enL s)).length (cellsI (idsO (enL s)))) ∧ Below w.heap.size w w' := by
  obtain ⟨i0, hi, hz0, hz1, hz2⟩ := info_parts infoI3
  have q := fun w => enS_any s w hs
  have hL := enL_len s
  generalize enL s = L at *
  generalize decide (kd s = 2) = b at *
  have O0 : (w.alloc (.cells #[] 3)).ownsRow w.heap.size 3 1 (.slice (some ⟨w.heap.size, 0, none⟩) 0 0) 0 [] := World.ownsRow_lit w #[] 0 (Nat.le_refl _) (by unfold maxLen; omega) rfl
  have B0 : Below w.heap.size w (w.alloc (.cells #[] 3)) := (Below.refl _ w).alloc (Nat.le_refl _) _
  go_enter Tryd.func19, Tryd.ntmps19
  go_wp2_with (go_at_call 30; refine (q _).mono ?_; rintro e w1 ⟨⟨v, rfl, ow⟩, hb⟩; have o1 := ownsUnder O0 hb (Nat.le_refl _); have B := B0.trans (hb.mono B0.size); have hlv := ow.lt; simp at hlv; obtain ⟨A, c, rfl, _⟩ := rdO_of_own ow)
  go_loopw [3, 6] (fun kv iv wr => ∃ (j : Nat) (M : List Int), j ≤ L.length ∧ iv = .int .i64 j ∧ Hid (M = idsO (L.take j)) ∧ M.length ≤ j ∧ wr.ownsRow w.heap.size 3 1 kv M.length (cellsI M) ∧ wr.ownsRow w.heap.size 34 3 (.slice A L.length c) L.length (cellsO L) ∧ Hid (∀ k, kv.ownBlock = some k → (Value.slice A L.length c).ownBlock ≠ some k) ∧ Below w.heap.size w wr) (fun _ i _ => L.length - (intOf i).toNat)
  case atStart => exact ⟨0, [], Nat.zero_le _, rfl, rfl, Nat.le_refl _, o1, ownsUpO ow (by simp), (show ∀ k, (Value.slice (some ⟨w.heap.size, 0, none⟩) 0 0).ownBlock = some k → _ from fun k e e2 => by simp [Value.ownBlock] at e; have := (hlv k e2).1; omega), B⟩
  case round =>
    clear o1 ow O0 hb
    obtain ⟨j, M, hj, rfl, HM, hm, hown, ow, DJ, hb⟩ := hrel
    have hsz := hb.size
    by_cases hlt : j < L.length
    · have rd : RdO wr.heap.size wr A L := by
        obtain ⟨A2, c2, e2, rd⟩ := rdO_of_own ow
        cases e2; exact rd
      have OW : Hid (wr.ownsRow w.heap.size 34 3 (.slice A L.length c) L.length (cellsO L)) := ow
      obtain ⟨b', o, rfl, hbl, c1, c2, c3⟩ := rd j hlt
      have est := idsO_take L j hlt
      rw [← HM.out] at est
      have HE : Hid (M ++ [(L[j]).id] = idsO (L.take (j + 1))) := est.symm
      generalize (L[j]).id = i at *
      clear est HM ow c1 c2
      go_wp2_with (at_builtin; refine wpList_append_own_at _ rfl _ _ 37 rfl w.heap.size 3 i0 (.int .i64 0) 1 8 Tryd.underlying37 hi hz0 hz1 hz2 rfl (by decide) u3 M.length (cellsI M) rfl (hown.alloc _) ⟨wr.heap.size, 0, none⟩ 1 1 [.int .i64 i] rfl rfl (cells_new _ #[.int .i64 i] _) (fun u hu => by simp at hu; subst hu; rfl) (by unfold maxLen; omega) (by omega) (by simp; omega) ?_; intro v' w3 hown' hgrow3 hnil3 hat3)
      go_roundw
      case rel =>
        refine ⟨j + 1, M ++ [i], by omega, by go_num, HE, by simp; omega, ?_, ?_, ?_, ?_⟩
        · rw [List.length_append, show cellsI (M ++ [i]) = cellsI M ++ [.int .i64 i] by simp [cellsI]]; exact hown'
        · refine (OW.out.alloc _).kept hgrow3 ?_
          cases h : (Value.slice (some ⟨b', o, none⟩) L.length c).ownBlock with
          | none => exact .inl rfl
          | some k => exact .inr fun e => DJ.out k e.symm h
        · show ∀ k, _ → _
          intro k e e2
          rcases hat3 with h | h
          · rw [h] at e; exact DJ.out k e e2
          · rw [h] at e
            have := (OW.out.lt k e2).2
            simp at e
            omega
        · exact growOwn (hb.alloc (by omega) _) (by simp; omega) (hown.alloc _) hgrow3 (Nat.le_refl _)
      case measure => simp [intOf]; omega
    · go_wp2
      go_ret
      obtain rfl : j = L.length := by omega
      have e := HM.out
      rw [List.take_length] at e
      rw [e] at hown
      exact ⟨⟨_, rfl, hown⟩, hb⟩
end Go.Proofs.YtdofjajpiackiaaDoor.W
