
/-
  The rules without one; the walks of RulOut of the program and of the specification. At most 1048576 rules.
-/
import Derived.Test.YtmjmkgigopinbaaWalkRulE
import Derived.Test.YtmjmkgigopinbaaMathNew
namespace Go.Proofs.Ytmjmkgigopinbaa.W
open Go.RowKit

def outR (L : List RR) (r : RR) : List RR := L.filter fun x => !(eqR x r)
theorem outR_take (L : List RR) (r : RR) (j : Nat) (h : j < L.length) : outR (L.take (j + 1)) r = outR (L.take j) r ++ (if eqR L[j] r = true then [] else [L[j]]) := by
  unfold outR
  rw [List.take_succ_eq_append_getElem h, List.filter_append]
  congr 1
  cases e : eqR L[j] r <;> simp [e]
theorem outR_len (L : List RR) (r : RR) (j : Nat) : (outR (L.take j) r).length ≤ j := by
  unfold outR
  refine Nat.le_trans (List.length_filter_le _ _) ?_
  simp; omega
theorem ownsDown {w : World} {b b' : Nat} {e : TypeId} {z n : Nat} {v : Value} {xs : List Value} (h : w.ownsRow b e z v n xs) (hb : b' ≤ b) : w.ownsRow b' e z v n xs := by
  refine ⟨h.1, ?_⟩
  rcases h.2 with h | ⟨g, cap, cur, h1, h2, h3⟩
  · exact .inl h
  · exact .inr ⟨g, cap, cur, h1, by omega, h3⟩
theorem ret_vb {v : Value} {a b : Bool} (h : a = b) : Ending.returned (.tuple #[v, .bool a]) = .returned (.tuple #[v, .bool b]) := by rw [h]

set_option maxHeartbeats 1000000 in
theorem rulOut_spec (A : Option Addr) (c : Nat) (L : List RR) (r : RR) (w : World) (hL : RdR w.heap.size w A L) (hn : L.length ≤ 1048576) :
    Calls Try.prog 22 #[.slice A L.length c, .agg #[.int .i64 r.user, .string r.ref, .string r.path, .bool r.write]] w fun e w' => (∃ v, e = .returned (.tuple #[v, .bool (decide ((outR L r).length < L.length))]) ∧ w'.ownsRow w.heap.size 32 4 v (outR L r).length (cellsR (outR L r))) ∧ Below w.heap.size w w' := by
  have HL : Hid (RdR w.heap.size w A L) := hL
  clear hL
  have gR := guardR
  obtain ⟨i0, hi, hz0, hz1, hz2⟩ := info_parts infoR
  go_enter Try.func22, Try.ntmps22
  go_wp2
  go_loopw [6, 7] (fun v iv wr => ∃ (j : Nat) (M : List RR), j ≤ L.length ∧ iv = .int .i64 j ∧ Hid (M = outR (L.take j) r) ∧ M.length ≤ j ∧ wr.ownsRow (w.heap.size + 1) 32 4 v M.length (cellsR M) ∧ Below (w.heap.size + 1) (w.alloc (.cells #[.int .i64 r.user, .string r.ref, .string r.path, .bool r.write] 32)) wr) (fun _ i _ => L.length - (intOf i).toNat)
  case atStart => exact ⟨0, [], Nat.zero_le _, rfl, rfl, Nat.le_refl _, by simpa [cellsR] using World.ownsRow_lit (base := w.heap.size + 1) (w.alloc (.cells #[.int .i64 r.user, .string r.ref, .string r.path, .bool r.write] 32)) #[] 0 (by simp) (by unfold maxLen; omega) rfl, (Below.refl _ _).alloc (by simp) _⟩
  case round =>
    obtain ⟨j, M, hj, rfl, HM, hm, hown, hb⟩ := hrel
    have hsz := hb.size
    simp only [World.size_alloc] at hsz
    have hbw : Below w.heap.size w wr := ((Below.refl _ w).alloc (Nat.le_refl _) _).trans (hb.mono (by omega))
    have HB : Hid (Below (w.heap.size + 1) (w.alloc (.cells #[.int .i64 r.user, .string r.ref, .string r.path, .bool r.write] 32)) wr) := hb
    have HW : Hid (Below w.heap.size w wr) := hbw
    by_cases hlt : j < L.length
    · obtain ⟨b, o, rfl, hbl, c1, c2, c3, c4⟩ := (HL.out.below hbw (Nat.le_refl _)) j hlt
      have est := outR_take L r j hlt
      rw [← HM.out] at est
      obtain ⟨d1, d2, d3, d4⟩ := (atR_new w r 32).below hb (Nat.lt_succ_self _)
      obtain ⟨x, hx⟩ : ∃ x, L[j] = x := ⟨_, rfl⟩
      rw [hx] at est c1 c2 c3 c4
      clear hx hb hbw
      have x1 : ∀ y : Ext wr, y.world.cell? ⟨b, o + j * 4, none⟩ = some (.int .i64 x.user) := fun y => y.cell c1
      have x2 : ∀ y : Ext wr, y.world.cell? ⟨b, o + j * 4 + 1, none⟩ = some (.string x.ref) := fun y => y.cell c2
      have x3 : ∀ y : Ext wr, y.world.cell? ⟨b, o + j * 4 + 2, none⟩ = some (.string x.path) := fun y => y.cell c3
      have x4 : ∀ y : Ext wr, y.world.cell? ⟨b, o + j * 4 + 3, none⟩ = some (.bool x.write) := fun y => y.cell c4
      have y1 : ∀ y : Ext wr, y.world.cell? ⟨w.heap.size, 0, none⟩ = some (.int .i64 r.user) := fun y => y.cell d1
      have y2 : ∀ y : Ext wr, y.world.cell? ⟨w.heap.size, 1, none⟩ = some (.string r.ref) := fun y => y.cell d2
      have y3 : ∀ y : Ext wr, y.world.cell? ⟨w.heap.size, 2, none⟩ = some (.string r.path) := fun y => y.cell d3
      have y4 : ∀ y : Ext wr, y.world.cell? ⟨w.heap.size, 3, none⟩ = some (.bool r.write) := fun y => y.cell d4
      have hne : Nonempty (Ext wr) := ⟨⟨wr, Below.refl _ _⟩⟩
      have req := fun v => run_neR v x r
      clear c1 c2 c3 c4 d1 d2 d3 d4
      cases q0 : eqR x r
      · rw [q0, if_neg (by decide)] at est
        have HE : Hid (M ++ [x] = outR (L.take (j + 1)) r) := est.symm
        rw [q0] at req
        clear est q0 HM
        go_wp2
        refine region_ext (by kernel_rfl) (by kernel_rfl) ?_
        repeat (go_big_quiet_step (fail))
        refine wpQuiet_nil ?_
        rintro _ ⟨y, rfl⟩
        have hb1 := y.below
        have hs1 := hb1.size
        replace hown := ownsUnder hown hb1 (Nat.le_refl _)
        replace x1 := x1 y
        replace x2 := x2 y
        replace x3 := x3 y
        replace x4 := x4 y
        clear y1 y2 y3 y4
        go_wp2_with (at_builtin; refine wpList_append_own _ rfl _ _ 23 rfl (w.heap.size + 1) 32 i0 (.agg #[.int .i64 0, .string ByteArray.empty, .string ByteArray.empty, .bool false]) 4 48 Try.underlying23 hi hz0 hz1 hz2 rfl (by decide) _ _ _ rfl (hown.alloc _) ⟨y.world.heap.size, 0, none⟩ 1 1 [.int .i64 x.user, .string x.ref, .string x.path, .bool x.write] rfl rfl (cells_new _ #[.int .i64 x.user, .string x.ref, .string x.path, .bool x.write] _) (fun u hu => by simp at hu; rcases hu with rfl | rfl | rfl | rfl <;> rfl) (by unfold maxLen; omega) (by omega) (by simp; omega) ?_; intro v' w3 hown' hgrow3 hnil3)
        go_roundw
        case rel =>
          refine ⟨j + 1, M ++ [x], by omega, by go_num, HE, by simp; omega, ?_, ?_⟩
          · rw [cellsR_snoc, List.length_append]; exact hown'
          · exact growOwn ((HB.out.trans (hb1.mono (by omega))).alloc (by omega) _) (by simp; omega) (hown.alloc _) hgrow3 (Nat.le_refl _)
        case measure => simp [intOf]; omega
      · rw [q0, if_pos rfl, List.append_nil] at est
        have HE : Hid (M = outR (L.take (j + 1)) r) := est.symm
        rw [q0] at req
        clear est q0 HM
        go_wp2
        refine region_ext (by kernel_rfl) (by kernel_rfl) ?_
        repeat (go_big_quiet_step (fail))
        refine wpQuiet_nil ?_
        rintro _ ⟨y, rfl⟩
        have hb1 := y.below
        go_wp2
        go_roundw
        case rel => exact ⟨j + 1, M, by omega, by go_num, HE, by omega, ownsUnder hown hb1 (Nat.le_refl _), HB.out.trans (hb1.mono (by omega))⟩
        case measure => simp [intOf]; omega
    · obtain rfl : j = L.length := by omega
      have e := HM.out
      rw [List.take_length] at e
      subst e
      obtain ⟨A1, c1, rfl, _⟩ := rdR_of_own hown
      go_wp2
      refine bodyPost_ret (v := .tuple #[.slice A1 (outR L r).length c1, .bool (decide ((outR L r).length < L.length))]) (by simp [results, Try.results22, go_sem]) rfl ?_
      exact ⟨⟨_, rfl, ownsDown hown (by omega)⟩, HW.out⟩
set_option maxHeartbeats 1000000 in
theorem rulOut_impl (A : Option Addr) (c : Nat) (L : List RR) (r : RR) (w : World) (hL : RdR w.heap.size w A L) (hn : L.length ≤ 1048576) :
    Calls Try.prog 19 #[.slice A L.length c, .agg #[.int .i64 r.user, .string r.ref, .string r.path, .bool r.write]] w fun e w' => (∃ v, e = .returned (.tuple #[v, .bool (decide ((outR L r).length < L.length))]) ∧ w'.ownsRow w.heap.size 32 4 v (outR L r).length (cellsR (outR L r))) ∧ Below w.heap.size w w' := by
  have HL : Hid (RdR w.heap.size w A L) := hL
  clear hL
  have gR := guardR
  obtain ⟨i0, hi, hz0, hz1, hz2⟩ := info_parts infoR
  go_enter Try.func19, Try.ntmps19
  go_wp2
  go_loopw [6, 11] (fun v iv wr => ∃ (j : Nat) (M : List RR), j ≤ L.length ∧ iv = .int .i64 j ∧ Hid (M = outR (L.take j) r) ∧ M.length ≤ j ∧ wr.ownsRow (w.heap.size + 1) 32 4 v M.length (cellsR M) ∧ Below (w.heap.size + 1) (w.alloc (.cells #[.int .i64 r.user, .string r.ref, .string r.path, .bool r.write] 32)) wr) (fun _ i _ => L.length - (intOf i).toNat)
  case atStart => exact ⟨0, [], Nat.zero_le _, rfl, rfl, Nat.le_refl _, World.ownsRow_nil _ _ _ _, Below.refl _ _⟩
  case round =>
    obtain ⟨j, M, hj, rfl, HM, hm, hown, hb⟩ := hrel
    have hsz := hb.size
    simp only [World.size_alloc] at hsz
    have hbw : Below w.heap.size w wr := ((Below.refl _ w).alloc (Nat.le_refl _) _).trans (hb.mono (by omega))
    have HB : Hid (Below (w.heap.size + 1) (w.alloc (.cells #[.int .i64 r.user, .string r.ref, .string r.path, .bool r.write] 32)) wr) := hb
    have HW : Hid (Below w.heap.size w wr) := hbw
    by_cases hlt : j < L.length
    · obtain ⟨b, o, rfl, hbl, c1, c2, c3, c4⟩ := (HL.out.below hbw (Nat.le_refl _)) j hlt
      have est := outR_take L r j hlt
      rw [← HM.out] at est
      obtain ⟨x, hx⟩ : ∃ x, L[j] = x := ⟨_, rfl⟩
      rw [hx] at est c1 c2 c3 c4
      clear hx
      have D := (atR_new w r 32).below hb (Nat.lt_succ_self _)
      obtain ⟨d1, d2, d3, d4⟩ := D.below ((Below.refl wr.heap.size wr).alloc (Nat.le_refl _) (.cells #[.int .i64 x.user, .string x.ref, .string x.path, .bool x.write] 32)) D.lt
      have req := fun v => run_neR v x r
      clear hb hbw D
      cases q0 : eqR x r
      · rw [q0, if_neg (by decide)] at est
        have HE : Hid (M ++ [x] = outR (L.take (j + 1)) r) := est.symm
        rw [q0] at req
        clear est q0 HM
        go_wp2_with (at_builtin; refine wpList_append_own _ rfl _ _ 23 rfl (w.heap.size + 1) 32 i0 (.agg #[.int .i64 0, .string ByteArray.empty, .string ByteArray.empty, .bool false]) 4 48 Try.underlying23 hi hz0 hz1 hz2 rfl (by decide) _ _ _ rfl ((hown.alloc _).alloc _) ⟨wr.heap.size + 1, 0, none⟩ 1 1 [.int .i64 x.user, .string x.ref, .string x.path, .bool x.write] rfl rfl (cells_new' _ #[.int .i64 x.user, .string x.ref, .string x.path, .bool x.write] _ _ (by simp)) (fun u hu => by simp at hu; rcases hu with rfl | rfl | rfl | rfl <;> rfl) (by unfold maxLen; omega) (by omega) (by simp; omega) ?_; intro v' w3 hown' hgrow3 hnil3)
        go_roundw
        case rel =>
          refine ⟨j + 1, M ++ [x], by omega, by go_num, HE, by simp; omega, ?_, ?_⟩
          · rw [cellsR_snoc, List.length_append]; exact hown'
          · exact growOwn ((HB.out.alloc (by omega) _).alloc (by simp; omega) _) (by simp; omega) ((hown.alloc _).alloc _) hgrow3 (Nat.le_refl _)
        case measure => simp [intOf]; omega
      · rw [q0, if_pos rfl, List.append_nil] at est
        have HE : Hid (M = outR (L.take (j + 1)) r) := est.symm
        rw [q0] at req
        clear est q0 HM
        go_wp2
        go_roundw
        case rel => exact ⟨j + 1, M, by omega, by go_num, HE, by omega, hown.alloc _, HB.out.alloc (by omega) _⟩
        case measure => simp [intOf]; omega
    · obtain rfl : j = L.length := by omega
      have e := HM.out
      rw [List.take_length] at e
      subst e
      obtain ⟨A1, c1, rfl, _⟩ := rdR_of_own hown
      go_wp2
      refine bodyPost_ret (v := .tuple #[.slice A1 (outR L r).length c1, .bool (decide ((outR L r).length < L.length))]) (by simp [results, Try.results19, go_sem]) rfl ?_
      exact ⟨⟨_, rfl, ownsDown hown (by omega)⟩, HW.out⟩
theorem rulOutI_own {b : Nat} {e : TypeId} (v : Value) (L : List RR) (r : RR) (w : World) (h : w.ownsRow b e 4 v L.length (cellsR L)) (hn : L.length ≤ 1048576) :
    Calls Try.prog 19 #[v, .agg #[.int .i64 r.user, .string r.ref, .string r.path, .bool r.write]] w fun e w' => (∃ v, e = .returned (.tuple #[v, .bool (decide ((outR L r).length < L.length))]) ∧ w'.ownsRow w.heap.size 32 4 v (outR L r).length (cellsR (outR L r))) ∧ Below w.heap.size w w' := by
  obtain ⟨A, c, rfl, rd⟩ := rdR_of_own h
  exact rulOut_impl A c L r w rd hn
theorem rulOutS_own {b : Nat} {e : TypeId} (v : Value) (L : List RR) (r : RR) (w : World) (h : w.ownsRow b e 4 v L.length (cellsR L)) (hn : L.length ≤ 1048576) :
    Calls Try.prog 22 #[v, .agg #[.int .i64 r.user, .string r.ref, .string r.path, .bool r.write]] w fun e w' => (∃ v, e = .returned (.tuple #[v, .bool (decide ((outR L r).length < L.length))]) ∧ w'.ownsRow w.heap.size 32 4 v (outR L r).length (cellsR (outR L r))) ∧ Below w.heap.size w w' := by
  obtain ⟨A, c, rfl, rd⟩ := rdR_of_own h
  exact rulOut_spec A c L r w rd hn
end Go.Proofs.Ytmjmkgigopinbaa.W
