
/-
  The walks of the specification's ObjEntries, ObjKind and ObjBytes. Texts of at most 1048576 bytes.
-/
import Derived.Test.YtcmbcaipnjokjaaGreatDoorWalkL2
import Derived.Test.YtcmbcaipnjokjaaGreatDoorWalkObI
namespace Go.Proofs.YtcmbcaipnjokjaaGreatDoor.W
open Go.RowKit Go.Proofs.YtcmbcaipnjokjaaGreatDoor.M

theorem st_get (s : ByteArray) (c : UInt8) (h : 0 < s.size) : (((s[0]).toNat : Int) == (c.toNat : Int)) = stB s c := by
  rw [is_c]
  unfold stB
  have : s.data.toList.take 1 = [s[0]] := by
    have := drop_at s 0 h
    rw [List.drop_zero] at this
    rw [this]; rfl
  rw [this, Bool.eq_iff_iff]
  simp
theorem st_cons (s : ByteArray) (c : UInt8) (h : stB s c = true) : s.data.toList = c :: s.data.toList.drop 1 := by
  unfold stB at h
  have := of_decide_eq_true h
  conv => lhs; rw [← List.take_append_drop 1 s.data.toList, this]
  rfl
theorem kd_two (s : ByteArray) (es : List En) (h : stB s 83 = true) (he : sheetI (s.data.toList.drop 1) = some es) : kd s = 2 := by
  have h1 : stB s 76 = false := by
    cases e : stB s 76
    · rfl
    · rw [st_two s e] at h; cases h
  unfold kd; rw [h1, h, he]; rfl
theorem kd_ne (s : ByteArray) (h : stB s 83 = false ∨ sheetI (s.data.toList.drop 1) = none) : kd s ≠ 2 := by
  unfold kd
  split
  · split <;> decide
  · rcases h with h | h
    · rw [h]; simp
    · rw [h]; simp

theorem neT (T s : ByteArray) (h : T ≠ s) : (T.toList == s.toList) = false := by
  rw [Lib.toList_data, Lib.toList_data, beq_eq_false_iff_ne]
  intro e
  exact h (by rw [← wholeB T, ← wholeB s, e])
/-- what ObjEntries answers -/
def EnAns (s : ByteArray) (B : Nat) (w' : World) (e : Ending) : Prop :=
  (∃ (A : Option Addr) (c : Nat), e = .returned (.tuple #[.slice A 0 c, .bool false]) ∧ kd s ≠ 2 ∧ w'.ownsRow B 102 3 (.slice A 0 c) 0 []) ∨
  (∃ (A : Option Addr) (c : Nat) (L : List OE), e = .returned (.tuple #[.slice A L.length c, .bool true]) ∧ kd s = 2 ∧ sheetI (s.data.toList.drop 1) = some (L.map enO) ∧ w'.ownsRow B 102 3 (.slice A L.length c) L.length (cellsO L))
theorem newO (w : World) : (w.alloc (.cells #[] 102)).ownsRow w.heap.size 102 3 (.slice (some ⟨w.heap.size, 0, none⟩) 0 0) 0 [] := World.ownsRow_lit w #[] 0 (Nat.le_refl _) (by unfold maxLen; omega) rfl

set_option maxRecDepth 100000 in
set_option maxHeartbeats 2000000 in
theorem objEntries_spec (s : ByteArray) (w : World) (hs : s.size ≤ 1048576) :
    Calls Tryz.prog 41 #[.string s] w fun e w' => EnAns s w.heap.size w' e ∧ Below w.heap.size w w' := by
  by_cases h0 : s.size = 0
  · have k0 : Hid (kd s ≠ 2) := kd_ne s (.inl (st_nil s 83 (by omega)))
    have q0 : ((s.size : Int) == 0) = true := by rw [h0]; rfl
    have q0' : (s.size : Int) = 0 := by omega
    go_enter Tryz.func41, Tryz.ntmps41
    go_wp2
    go_ret2
    exact ⟨.inl ⟨_, _, rfl, k0.out, newO w⟩, (Below.refl _ w).alloc (Nat.le_refl _) _⟩
  have q0 : ((s.size : Int) == 0) = false := beq_eq_false_iff_ne.2 (by omega)
  have hp : 0 < s.size := by omega
  have hg := st_get s 83 hp
  cases h83 : stB s 83
  · have k0 : Hid (kd s ≠ 2) := kd_ne s (.inl h83)
    rw [h83] at hg
    have q1 : (((s[0]).toNat : Int) == 83) = false := hg
    have q1n : (((s[0]).toNat : Int) != 83) = true := by rw [bne, q1]; rfl
    clear h0 hg
    go_enter Tryz.func41, Tryz.ntmps41
    go_wp2
    go_ret2
    exact ⟨.inl ⟨_, _, rfl, k0.out, newO w⟩, (Below.refl _ w).alloc (Nat.le_refl _) _⟩
  rw [h83] at hg
  have q1 : (((s[0]).toNat : Int) == 83) = true := hg
  have q1n : (((s[0]).toNat : Int) != 83) = false := by rw [bne, q1]; rfl
  clear hg
  by_cases hl : 721 < s.size
  · have k0 : Hid (kd s ≠ 2) := kd_ne s (.inr (spec_long _ (by rw [List.length_drop, len_dat]; omega)))
    clear h0
    go_enter Tryz.func41, Tryz.ntmps41
    go_wp2
    go_ret2
    exact ⟨.inl ⟨_, _, rfl, k0.out, newO w⟩, (Below.refl _ w).alloc (Nat.le_refl _) _⟩
  have hl' : s.size ≤ 721 := by omega
  have qr := fun w => l2Read_any s w hp hl'
  have K2 : Hid (∀ es, sheetI (s.data.toList.drop 1) = some es → kd s = 2) := fun es he => kd_two s es h83 he
  have KS : Hid (s.data.toList = 83 :: s.data.toList.drop 1) := st_cons s 83 h83
  clear h0 hl h83
  go_enter Tryz.func41, Tryz.ntmps41
  go_wp2_with (first
    | (go_at_call 59; refine (qr _).mono ?_; rintro e w1 ⟨⟨A, c, L, b, rfl, hz, hL, hN, ow⟩, hb⟩; cases b; rotate_left; obtain ⟨A2, c2, e2, rd⟩ := rdO_of_own ow; cases e2; obtain ⟨T, hT⟩ : ∃ T, T = ByteArray.mk (sheetT (L.map enO)).toArray := ⟨_, rfl⟩; have HT : Hid (T = ByteArray.mk (sheetT (L.map enO)).toArray) := hT; clear hT; by_cases hE : T = s)
    | (go_at_call 60; refine (sheet_spec A c L _ rd (by omega) (fun j h => by have := hN j h; omega)).mono ?_; rw [← HT.out]; rintro e w2 ⟨rfl, hb2⟩; have ow2 := ownsUnder ow hb2 (Nat.le_refl _); have hb3 := hb.trans (hb2.mono hb.size); first | (subst hE; skip) | (have z := neT T s hE)))
  · go_ret2
    have e := congrArg (fun x : ByteArray => x.data.toList) HT.out
    simp only at e
    have hk := spec_some _ _ (e.symm.trans KS.out)
    exact ⟨.inr ⟨A, c, L, rfl, K2.out _ hk, hk, ownsUpO ow2 (Nat.le_refl _)⟩, hb3⟩
  · go_ret2
    have hk := spec_none _ _ _ hz (.inr fun e => hE (by
      rw [HT.out, e, ← KS.out]))
    exact ⟨.inl ⟨_, _, rfl, kd_ne s (.inr hk), ownsUpO (newO w2) hb3.size⟩, hb3.alloc hb3.size _⟩
  · go_ret2
    have hk := spec_none _ _ _ hz (.inl rfl)
    exact ⟨.inl ⟨_, _, rfl, kd_ne s (.inr hk), ownsUpO (newO w1) hb.size⟩, hb.alloc hb.size _⟩
set_option maxRecDepth 100000 in
set_option maxHeartbeats 2000000 in
theorem objKind_spec (s : ByteArray) (w : World) (hs : s.size ≤ 1048576) :
    Calls Tryz.prog 26 #[.string s] w fun e w' => e = .returned (.int .i64 ((kd s : Nat) : Int)) ∧ Below w.heap.size w w' := by
  have qe := fun w => objEntries_spec s w hs
  unfold EnAns at qe
  have hr := rest_size s
  cases h76 : stB s 76
  · have K0 : Hid (kd s ≠ 2 → kd s = 0) := fun h => by
      unfold kd at *; rw [h76] at *
      simp only [Bool.false_eq_true, if_false] at *
      split at h <;> rename_i e1
      · rw [if_pos e1]; split at h
        · exact absurd rfl h
        · rename_i e2; rw [if_neg e2]
      · rw [if_neg e1]
    by_cases h0 : 0 < s.size
    · have hg := st_get s 76 h0
      rw [h76] at hg
      have q1 : (((s[0]).toNat : Int) == 76) = false := hg
      clear hg h76 hr
      go_enter Tryz.func26, Tryz.ntmps26
      go_wp2_with (go_at_call 41; refine (qe _).mono ?_; rintro e w1 ⟨⟨A, c, rfl, hk, _⟩ | ⟨A, c, L, rfl, hk, _, _⟩, hb⟩)
      · go_ret
        rw [K0.out hk]
        exact ⟨rfl, hb⟩
      · go_ret
        rw [hk]
        exact ⟨rfl, hb⟩
    · clear h76 hr
      go_enter Tryz.func26, Tryz.ntmps26
      go_wp2_with (go_at_call 41; refine (qe _).mono ?_; rintro e w1 ⟨⟨A, c, rfl, hk, _⟩ | ⟨A, c, L, rfl, hk, _, _⟩, hb⟩)
      · go_ret
        rw [K0.out hk]
        exact ⟨rfl, hb⟩
      · go_ret
        rw [hk]
        exact ⟨rfl, hb⟩
  · have h0 := st_pos s 76 h76
    have hg := st_get s 76 (by omega)
    rw [h76] at hg
    have q1 : (((s[0]).toNat : Int) == 76) = true := hg
    by_cases h7 : s.size ≤ 7
    · have k1 : kd s = 1 := by unfold kd; rw [h76, if_pos rfl, if_pos (by omega)]
      rw [k1]
      clear hg h76 hr qe
      go_enter Tryz.func26, Tryz.ntmps26
      go_wp2
      go_ret
      exact ⟨rfl, Below.refl _ _⟩
    · have k0 : Hid (kd s = 0) := by show _ = _; unfold kd; rw [h76, if_pos rfl, if_neg (by omega)]
      clear hg h76 hr
      go_enter Tryz.func26, Tryz.ntmps26
      go_wp2_with (go_at_call 41; refine (qe _).mono ?_; rintro e w1 ⟨⟨A, c, rfl, hk, _⟩ | ⟨A, c, L, rfl, hk, _, _⟩, hb⟩)
      · go_ret
        rw [k0.out]
        exact ⟨rfl, hb⟩
      · rw [k0.out] at hk; cases hk
set_option maxHeartbeats 1000000 in
theorem objBytes_spec (s : ByteArray) (w : World) (hs : s.size ≤ 1048576) :
    Calls Tryz.prog 66 #[.string s] w fun e w' => e = .returned (.tuple #[.string (byB s), .bool (decide (kd s = 1))]) ∧ Below w.heap.size w w' := by
  have q := fun w => objKind_spec s w hs
  by_cases h1 : kd s = 1
  · have hp : 1 ≤ s.size := by
      by_cases hp : 1 ≤ s.size
      · exact hp
      · exfalso
        unfold kd at h1
        rw [st_nil s 76 hp, st_nil s 83 hp] at h1
        cases h1
    rw [byB_yes s h1, h1]
    rw [h1] at q
    unfold restB
    clear h1
    go_enter Tryz.func66, Tryz.ntmps66
    go_wp2_with (go_at_call 26; refine (q _).mono ?_; rintro e w1 ⟨rfl, hb⟩)
    go_ret2
    exact ⟨rfl, hb⟩
  · rw [byB_no s h1, decide_eq_false h1]
    have h1' : (((kd s : Nat) : Int) == 1) = false := beq_eq_false_iff_ne.2 (by omega)
    have h1n : (((kd s : Nat) : Int) != 1) = true := by rw [bne, h1']; rfl
    generalize kd s = k at *
    clear h1
    go_enter Tryz.func66, Tryz.ntmps66
    go_wp2_with (go_at_call 26; refine (q _).mono ?_; rintro e w1 ⟨rfl, hb⟩)
    go_ret2
    exact ⟨rfl, hb⟩
end Go.Proofs.YtcmbcaipnjokjaaGreatDoor.W
