/-
  The walks of the specification's ObjEntries, ObjKind and ObjBytes. Texts of at most 1048576 bytes.
  ObjEntries of the program and of the specification as one list. Texts of at most 1048576 bytes.
  Objects there and back: what a leaf's text and a sheet's text are read as. Two entries held against each other. No condition.
-/
import Derived.Test.YthfffpdkmoclbaaGreatDoorMg27
import Derived.Test.YthfffpdkmoclbaaGreatDoorMg12
import Derived.Laws.StructEq
namespace Go.Proofs.YthfffpdkmoclbaaGreatDoor.W
open Go.RowKit Go.Proofs.YthfffpdkmoclbaaGreatDoor.M

theorem st_get (s : ByteArray) (c : UInt8) (h : 0 < s.size) : (((s[0]).toNat : Int) == (c.toNat : Int)) = stB s c := by
  rw [is_c]
  unfold stB
  have : s.data.toList.take 1 = [s[0]] := by
    have := drop_at s 0 h
    rw [List.drop_zero] at this
    rw [this]; rfl
  rw [this, Bool.eq_iff_iff]
  simp
theorem st_cons (s : ByteArray) (c : UInt8) (h : stB s c = true) : s.data.toList = c :: s.data.toList.drop 1 := by
  unfold stB at h
  have := of_decide_eq_true h
  conv => lhs; rw [← List.take_append_drop 1 s.data.toList, this]
  rfl
theorem kd_two (s : ByteArray) (es : List En) (h : stB s 83 = true) (he : sheetI (s.data.toList.drop 1) = some es) : kd s = 2 := by
  have h1 : stB s 76 = false := by
    cases e : stB s 76
    · rfl
    · rw [st_two s e] at h; cases h
  unfold kd; rw [h1, h, he]; rfl
theorem kd_ne (s : ByteArray) (h : stB s 83 = false ∨ sheetI (s.data.toList.drop 1) = none) : kd s ≠ 2 := by
  unfold kd
  split
  · split <;> decide
  · rcases h with h | h
    · rw [h]; simp
    · rw [h]; simp

theorem neT (T s : ByteArray) (h : T ≠ s) : (T.toList == s.toList) = false := by
  rw [Lib.toList_data, Lib.toList_data, beq_eq_false_iff_ne]
  intro e
  exact h (by rw [← wholeB T, ← wholeB s, e])
/-- what ObjEntries answers -/
def EnAns (s : ByteArray) (B : Nat) (w' : World) (e : Ending) : Prop :=
  (∃ (A : Option Addr) (c : Nat), e = .returned (.tuple #[.slice A 0 c, .bool false]) ∧ kd s ≠ 2 ∧ w'.ownsRow B 90 3 (.slice A 0 c) 0 []) ∨
  (∃ (A : Option Addr) (c : Nat) (L : List OE), e = .returned (.tuple #[.slice A L.length c, .bool true]) ∧ kd s = 2 ∧ sheetI (s.data.toList.drop 1) = some (L.map enO) ∧ w'.ownsRow B 90 3 (.slice A L.length c) L.length (cellsO L))
theorem newO (w : World) : (w.alloc (.cells #[] 90)).ownsRow w.heap.size 90 3 (.slice (some ⟨w.heap.size, 0, none⟩) 0 0) 0 [] := World.ownsRow_lit w #[] 0 (Nat.le_refl _) (by unfold maxLen; omega) rfl

set_option maxRecDepth 100000 in
set_option maxHeartbeats 2000000 in
theorem objEntries_spec (s : ByteArray) (w : World) (hs : s.size ≤ 1048576) :
    Calls Tryz.prog 56 #[.string s] w fun e w' => EnAns s w.heap.size w' e ∧ Below w.heap.size w w' := by
  by_cases h0 : s.size = 0
  · have k0 : Hid (kd s ≠ 2) := kd_ne s (.inl (st_nil s 83 (by omega)))
    have q0 : ((s.size : Int) == 0) = true := by rw [h0]; rfl
    have q0' : (s.size : Int) = 0 := by omega
    go_enter Tryz.func56, Tryz.ntmps56
    go_wp2
    go_ret2
    exact ⟨.inl ⟨_, _, rfl, k0.out, newO w⟩, (Below.refl _ w).alloc (Nat.le_refl _) _⟩
  have q0 : ((s.size : Int) == 0) = false := beq_eq_false_iff_ne.2 (by omega)
  have hp : 0 < s.size := by omega
  have hg := st_get s 83 hp
  cases h83 : stB s 83
  · have k0 : Hid (kd s ≠ 2) := kd_ne s (.inl h83)
    rw [h83] at hg
    have q1 : (((s[0]).toNat : Int) == 83) = false := hg
    have q1n : (((s[0]).toNat : Int) != 83) = true := by rw [bne, q1]; rfl
    clear h0 hg
    go_enter Tryz.func56, Tryz.ntmps56
    go_wp2
    go_ret2
    exact ⟨.inl ⟨_, _, rfl, k0.out, newO w⟩, (Below.refl _ w).alloc (Nat.le_refl _) _⟩
  rw [h83] at hg
  have q1 : (((s[0]).toNat : Int) == 83) = true := hg
  have q1n : (((s[0]).toNat : Int) != 83) = false := by rw [bne, q1]; rfl
  clear hg
  by_cases hl : 721 < s.size
  · have k0 : Hid (kd s ≠ 2) := kd_ne s (.inr (spec_long _ (by rw [List.length_drop, len_dat]; omega)))
    clear h0
    go_enter Tryz.func56, Tryz.ntmps56
    go_wp2
    go_ret2
    exact ⟨.inl ⟨_, _, rfl, k0.out, newO w⟩, (Below.refl _ w).alloc (Nat.le_refl _) _⟩
  have hl' : s.size ≤ 721 := by omega
  have qr := fun w => l2Read_any s w hp hl'
  have K2 : Hid (∀ es, sheetI (s.data.toList.drop 1) = some es → kd s = 2) := fun es he => kd_two s es h83 he
  have KS : Hid (s.data.toList = 83 :: s.data.toList.drop 1) := st_cons s 83 h83
  clear h0 hl h83
  go_enter Tryz.func56, Tryz.ntmps56
  go_wp2_with (first
    | (go_at_call 87; refine (qr _).mono ?_; rintro e w1 ⟨⟨A, c, L, b, rfl, hz, hL, hN, ow⟩, hb⟩; cases b; rotate_left; obtain ⟨A2, c2, e2, rd⟩ := rdO_of_own ow; cases e2; obtain ⟨T, hT⟩ : ∃ T, T = ByteArray.mk (sheetT (L.map enO)).toArray := ⟨_, rfl⟩; have HT : Hid (T = ByteArray.mk (sheetT (L.map enO)).toArray) := hT; clear hT; by_cases hE : T = s)
    | (go_at_call 81; refine (sheet_spec A c L _ rd (by omega) (fun j h => by have := hN j h; omega)).mono ?_; rw [← HT.out]; rintro e w2 ⟨rfl, hb2⟩; have ow2 := ownsUnder ow hb2 (Nat.le_refl _); have hb3 := hb.trans (hb2.mono hb.size); first | (subst hE; skip) | (have z := neT T s hE)))
  · go_ret2
    have e := congrArg (fun x : ByteArray => x.data.toList) HT.out
    simp only at e
    have hk := spec_some _ _ (e.symm.trans KS.out)
    exact ⟨.inr ⟨A, c, L, rfl, K2.out _ hk, hk, ownsUpO ow2 (Nat.le_refl _)⟩, hb3⟩
  · go_ret2
    have hk := spec_none _ _ _ hz (.inr fun e => hE (by
      rw [HT.out, e, ← KS.out]))
    exact ⟨.inl ⟨_, _, rfl, kd_ne s (.inr hk), ownsUpO (newO w2) hb3.size⟩, hb3.alloc hb3.size _⟩
  · go_ret2
    have hk := spec_none _ _ _ hz (.inl rfl)
    exact ⟨.inl ⟨_, _, rfl, kd_ne s (.inr hk), ownsUpO (newO w1) hb.size⟩, hb.alloc hb.size _⟩
set_option maxRecDepth 100000 in
set_option maxHeartbeats 2000000 in
theorem objKind_spec (s : ByteArray) (w : World) (hs : s.size ≤ 1048576) :
    Calls Tryz.prog 14 #[.string s] w fun e w' => e = .returned (.int .i64 ((kd s : Nat) : Int)) ∧ Below w.heap.size w w' := by
  have qe := fun w => objEntries_spec s w hs
  unfold EnAns at qe
  have hr := rest_size s
  cases h76 : stB s 76
  · have K0 : Hid (kd s ≠ 2 → kd s = 0) := fun h => by
      unfold kd at *; rw [h76] at *
      simp only [Bool.false_eq_true, if_false] at *
      split at h <;> rename_i e1
      · rw [if_pos e1]; split at h
        · exact absurd rfl h
        · rename_i e2; rw [if_neg e2]
      · rw [if_neg e1]
    by_cases h0 : 0 < s.size
    · have hg := st_get s 76 h0
      rw [h76] at hg
      have q1 : (((s[0]).toNat : Int) == 76) = false := hg
      clear hg h76 hr
      go_enter Tryz.func14, Tryz.ntmps14
      go_wp2_with (go_at_call 56; refine (qe _).mono ?_; rintro e w1 ⟨⟨A, c, rfl, hk, _⟩ | ⟨A, c, L, rfl, hk, _, _⟩, hb⟩)
      · go_ret
        rw [K0.out hk]
        exact ⟨rfl, hb⟩
      · go_ret
        rw [hk]
        exact ⟨rfl, hb⟩
    · clear h76 hr
      go_enter Tryz.func14, Tryz.ntmps14
      go_wp2_with (go_at_call 56; refine (qe _).mono ?_; rintro e w1 ⟨⟨A, c, rfl, hk, _⟩ | ⟨A, c, L, rfl, hk, _, _⟩, hb⟩)
      · go_ret
        rw [K0.out hk]
        exact ⟨rfl, hb⟩
      · go_ret
        rw [hk]
        exact ⟨rfl, hb⟩
  · have h0 := st_pos s 76 h76
    have hg := st_get s 76 (by omega)
    rw [h76] at hg
    have q1 : (((s[0]).toNat : Int) == 76) = true := hg
    by_cases h7 : s.size ≤ 7
    · have k1 : kd s = 1 := by unfold kd; rw [h76, if_pos rfl, if_pos (by omega)]
      rw [k1]
      clear hg h76 hr qe
      go_enter Tryz.func14, Tryz.ntmps14
      go_wp2
      go_ret
      exact ⟨rfl, Below.refl _ _⟩
    · have k0 : Hid (kd s = 0) := by show _ = _; unfold kd; rw [h76, if_pos rfl, if_neg (by omega)]
      clear hg h76 hr
      go_enter Tryz.func14, Tryz.ntmps14
      go_wp2_with (go_at_call 56; refine (qe _).mono ?_; rintro e w1 ⟨⟨A, c, rfl, hk, _⟩ | ⟨A, c, L, rfl, hk, _, _⟩, hb⟩)
      · go_ret
        rw [k0.out]
        exact ⟨rfl, hb⟩
      · rw [k0.out] at hk; cases hk
end Go.Proofs.YthfffpdkmoclbaaGreatDoor.W
namespace Go.Proofs.YthfffpdkmoclbaaGreatDoor.W
open Go.RowKit Go.Proofs.YthfffpdkmoclbaaGreatDoor.M

/-- the entries of a text -/
def enL (s : ByteArray) : List OE := if kd s = 2 then ((sheetI (s.data.toList.drop 1)).getD []).map oeOf else []
theorem oe_en (x : OE) : oeOf (enO x) = x := by
  obtain ⟨nm, sh, id⟩ := x
  simp only [oeOf, enO, wholeB]
theorem map_oe (L : List OE) : (L.map enO).map oeOf = L := by
  induction L with
  | nil => rfl
  | cons x l ih => simp only [List.map_cons, oe_en, ih]
theorem enL_no (s : ByteArray) (h : kd s ≠ 2) : enL s = [] := by unfold enL; rw [if_neg h]
theorem enL_yes (s : ByteArray) (L : List OE) (h : kd s = 2) (hk : sheetI (s.data.toList.drop 1) = some (L.map enO)) : enL s = L := by
  unfold enL; rw [if_pos h, hk]; exact map_oe L
theorem enL_len (s : ByteArray) : (enL s).length ≤ 60 := by
  unfold enL
  split
  · cases hk : sheetI (s.data.toList.drop 1) with
    | none => simp
    | some es =>
      have h1 := ((sheetI_iff _ _).1 hk).1
      have h2 := (Go.Proofs.YthfffpdkmoclbaaGreatDoor.M.okL_parts es h1).1
      simpa using h2
  · simp
theorem enS_any (s : ByteArray) (w : World) (hs : s.size ≤ 1048576) :
    Calls Tryz.prog 56 #[.string s] w fun e w' => (∃ v, e = .returned (.tuple #[v, .bool (decide (kd s = 2))]) ∧ w'.ownsRow w.heap.size 90 3 v (enL s).length (cellsO (enL s))) ∧ Below w.heap.size w w' := by
  refine (objEntries_spec s w hs).mono ?_
  rintro e w' ⟨⟨A, c, rfl, hk, ow⟩ | ⟨A, c, L, rfl, hk, hk2, ow⟩, hb⟩
  · rw [enL_no s hk, decide_eq_false hk]
    exact ⟨⟨_, rfl, ow⟩, hb⟩
  · rw [enL_yes s L hk hk2, decide_eq_true hk]
    exact ⟨⟨_, rfl, ow⟩, hb⟩
theorem enI_any (s : ByteArray) (w : World) (hs : s.size ≤ 1048576) (hg : TypeCell w) :
    Calls Tryz.prog 64 #[.string s] w fun e w' => (∃ v, e = .returned (.tuple #[v, .bool (decide (kd s = 2))]) ∧ w'.ownsRow w.heap.size 90 3 v (enL s).length (cellsO (enL s))) ∧ Below w.heap.size w w' := by
  refine (objEntries_impl s w hs hg).mono ?_
  rintro e w' ⟨⟨rfl, hk⟩ | ⟨A, c, L, rfl, hk, hk2, ow⟩, hb⟩
  · rw [enL_no s hk, decide_eq_false hk]
    exact ⟨⟨_, rfl, World.ownsRow_nil _ _ _ _⟩, hb⟩
  · rw [enL_yes s L hk hk2, decide_eq_true hk]
    exact ⟨⟨_, rfl, ow⟩, hb⟩
end Go.Proofs.YthfffpdkmoclbaaGreatDoor.W
namespace Go.Proofs.YthfffpdkmoclbaaGreatDoor.W
open Go.RowKit Go.Proofs.YthfffpdkmoclbaaGreatDoor.M

theorem list_eq_iff' (a b : ByteArray) : a.data.toList = b.data.toList ↔ a = b := by
  constructor
  · intro h; apply ByteArray.ext; exact Array.ext' h
  · intro h; rw [h]
theorem isE (s : ByteArray) : s.toList.isEmpty = decide (s.data.toList = []) := by
  rw [Lib.toList_data]
  cases s.data.toList <;> simp
theorem leaf_yes (b : ByteArray) (h : b.size ≤ 6) : (leafB b).toList.isEmpty = false ∧ kd (leafB b) = 1 ∧ byB (leafB b) = b := by
  have e : leafB b = ⟨#[76]⟩ ++ b := (leafB_yes b h).symm
  have hd : (leafB b).data.toList = 76 :: b.data.toList := by rw [e]; simp
  have h1 : stB (leafB b) 76 = true := by unfold stB; rw [hd]; simp
  have hr : restB (leafB b) = b := by
    rw [← list_eq_iff', rest_dat, hd]; rfl
  have hk : kd (leafB b) = 1 := by unfold kd; rw [if_pos h1, hr, if_pos h]
  exact ⟨by rw [isE, hd]; rfl, hk, by rw [byB_yes _ hk, hr]⟩
theorem kd_nil : kd ⟨#[]⟩ = 0 := by decide
theorem leaf_no (b : ByteArray) (h : ¬ b.size ≤ 6) : leafB b = ⟨#[]⟩ := (leafB_no b h).symm
/-- a sheet's text -/
def shB (L : List OE) : ByteArray := ⟨(sheetT (L.map enO)).toArray⟩
theorem sheet_yes (L : List OE) (h : okL (L.map enO) = true) : (shB L).toList.isEmpty = false ∧ kd (shB L) = 2 ∧ enL (shB L) = L := by
  have hd : (shB L).data.toList = 83 :: encL (L.map enO) := by unfold shB sheetT; rw [if_pos h]
  have h1 : stB (shB L) 83 = true := by unfold stB; rw [hd]; simp
  have hs : sheetI ((shB L).data.toList.drop 1) = some (L.map enO) := by
    rw [hd]; exact (sheetI_iff _ _).2 ⟨h, rfl⟩
  have hk := kd_two _ _ h1 hs
  exact ⟨by rw [isE, hd]; rfl, hk, enL_yes _ _ hk hs⟩
theorem sheet_no (L : List OE) (h : okL (L.map enO) = false) : shB L = ⟨#[]⟩ := by unfold shB sheetT; rw [if_neg (by rw [h]; decide)]
theorem shB_size (L : List OE) (h : L.length ≤ 6) : (shB L).size ≤ 100 := by
  cases hk : okL (L.map enO) with
  | false => rw [sheet_no L hk]; decide
  | true =>
    have hd : (shB L).data.toList = 83 :: encL (L.map enO) := by unfold shB sheetT; rw [if_pos hk]
    have h2 := enc_len (L.map enO) (M.okL_parts _ hk).2.1
    have h3 : (shB L).size = (shB L).data.toList.length := by rw [Array.length_toList]; rfl
    rw [h3, hd]
    simp at h2 ⊢
    omega
def eqO (x y : OE) : Bool := (x.nm.toList == y.nm.toList) && ((x.sh == y.sh) && (x.id == y.id))
theorem eqO_self (x : OE) : eqO x x = true := by simp [eqO]
theorem run_eqO (w : World) (x y : OE) : (binOp .eql 90 (.agg #[.string x.nm, .bool x.sh, .int .i64 x.id]) (.agg #[.string y.nm, .bool y.sh, .int .i64 y.id])).run Tryz.prog w = .ok (.bool (eqO x y)) w := by
  have u1 := Tryz.underlying3
  have a1 := Tryz.isAgg3
  have z1 := Tryz.sizeOf3
  have u2 := Tryz.underlying9
  have a2 := Tryz.isAgg9
  have z2 := Tryz.sizeOf9
  have u3 := Tryz.underlying4
  have a3 := Tryz.isAgg4
  have z3 := Tryz.sizeOf4
  have hS : Tryz.prog.underlying 90 = some (.struct (Tryz.prog.fieldsOf 90)) := by kernel_rfl
  have hp : Tryz.prog.stoodInHeld 90 = false := by kernel_rfl
  rw [run_eql_struct, show (10000 : Nat) = 9999 + 1 from rfl, run_equalIn_agg w 9999 90 _ _ hS hp]
  simp only [Program.fieldsOf, Tryz.underlying90]
  go_simp
  unfold eqO
  cases h2 : (x.nm.toList == y.nm.toList) <;> cases h3 : (x.id == y.id) <;> cases h4 : x.sh <;> cases h5 : y.sh <;> simp_all
theorem run_neO (w : World) (x y : OE) : (binOp .neq 90 (.agg #[.string x.nm, .bool x.sh, .int .i64 x.id]) (.agg #[.string y.nm, .bool y.sh, .int .i64 y.id])).run Tryz.prog w = .ok (.bool (!eqO x y)) w := by
  have h := run_eqO w x y
  rw [run_eql_struct] at h
  rw [run_neq_struct]
  revert h
  generalize (Op.equalIn 10000 90 (.agg #[.string x.nm, .bool x.sh, .int .i64 x.id]) (.agg #[.string y.nm, .bool y.sh, .int .i64 y.id])).run Tryz.prog w = r
  intro h
  cases r with
  | ok b w' => simp at h ⊢; exact ⟨by rw [h.1], h.2⟩
  | halt x w' => simp [Result.andThen] at h
theorem guardO : Tryz.prog.eqGuardType Tryz.prog.depth 90 = false := by kernel_rfl
theorem chOk_o (w : World) : Calls Tryz.prog 15 #[] w fun e w' => e = .returned (.bool true) ∧ w = w' := by
  have hn : namB [97, 98, 99] = true := by decide
  go_enter Tryz.func15, Tryz.ntmps15
  go_wp2_with (go_at_call 57; refine (nam_all ⟨#[97, 98, 99]⟩ _).mono ?_; rintro e w1 ⟨rfl, rfl⟩)
  go_ret
  exact ⟨ret_bool hn, rfl⟩
end Go.Proofs.YthfffpdkmoclbaaGreatDoor.W
