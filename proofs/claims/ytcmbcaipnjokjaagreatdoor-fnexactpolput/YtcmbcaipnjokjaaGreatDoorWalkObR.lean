
/-
  The walks of the program's readObject and objectOf. Texts of at most 1048576 bytes.
-/
import Derived.Test.YtcmbcaipnjokjaaGreatDoorWalkShR
import Derived.Test.YtcmbcaipnjokjaaGreatDoorWalkLeafR
import Derived.Test.YtcmbcaipnjokjaaGreatDoorWalkAs
namespace Go.Proofs.YtcmbcaipnjokjaaGreatDoor.W
open Go.RowKit Go.Proofs.YtcmbcaipnjokjaaGreatDoor.M

/-- a text begins with a byte -/
def stB (s : ByteArray) (c : UInt8) : Bool := decide (s.data.toList.take 1 = [c])
def restB (s : ByteArray) : ByteArray := s.extract 1 s.size
theorem st_eq (s : ByteArray) (c : UInt8) : ((s.extract 0 1).toList == [c]) = stB s c := by
  rw [Lib.toList_data, ext_dat]
  unfold stB
  rw [Bool.eq_iff_iff]; simp
theorem st_nil (s : ByteArray) (c : UInt8) (h : ¬ 1 ≤ s.size) : stB s c = false := by
  have : s.data.toList = [] := List.length_eq_zero_iff.1 (by rw [len_dat]; omega)
  unfold stB; rw [this]; rfl
theorem st_pos (s : ByteArray) (c : UInt8) (h : stB s c = true) : 1 ≤ s.size := by
  by_cases h1 : 1 ≤ s.size
  · exact h1
  · rw [st_nil s c h1] at h; cases h
theorem rest_dat (s : ByteArray) : (restB s).data.toList = s.data.toList.drop 1 := by
  unfold restB
  rw [ext_dat, List.take_of_length_le (by rw [len_dat]; omega)]
theorem rest_size (s : ByteArray) : (restB s).size = s.size - 1 := by unfold restB; rw [ByteArray.size_extract]; omega
set_option maxHeartbeats 400000 in
theorem hasP_any (s : ByteArray) (c : UInt8) (w : World) (hs : s.size ≤ 1048576) :
    Calls Tryz.prog 130 #[.string s, .string ⟨#[c]⟩] w fun e w' => e = .returned (.bool (stB s c)) ∧ w = w' := by
  by_cases h : 1 ≤ s.size
  · rw [← st_eq]
    go_enter Tryz.func130, Tryz.ntmps130
    go_wp2
    go_ret
    exact ⟨rfl, rfl⟩
  · rw [st_nil s c h]
    go_enter Tryz.func130, Tryz.ntmps130
    go_wp2
    go_ret
    exact ⟨rfl, rfl⟩
set_option maxHeartbeats 400000 in
theorem cutP_any (s : ByteArray) (c : UInt8) (k : Bool) (w : World) (hs : s.size ≤ 1048576) (h : stB s c = k) :
    Calls Tryz.prog 110 #[.string s, .string ⟨#[c]⟩] w fun e w' => e = .returned (.tuple #[.string (if k = true then restB s else s), .bool k]) ∧ w = w' := by
  have HH : Hid (∀ w, Calls Tryz.prog 130 #[.string s, .string ⟨#[c]⟩] w fun e w' => e = .returned (.bool k) ∧ w = w') := fun w => by rw [← h]; exact hasP_any s c w hs
  cases k
  · clear h
    go_enter Tryz.func110, Tryz.ntmps110
    go_wp2_with (go_at_call 130; refine (HH.out _).mono ?_; rintro e w' ⟨rfl, rfl⟩)
    go_ret2
    exact ⟨rfl, rfl⟩
  · have h1 := st_pos s c h
    clear h
    unfold restB
    go_enter Tryz.func110, Tryz.ntmps110
    go_wp2_with (go_at_call 130; refine (HH.out _).mono ?_; rintro e w' ⟨rfl, rfl⟩)
    go_ret2
    exact ⟨rfl, rfl⟩
set_option maxHeartbeats 400000 in
theorem pre_yes (s : ByteArray) (c : UInt8) (w : World) (hs : s.size ≤ 1048576) (h : stB s c = true) :
    Calls Tryz.prog 94 #[.string s, .string ⟨#[c]⟩] w fun e w' => e = .returned (.tuple #[.string (restB s), .bool true]) ∧ w = w' := by
  have HH : Hid (∀ w, Calls Tryz.prog 110 #[.string s, .string ⟨#[c]⟩] w fun e w' => e = .returned (.tuple #[.string (restB s), .bool true]) ∧ w = w') := fun w => by have := cutP_any s c true w hs h; simpa using this
  clear h
  go_enter Tryz.func94, Tryz.ntmps94
  go_wp2_with (go_at_call 110; refine (HH.out _).mono ?_; rintro e w' ⟨rfl, rfl⟩)
  go_ret2
  exact ⟨rfl, rfl⟩
set_option maxHeartbeats 400000 in
theorem pre_no (s : ByteArray) (c : UInt8) (w : World) (hs : s.size ≤ 1048576) (h : stB s c = false) :
    Calls Tryz.prog 94 #[.string s, .string ⟨#[c]⟩] w fun e w' => e = .returned (.tuple #[.string s, .bool false]) ∧ w = w' := by
  have HH : Hid (∀ w, Calls Tryz.prog 110 #[.string s, .string ⟨#[c]⟩] w fun e w' => e = .returned (.tuple #[.string s, .bool false]) ∧ w = w') := fun w => by have := cutP_any s c false w hs h; simpa using this
  clear h
  go_enter Tryz.func94, Tryz.ntmps94
  go_wp2_with (go_at_call 110; refine (HH.out _).mono ?_; rintro e w' ⟨rfl, rfl⟩)
  go_ret2
  exact ⟨rfl, rfl⟩

/-- what a text is: 1 a leaf, 2 a sheet, 0 nothing -/
def kd (s : ByteArray) : Nat := if stB s 76 = true then (if (restB s).size ≤ 6 then 1 else 0) else if stB s 83 = true then (if (sheetI (s.data.toList.drop 1)).isSome = true then 2 else 0) else 0
theorem st_two (s : ByteArray) (h : stB s 76 = true) : stB s 83 = false := by
  unfold stB at *
  have := of_decide_eq_true h
  rw [this]; rfl

/-- what readObject answers -/
def RoAns (s : ByteArray) (B : Nat) (w' : World) (e : Ending) : Prop :=
  (∃ (o : Value) (m : ByteArray), e = .returned (.tuple #[o, .iface 117 (.agg #[.string m])]) ∧ kd s = 0) ∨
  (e = .returned (.tuple #[.iface 92 (.agg #[.string (restB s)]), .nilIface]) ∧ kd s = 1) ∨
  (∃ (A : Option Addr) (c : Nat) (L : List OE), e = .returned (.tuple #[.iface 94 (.agg #[.slice A L.length c]), .nilIface]) ∧ kd s = 2 ∧ sheetI (s.data.toList.drop 1) = some (L.map enO) ∧ w'.ownsRow B 102 3 (.slice A L.length c) L.length (cellsO L))

set_option maxRecDepth 100000 in
set_option maxHeartbeats 1000000 in
theorem readObject_any (s : ByteArray) (w : World) (hs : s.size ≤ 1048576) :
    Calls Tryz.prog 78 #[.string s] w fun e w' => RoAns s w.heap.size w' e ∧ Below w.heap.size w w' := by
  have hr := rest_size s
  cases h1 : stB s 76
  · have p1 := fun w => pre_no s 76 w hs h1
    cases h2 : stB s 83
    · have p2 := fun w => pre_no s 83 w hs h2
      have k0 : Hid (kd s = 0) := by show _ = _; unfold kd; rw [h1, h2]; rfl
      clear h1 h2 hr
      go_enter Tryz.func78, Tryz.ntmps78
      go_wp2_with (first
        | (go_at_call 94; refine (p1 _).mono ?_; rintro e w' ⟨rfl, rfl⟩; clear p1)
        | (go_at_call 94; refine (p2 _).mono ?_; rintro e w' ⟨rfl, rfl⟩; clear p2))
      go_ret2
      exact ⟨.inl ⟨_, _, rfl, k0.out⟩, Below.refl _ _⟩
    · have p2 := fun w => pre_yes s 83 w hs h2
      have q := fun w => readSheet_any (restB s) w (by omega)
      have k0 : Hid (sheetI (s.data.toList.drop 1) = none → kd s = 0) := fun e => by unfold kd; rw [h1, h2, e]; rfl
      have k2 : Hid (∀ es, sheetI (s.data.toList.drop 1) = some es → kd s = 2) := fun es e => by unfold kd; rw [h1, h2, e]; rfl
      have HD := rest_dat s
      clear h1 h2 hr
      generalize restB s = r at *
      go_enter Tryz.func78, Tryz.ntmps78
      go_wp2_with (first
        | (go_at_call 94; refine (p1 _).mono ?_; rintro e w' ⟨rfl, rfl⟩; clear p1)
        | (go_at_call 94; refine (p2 _).mono ?_; rintro e w' ⟨rfl, rfl⟩; clear p2)
        | (go_at_call 96; refine (q _).mono ?_; rintro e w1 ⟨⟨m, rfl, hn⟩ | ⟨A, c, L, rfl, hk, ow⟩, hb⟩))
      · go_ret2
        rw [HD] at hn
        exact ⟨.inl ⟨_, m, rfl, k0.out hn⟩, hb⟩
      · go_ret2
        rw [HD] at hk
        exact ⟨.inr (.inr ⟨A, c, L, rfl, k2.out _ hk, hk, ow⟩), hb⟩
  · have p1 := fun w => pre_yes s 76 w hs h1
    by_cases h6 : (restB s).size ≤ 6
    · have k1 : Hid (kd s = 1) := by show _ = _; unfold kd; rw [h1, if_pos rfl, if_pos h6]
      have q := fun w => readLeaf_yes (restB s) w h6
      clear h1 hr
      unfold RoAns
      generalize restB s = r at *
      go_enter Tryz.func78, Tryz.ntmps78
      go_wp2_with (first
        | (go_at_call 94; refine (p1 _).mono ?_; rintro e w' ⟨rfl, rfl⟩; clear p1)
        | (go_at_call 95; refine (q _).mono ?_; rintro e w1 ⟨rfl, hb⟩))
      go_ret2
      exact ⟨.inr (.inl ⟨rfl, k1.out⟩), hb⟩
    · have k0 : Hid (kd s = 0) := by show _ = _; unfold kd; rw [h1, if_pos rfl, if_neg h6]
      have q := fun w => readLeaf_no (restB s) w (by omega) h6
      clear h1 hr
      unfold RoAns
      generalize restB s = r at *
      go_enter Tryz.func78, Tryz.ntmps78
      go_wp2_with (first
        | (go_at_call 94; refine (p1 _).mono ?_; rintro e w' ⟨rfl, rfl⟩; clear p1)
        | (go_at_call 95; refine (q _).mono ?_; rintro e w1 ⟨⟨m, rfl⟩, hb⟩))
      go_ret2
      exact ⟨.inl ⟨_, m, rfl, k0.out⟩, hb⟩

/-- what objectOf answers -/
def ObAns (s : ByteArray) (B : Nat) (w' : World) (e : Ending) : Prop :=
  (e = .returned .nilIface ∧ kd s = 0) ∨ (e = .returned (.iface 92 (.agg #[.string (restB s)])) ∧ kd s = 1) ∨
  (∃ (A : Option Addr) (c : Nat) (L : List OE), e = .returned (.iface 94 (.agg #[.slice A L.length c])) ∧ kd s = 2 ∧ sheetI (s.data.toList.drop 1) = some (L.map enO) ∧ w'.ownsRow B 102 3 (.slice A L.length c) L.length (cellsO L))

set_option maxRecDepth 100000 in
set_option maxHeartbeats 1000000 in
theorem objectOf_any (s : ByteArray) (w : World) (hs : s.size ≤ 1048576) (hg : TypeCell w) :
    Calls Tryz.prog 61 #[.string s] w fun e w' => ObAns s w.heap.size w' e ∧ Below w.heap.size w w' := by
  have q := fun w => readObject_any s w hs
  have hgl := hg.lt
  unfold ObAns
  unfold RoAns at q
  generalize restB s = r at *
  go_enter Tryz.func61, Tryz.ntmps61
  go_wp2_with (first
    | (go_at_call 78; refine (q _).mono ?_; rintro e w1 ⟨⟨o, m, rfl, hk⟩ | ⟨rfl, hk⟩ | ⟨A, c, L, rfl, hk, hk2, ow⟩, hb⟩; have hg1 := (hg.below hb hgl).below ((Below.refl w1.heap.size w1).alloc (Nat.le_refl _) (.cells #[.string ⟨#[]⟩] 117)) (Nat.lt_of_lt_of_le hgl hb.size))
    | (go_at_call 79; refine (as_hit m ⟨w1.heap.size, 0, none⟩ (.string ⟨#[]⟩) _ hg1 (by simp) (by simp)).mono ?_; rintro e w2 ⟨rfl, hb2⟩)
    | (go_at_call 79; refine (as_nil _ _).mono ?_; rintro e w2 ⟨rfl, rfl⟩))
  · go_ret
    exact ⟨.inl ⟨rfl, hk⟩, (hb.alloc hb.size _).trans (hb2.mono hb.size)⟩
  · go_ret
    exact ⟨.inr (.inl ⟨rfl, hk⟩), hb.alloc hb.size _⟩
  · go_ret
    exact ⟨.inr (.inr ⟨A, c, L, rfl, hk, hk2, ow.alloc _⟩), hb.alloc hb.size _⟩
end Go.Proofs.YtcmbcaipnjokjaaGreatDoor.W
