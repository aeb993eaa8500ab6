/-
  The walks of the program's readObject and objectOf. Texts of at most 1048576 bytes.
  The walk of the specification's l2Read. Texts of 1 to 721 bytes.
  The walks of the program's ObjKind, ObjBytes and ObjEntries. Texts of at most 1048576 bytes.
-/
import Derived.Test.YthfffpdkmoclbaaGreatDoorMg26
import Derived.Test.YthfffpdkmoclbaaGreatDoorMg01
namespace Go.Proofs.YthfffpdkmoclbaaGreatDoor.W
open Go.RowKit Go.Proofs.YthfffpdkmoclbaaGreatDoor.M

/-- a text begins with a byte -/
def stB (s : ByteArray) (c : UInt8) : Bool := decide (s.data.toList.take 1 = [c])
def restB (s : ByteArray) : ByteArray := s.extract 1 s.size
theorem st_eq (s : ByteArray) (c : UInt8) : ((s.extract 0 1).toList == [c]) = stB s c := by
  rw [Lib.toList_data, ext_dat]
  unfold stB
  rw [Bool.eq_iff_iff]; simp
theorem st_nil (s : ByteArray) (c : UInt8) (h : ¬ 1 ≤ s.size) : stB s c = false := by
  have : s.data.toList = [] := List.length_eq_zero_iff.1 (by rw [len_dat]; omega)
  unfold stB; rw [this]; rfl
theorem st_pos (s : ByteArray) (c : UInt8) (h : stB s c = true) : 1 ≤ s.size := by
  by_cases h1 : 1 ≤ s.size
  · exact h1
  · rw [st_nil s c h1] at h; cases h
theorem rest_dat (s : ByteArray) : (restB s).data.toList = s.data.toList.drop 1 := by
  unfold restB
  rw [ext_dat, List.take_of_length_le (by rw [len_dat]; omega)]
theorem rest_size (s : ByteArray) : (restB s).size = s.size - 1 := by unfold restB; rw [ByteArray.size_extract]; omega
set_option maxHeartbeats 400000 in
theorem hasP_any (s : ByteArray) (c : UInt8) (w : World) (hs : s.size ≤ 1048576) :
    Calls Tryz.prog 166 #[.string s, .string ⟨#[c]⟩] w fun e w' => e = .returned (.bool (stB s c)) ∧ w = w' := by
  by_cases h : 1 ≤ s.size
  · rw [← st_eq]
    go_enter Tryz.func166, Tryz.ntmps166
    go_wp2
    go_ret
    exact ⟨rfl, rfl⟩
  · rw [st_nil s c h]
    go_enter Tryz.func166, Tryz.ntmps166
    go_wp2
    go_ret
    exact ⟨rfl, rfl⟩
set_option maxHeartbeats 400000 in
theorem cutP_any (s : ByteArray) (c : UInt8) (k : Bool) (w : World) (hs : s.size ≤ 1048576) (h : stB s c = k) :
    Calls Tryz.prog 157 #[.string s, .string ⟨#[c]⟩] w fun e w' => e = .returned (.tuple #[.string (if k = true then restB s else s), .bool k]) ∧ w = w' := by
  have HH : Hid (∀ w, Calls Tryz.prog 166 #[.string s, .string ⟨#[c]⟩] w fun e w' => e = .returned (.bool k) ∧ w = w') := fun w => by rw [← h]; exact hasP_any s c w hs
  cases k
  · clear h
    go_enter Tryz.func157, Tryz.ntmps157
    go_wp2_with (go_at_call 166; refine (HH.out _).mono ?_; rintro e w' ⟨rfl, rfl⟩)
    go_ret2
    exact ⟨rfl, rfl⟩
  · have h1 := st_pos s c h
    clear h
    unfold restB
    go_enter Tryz.func157, Tryz.ntmps157
    go_wp2_with (go_at_call 166; refine (HH.out _).mono ?_; rintro e w' ⟨rfl, rfl⟩)
    go_ret2
    exact ⟨rfl, rfl⟩
set_option maxHeartbeats 400000 in
theorem pre_yes (s : ByteArray) (c : UInt8) (w : World) (hs : s.size ≤ 1048576) (h : stB s c = true) :
    Calls Tryz.prog 140 #[.string s, .string ⟨#[c]⟩] w fun e w' => e = .returned (.tuple #[.string (restB s), .bool true]) ∧ w = w' := by
  have HH : Hid (∀ w, Calls Tryz.prog 157 #[.string s, .string ⟨#[c]⟩] w fun e w' => e = .returned (.tuple #[.string (restB s), .bool true]) ∧ w = w') := fun w => by have := cutP_any s c true w hs h; simpa using this
  clear h
  go_enter Tryz.func140, Tryz.ntmps140
  go_wp2_with (go_at_call 157; refine (HH.out _).mono ?_; rintro e w' ⟨rfl, rfl⟩)
  go_ret2
  exact ⟨rfl, rfl⟩
set_option maxHeartbeats 400000 in
theorem pre_no (s : ByteArray) (c : UInt8) (w : World) (hs : s.size ≤ 1048576) (h : stB s c = false) :
    Calls Tryz.prog 140 #[.string s, .string ⟨#[c]⟩] w fun e w' => e = .returned (.tuple #[.string s, .bool false]) ∧ w = w' := by
  have HH : Hid (∀ w, Calls Tryz.prog 157 #[.string s, .string ⟨#[c]⟩] w fun e w' => e = .returned (.tuple #[.string s, .bool false]) ∧ w = w') := fun w => by have := cutP_any s c false w hs h; simpa using this
  clear h
  go_enter Tryz.func140, Tryz.ntmps140
  go_wp2_with (go_at_call 157; refine (HH.out _).mono ?_; rintro e w' ⟨rfl, rfl⟩)
  go_ret2
  exact ⟨rfl, rfl⟩

/-- what a text is: 1 a leaf, 2 a sheet, 0 nothing -/
def kd (s : ByteArray) : Nat := if stB s 76 = true then (if (restB s).size ≤ 6 then 1 else 0) else if stB s 83 = true then (if (sheetI (s.data.toList.drop 1)).isSome = true then 2 else 0) else 0
theorem st_two (s : ByteArray) (h : stB s 76 = true) : stB s 83 = false := by
  unfold stB at *
  have := of_decide_eq_true h
  rw [this]; rfl

/-- what readObject answers -/
def RoAns (s : ByteArray) (B : Nat) (w' : World) (e : Ending) : Prop :=
  (∃ (o : Value) (m : ByteArray), e = .returned (.tuple #[o, .iface 159 (.agg #[.string m])]) ∧ kd s = 0) ∨
  (e = .returned (.tuple #[.iface 126 (.agg #[.string (restB s)]), .nilIface]) ∧ kd s = 1) ∨
  (∃ (A : Option Addr) (c : Nat) (L : List OE), e = .returned (.tuple #[.iface 128 (.agg #[.slice A L.length c]), .nilIface]) ∧ kd s = 2 ∧ sheetI (s.data.toList.drop 1) = some (L.map enO) ∧ w'.ownsRow B 90 3 (.slice A L.length c) L.length (cellsO L))

set_option maxRecDepth 100000 in
set_option maxHeartbeats 1000000 in
theorem readObject_any (s : ByteArray) (w : World) (hs : s.size ≤ 1048576) :
    Calls Tryz.prog 117 #[.string s] w fun e w' => RoAns s w.heap.size w' e ∧ Below w.heap.size w w' := by
  have hr := rest_size s
  cases h1 : stB s 76
  · have p1 := fun w => pre_no s 76 w hs h1
    cases h2 : stB s 83
    · have p2 := fun w => pre_no s 83 w hs h2
      have k0 : Hid (kd s = 0) := by show _ = _; unfold kd; rw [h1, h2]; rfl
      clear h1 h2 hr
      go_enter Tryz.func117, Tryz.ntmps117
      go_wp2_with (first
        | (go_at_call 140; refine (p1 _).mono ?_; rintro e w' ⟨rfl, rfl⟩; clear p1)
        | (go_at_call 140; refine (p2 _).mono ?_; rintro e w' ⟨rfl, rfl⟩; clear p2))
      go_ret2
      exact ⟨.inl ⟨_, _, rfl, k0.out⟩, Below.refl _ _⟩
    · have p2 := fun w => pre_yes s 83 w hs h2
      have q := fun w => readSheet_any (restB s) w (by omega)
      have k0 : Hid (sheetI (s.data.toList.drop 1) = none → kd s = 0) := fun e => by unfold kd; rw [h1, h2, e]; rfl
      have k2 : Hid (∀ es, sheetI (s.data.toList.drop 1) = some es → kd s = 2) := fun es e => by unfold kd; rw [h1, h2, e]; rfl
      have HD := rest_dat s
      clear h1 h2 hr
      generalize restB s = r at *
      go_enter Tryz.func117, Tryz.ntmps117
      go_wp2_with (first
        | (go_at_call 140; refine (p1 _).mono ?_; rintro e w' ⟨rfl, rfl⟩; clear p1)
        | (go_at_call 140; refine (p2 _).mono ?_; rintro e w' ⟨rfl, rfl⟩; clear p2)
        | (go_at_call 142; refine (q _).mono ?_; rintro e w1 ⟨⟨m, rfl, hn⟩ | ⟨A, c, L, rfl, hk, ow⟩, hb⟩))
      · go_ret2
        rw [HD] at hn
        exact ⟨.inl ⟨_, m, rfl, k0.out hn⟩, hb⟩
      · go_ret2
        rw [HD] at hk
        exact ⟨.inr (.inr ⟨A, c, L, rfl, k2.out _ hk, hk, ow⟩), hb⟩
  · have p1 := fun w => pre_yes s 76 w hs h1
    by_cases h6 : (restB s).size ≤ 6
    · have k1 : Hid (kd s = 1) := by show _ = _; unfold kd; rw [h1, if_pos rfl, if_pos h6]
      have q := fun w => readLeaf_yes (restB s) w h6
      clear h1 hr
      unfold RoAns
      generalize restB s = r at *
      go_enter Tryz.func117, Tryz.ntmps117
      go_wp2_with (first
        | (go_at_call 140; refine (p1 _).mono ?_; rintro e w' ⟨rfl, rfl⟩; clear p1)
        | (go_at_call 141; refine (q _).mono ?_; rintro e w1 ⟨rfl, hb⟩))
      go_ret2
      exact ⟨.inr (.inl ⟨rfl, k1.out⟩), hb⟩
    · have k0 : Hid (kd s = 0) := by show _ = _; unfold kd; rw [h1, if_pos rfl, if_neg h6]
      have q := fun w => readLeaf_no (restB s) w (by omega) h6
      clear h1 hr
      unfold RoAns
      generalize restB s = r at *
      go_enter Tryz.func117, Tryz.ntmps117
      go_wp2_with (first
        | (go_at_call 140; refine (p1 _).mono ?_; rintro e w' ⟨rfl, rfl⟩; clear p1)
        | (go_at_call 141; refine (q _).mono ?_; rintro e w1 ⟨⟨m, rfl⟩, hb⟩))
      go_ret2
      exact ⟨.inl ⟨_, m, rfl, k0.out⟩, hb⟩

/-- what objectOf answers -/
def ObAns (s : ByteArray) (B : Nat) (w' : World) (e : Ending) : Prop :=
  (e = .returned .nilIface ∧ kd s = 0) ∨ (e = .returned (.iface 126 (.agg #[.string (restB s)])) ∧ kd s = 1) ∨
  (∃ (A : Option Addr) (c : Nat) (L : List OE), e = .returned (.iface 128 (.agg #[.slice A L.length c])) ∧ kd s = 2 ∧ sheetI (s.data.toList.drop 1) = some (L.map enO) ∧ w'.ownsRow B 90 3 (.slice A L.length c) L.length (cellsO L))

set_option maxRecDepth 100000 in
set_option maxHeartbeats 1000000 in
theorem objectOf_any (s : ByteArray) (w : World) (hs : s.size ≤ 1048576) (hg : TypeCell w) :
    Calls Tryz.prog 89 #[.string s] w fun e w' => ObAns s w.heap.size w' e ∧ Below w.heap.size w w' := by
  have q := fun w => readObject_any s w hs
  have hgl := hg.lt
  unfold ObAns
  unfold RoAns at q
  generalize restB s = r at *
  go_enter Tryz.func89, Tryz.ntmps89
  go_wp2_with (first
    | (go_at_call 117; refine (q _).mono ?_; rintro e w1 ⟨⟨o, m, rfl, hk⟩ | ⟨rfl, hk⟩ | ⟨A, c, L, rfl, hk, hk2, ow⟩, hb⟩; have hg1 := (hg.below hb hgl).below ((Below.refl w1.heap.size w1).alloc (Nat.le_refl _) (.cells #[.string ⟨#[]⟩] 159)) (Nat.lt_of_lt_of_le hgl hb.size))
    | (go_at_call 118; refine (as_hit m ⟨w1.heap.size, 0, none⟩ (.string ⟨#[]⟩) _ hg1 (by simp) (by simp)).mono ?_; rintro e w2 ⟨rfl, hb2⟩)
    | (go_at_call 118; refine (as_nil _ _).mono ?_; rintro e w2 ⟨rfl, rfl⟩))
  · go_ret
    exact ⟨.inl ⟨rfl, hk⟩, (hb.alloc hb.size _).trans (hb2.mono hb.size)⟩
  · go_ret
    exact ⟨.inr (.inl ⟨rfl, hk⟩), hb.alloc hb.size _⟩
  · go_ret
    exact ⟨.inr (.inr ⟨A, c, L, rfl, hk, hk2, ow.alloc _⟩), hb.alloc hb.size _⟩
end Go.Proofs.YthfffpdkmoclbaaGreatDoor.W
namespace Go.Proofs.YthfffpdkmoclbaaGreatDoor.W
open Go.RowKit Go.Proofs.YthfffpdkmoclbaaGreatDoor.M

theorem l2_end (f : Nat) (nm : List UInt8) (out : List En) (h : 0 < f) : l2F f [] nm out = (out, decide (nm = [])) := by
  cases f with
  | zero => omega
  | succ f => rfl
theorem l2_mark (f : Nat) (c : UInt8) (r nm : List UInt8) (out : List En) (hc : c = 61 ∨ c = 47) : l2F (f + 1) (c :: r) nm out = (if r.length < 8 then ([], false) else if rdB (r.take 8) then l2F f (r.drop 8) [] (out ++ [⟨nm, decide (c = 47), ((rdN (r.take 8) : Nat) : Int)⟩]) else ([], false)) := by
  simp only [l2F]; rw [if_pos hc]
theorem l2_else (f : Nat) (c : UInt8) (r nm : List UInt8) (out : List En) (hc : ¬ (c = 61 ∨ c = 47)) : l2F (f + 1) (c :: r) nm out = l2F f r (nm ++ [c]) out := by
  simp only [l2F]; rw [if_neg hc]
theorem is_c (c d : UInt8) : (((c.toNat : Int)) == (d.toNat : Int)) = decide (c = d) := by
  rw [Bool.eq_iff_iff]
  simp only [beq_iff_eq, decide_eq_true_eq]
  exact ⟨fun h => UInt8.toNat.inj (by omega), fun h => by rw [h]⟩
theorem rd_spec2 (d : ByteArray) (k : Bool) (n : Nat) (w : World) (hs : d.size ≤ maxLen) (h : rdB d.data.toList = k) (hn : rdN d.data.toList = n) :
    Calls Tryz.prog 116 #[.string d] w fun e w' => e = .returned (.tuple #[.int .i64 (n : Int), .bool k]) ∧ w = w' := by
  subst h; subst hn; exact read_spec d w hs

set_option maxRecDepth 100000 in
set_option maxHeartbeats 4000000 in
theorem l2Read_any (s : ByteArray) (w : World) (h1 : 1 ≤ s.size) (hs : s.size ≤ 721) :
    Calls Tryz.prog 87 #[.string s] w fun e w' => (∃ (A : Option Addr) (c : Nat) (L : List OE) (b : Bool), e = .returned (.tuple #[.slice A L.length c, .bool b]) ∧ l2F ((s.data.toList.drop 1).length + 1) (s.data.toList.drop 1) [] [] = (L.map enO, b) ∧ L.length ≤ 721 ∧ (∀ j (h : j < L.length), (L[j]).nm.size ≤ 721) ∧ w'.ownsRow w.heap.size 90 3 (.slice A L.length c) L.length (cellsO L)) ∧ Below w.heap.size w w' := by
  obtain ⟨i0, hi, hz0, hz1, hz2⟩ := info_parts infoO
  have O0 : (w.alloc (.cells #[] 90)).ownsRow w.heap.size 90 3 (.slice (some ⟨w.heap.size, 0, none⟩) 0 0) 0 [] := World.ownsRow_lit w #[] 0 (Nat.le_refl _) (by unfold maxLen; omega) rfl
  have B0 : Below w.heap.size w (w.alloc (.cells #[] 90)) := (Below.refl _ w).alloc (Nat.le_refl _) _
  have kc := conv1
  generalize hZ : l2F ((s.data.toList.drop 1).length + 1) (s.data.toList.drop 1) [] [] = Z
  have HZ : Hid (l2F ((s.data.toList.drop 1).length + 1) (s.data.toList.drop 1) [] [] = Z) := hZ
  clear hZ
  go_enter Tryz.func87, Tryz.ntmps87
  go_wp2
  go_loopw [4, 5, 6] (fun ov nv iv wr => ∃ (k : Nat) (nm : ByteArray) (L : List OE) (A : Option Addr) (c : Nat), 1 ≤ k ∧ k ≤ s.size ∧ iv = .int .i64 k ∧ nv = .string nm ∧ nm.size ≤ k ∧ ov = .slice A L.length c ∧ L.length ≤ k ∧ Hid (∃ f, (s.data.toList.drop k).length < f ∧ l2F f (s.data.toList.drop k) nm.data.toList (L.map enO) = Z) ∧ Hid (∀ j (h : j < L.length), (L[j]).nm.size ≤ 721) ∧ wr.ownsRow w.heap.size 90 3 (.slice A L.length c) L.length (cellsO L) ∧ Below w.heap.size w wr) (fun _ _ iv _ => s.size - (intOf iv).toNat)
  case atStart => exact ⟨1, ⟨#[]⟩, [], some ⟨w.heap.size, 0, none⟩, 0, Nat.le_refl _, h1, rfl, rfl, by decide, rfl, by simp, ⟨_, Nat.lt_succ_self _, HZ.out⟩, (show ∀ j (h : j < ([] : List OE).length), _ from fun j h => by simp at h), O0, B0⟩
  case round =>
    clear O0 B0
    obtain ⟨k, nm, L, A, c, hk1, hk, rfl, rfl, hnm, rfl, hL, HF, HN, hown, B⟩ := hrel
    have hsz := B.size
    by_cases hlt : k < s.size
    · have hd : s.data.toList.drop k = s[k] :: s.data.toList.drop (k + 1) := drop_at s k hlt
      have hdl : (s.data.toList.drop (k + 1)).length = s.size - (k + 1) := by rw [List.length_drop, len_dat]
      by_cases hm : s[k] = 61 ∨ s[k] = 47
      · have hq : ((((s[k]).toNat : Int) == 61) = true) ∨ ((((s[k]).toNat : Int) == 61) = false ∧ (((s[k]).toNat : Int) == 47) = true) := by
          rcases hm with e | e <;> rw [e]
          · exact .inl rfl
          · exact .inr ⟨rfl, rfl⟩
        by_cases h9 : s.size < k + 9
        · have HR : Hid (Z = ([], false)) := by
            obtain ⟨f, hf, e⟩ := HF.out
            show _ = _
            obtain ⟨g, rfl⟩ : ∃ g, f = g + 1 := ⟨f - 1, by omega⟩
            rw [hd, l2_mark _ _ _ _ _ hm, if_pos (by omega)] at e
            exact e.symm
          clear hm hd hdl
          rcases hq with q1 | ⟨q1, q2⟩
          all_goals
            go_wp2
            go_ret2
            exact ⟨⟨some ⟨wr.heap.size, 0, none⟩, 0, [], false, rfl, HR.out, by simp, fun j h => by simp at h, World.ownsRow_lit wr #[] 0 hsz (by unfold maxLen; omega) rfl⟩, B.alloc hsz _⟩
        · have e8 : (s.data.toList.drop (k + 1)).take 8 = (s.extract (k + 1) (k + 9)).data.toList := by
            rw [ext_dat, List.drop_take]; congr 1; omega
          have hz8 : (s.extract (k + 1) (k + 9)).size ≤ maxLen := by rw [ByteArray.size_extract]; unfold maxLen; omega
          cases hr : rdB (s.extract (k + 1) (k + 9)).data.toList
          · have HR : Hid (Z = ([], false)) := by
              obtain ⟨f, hf, e⟩ := HF.out
              show _ = _
              obtain ⟨g, rfl⟩ : ∃ g, f = g + 1 := ⟨f - 1, by omega⟩
              rw [hd, l2_mark _ _ _ _ _ hm, if_neg (by omega), e8, hr] at e
              exact e.symm
            clear hm hd hdl e8
            have hi2 : ((k : Int) + 9) ≤ (s.size : Int) := by omega
            rcases hq with q1 | ⟨q1, q2⟩
            all_goals
              go_wp2_with (go_at_call 116; refine (rd_spec2 _ _ _ _ hz8 hr rfl).mono ?_; rintro e w1 ⟨rfl, rfl⟩)
              go_ret2
              exact ⟨⟨some ⟨wr.heap.size, 0, none⟩, 0, [], false, rfl, HR.out, by simp, fun j h => by simp at h, World.ownsRow_lit wr #[] 0 hsz (by unfold maxLen; omega) rfl⟩, B.alloc hsz _⟩
          · obtain ⟨n, hn⟩ : ∃ n, rdN (s.extract (k + 1) (k + 9)).data.toList = n := ⟨_, rfl⟩
            have hi2 : ((k : Int) + 9) ≤ (s.size : Int) := by omega
            clear hq
            rcases (id hm : s[k] = 61 ∨ s[k] = 47) with e | e
            · have q1 : (((s[k]).toNat : Int) == 61) = true := by rw [e]; rfl
              have q2 : (((s[k]).toNat : Int) == 47) = false := by rw [e]; rfl
              have HF' : Hid (∃ f, (s.data.toList.drop (k + 9)).length < f ∧ l2F f (s.data.toList.drop (k + 9)) [] ((L ++ [(⟨nm, false, (n : Int)⟩ : OE)]).map enO) = Z) := by
                obtain ⟨f, hf, e'⟩ := HF.out
                obtain ⟨g, rfl⟩ : ∃ g, f = g + 1 := ⟨f - 1, by omega⟩
                rw [hd, l2_mark _ _ _ _ _ hm, if_neg (by omega), e8, hr, if_pos rfl, hn, e, List.drop_drop] at e'
                refine ⟨g, ?_, ?_⟩
                · rw [hd] at hf; simp at hf ⊢; omega
                · rw [List.map_append]; exact e'
              clear hm hd hdl e8 e
              go_wp2_with (first
                | (go_at_call 116; refine (rd_spec2 _ _ n _ hz8 hr hn).mono ?_; rintro e w1 ⟨rfl, rfl⟩)
                | (at_builtin; refine wpList_append_own _ rfl _ _ 81 rfl w.heap.size 90 i0 (.agg #[.string ByteArray.empty, .bool false, .int .i64 0]) 3 32 Tryz.underlying81 hi hz0 hz1 hz2 rfl (by decide) _ _ _ rfl (hown.alloc _) ⟨wr.heap.size, 0, none⟩ 1 1 [.string nm, .bool false, .int .i64 (n : Int)] rfl rfl (cells_new _ #[.string nm, .bool false, .int .i64 (n : Int)] _) (fun u hu => by simp at hu; rcases hu with rfl | rfl | rfl <;> rfl) (by unfold maxLen; omega) (by omega) (by simp; omega) ?_; intro v' w3 hown' hgrow3 _; obtain ⟨A', c', rfl, _⟩ := rdO_of_own (L := L ++ [(⟨nm, false, (n : Int)⟩ : OE)]) (by simpa [cellsO_snoc] using hown')))
              have B3 := growOwn (B.alloc hsz (.cells #[.string nm, .bool false, .int .i64 (n : Int)] 90)) (by simp; omega) (hown.alloc _) hgrow3 (Nat.le_refl _)
              go_roundw
              case rel => exact ⟨k + 9, ⟨#[]⟩, L ++ [(⟨nm, false, (n : Int)⟩ : OE)], A', c', by omega, by omega, by go_num, rfl, by show 0 ≤ _; omega, by simp, by simp; omega, HF', fun j h => by
                  by_cases hj : j < L.length
                  · rw [List.getElem_append_left hj]; exact HN.out j hj
                  · rw [List.getElem_append_right (by omega)]; simp; omega, by simpa [cellsO_snoc] using hown', B3⟩
              case measure => simp [intOf]; omega
            · have q1 : (((s[k]).toNat : Int) == 61) = false := by rw [e]; rfl
              have q2 : (((s[k]).toNat : Int) == 47) = true := by rw [e]; rfl
              have HF' : Hid (∃ f, (s.data.toList.drop (k + 9)).length < f ∧ l2F f (s.data.toList.drop (k + 9)) [] ((L ++ [(⟨nm, true, (n : Int)⟩ : OE)]).map enO) = Z) := by
                obtain ⟨f, hf, e'⟩ := HF.out
                obtain ⟨g, rfl⟩ : ∃ g, f = g + 1 := ⟨f - 1, by omega⟩
                rw [hd, l2_mark _ _ _ _ _ hm, if_neg (by omega), e8, hr, if_pos rfl, hn, e, List.drop_drop] at e'
                refine ⟨g, ?_, ?_⟩
                · rw [hd] at hf; simp at hf ⊢; omega
                · rw [List.map_append]; exact e'
              clear hm hd hdl e8 e
              go_wp2_with (first
                | (go_at_call 116; refine (rd_spec2 _ _ n _ hz8 hr hn).mono ?_; rintro e w1 ⟨rfl, rfl⟩)
                | (at_builtin; refine wpList_append_own _ rfl _ _ 81 rfl w.heap.size 90 i0 (.agg #[.string ByteArray.empty, .bool false, .int .i64 0]) 3 32 Tryz.underlying81 hi hz0 hz1 hz2 rfl (by decide) _ _ _ rfl (hown.alloc _) ⟨wr.heap.size, 0, none⟩ 1 1 [.string nm, .bool true, .int .i64 (n : Int)] rfl rfl (cells_new _ #[.string nm, .bool true, .int .i64 (n : Int)] _) (fun u hu => by simp at hu; rcases hu with rfl | rfl | rfl <;> rfl) (by unfold maxLen; omega) (by omega) (by simp; omega) ?_; intro v' w3 hown' hgrow3 _; obtain ⟨A', c', rfl, _⟩ := rdO_of_own (L := L ++ [(⟨nm, true, (n : Int)⟩ : OE)]) (by simpa [cellsO_snoc] using hown')))
              have B3 := growOwn (B.alloc hsz (.cells #[.string nm, .bool true, .int .i64 (n : Int)] 90)) (by simp; omega) (hown.alloc _) hgrow3 (Nat.le_refl _)
              go_roundw
              case rel => exact ⟨k + 9, ⟨#[]⟩, L ++ [(⟨nm, true, (n : Int)⟩ : OE)], A', c', by omega, by omega, by go_num, rfl, by show 0 ≤ _; omega, by simp, by simp; omega, HF', fun j h => by
                  by_cases hj : j < L.length
                  · rw [List.getElem_append_left hj]; exact HN.out j hj
                  · rw [List.getElem_append_right (by omega)]; simp; omega, by simpa [cellsO_snoc] using hown', B3⟩
              case measure => simp [intOf]; omega
      · have q1 : (((s[k]).toNat : Int) == 61) = false := by
          have := is_c (s[k]) 61
          rw [decide_eq_false (fun e => hm (.inl e))] at this; exact this
        have q2 : (((s[k]).toNat : Int) == 47) = false := by
          have := is_c (s[k]) 47
          rw [decide_eq_false (fun e => hm (.inr e))] at this; exact this
        have HF' : Hid (∃ f, (s.data.toList.drop (k + 1)).length < f ∧ l2F f (s.data.toList.drop (k + 1)) (nm ++ ⟨#[s[k]]⟩).data.toList (L.map enO) = Z) := by
          obtain ⟨f, hf, e'⟩ := HF.out
          obtain ⟨g, rfl⟩ : ∃ g, f = g + 1 := ⟨f - 1, by omega⟩
          rw [hd, l2_else _ _ _ _ _ hm] at e'
          refine ⟨g, by rw [hd] at hf; simp at hf ⊢; omega, ?_⟩
          have : (nm ++ (⟨#[s[k]]⟩ : ByteArray)).data.toList = nm.data.toList ++ [s[k]] := by simp
          rw [this]; exact e'
        clear hm hd hdl
        go_wp2
        go_roundw
        case rel => exact ⟨k + 1, nm ++ ⟨#[s[k]]⟩, L, A, c, by omega, by omega, by go_num, rfl, by rw [ByteArray.size_append]; show nm.size + 1 ≤ _; omega, rfl, by omega, HF', HN, hown.alloc _, B.alloc hsz _⟩
        case measure => simp [intOf]; omega
    · obtain rfl : k = s.size := by omega
      have HR : Hid (Z = (L.map enO, decide (nm.data.toList = []))) := by
        obtain ⟨f, hf, e⟩ := HF.out
        show _ = _
        rw [List.drop_of_length_le (by rw [len_dat]; omega), l2_end f _ _ (by omega)] at e
        exact e.symm
      cases hz : nm.toList.isEmpty
      · have hd : decide (nm.data.toList = []) = false := by
          rw [Lib.toList_data] at hz
          exact decide_eq_false (fun e => by rw [e] at hz; cases hz)
        go_wp2
        go_ret2
        exact ⟨⟨A, c, L, false, rfl, by rw [HR.out, hd], by omega, HN.out, hown⟩, B⟩
      · have hd : decide (nm.data.toList = []) = true := by
          rw [Lib.toList_data] at hz
          exact decide_eq_true (by simpa using hz)
        go_wp2
        go_ret2
        exact ⟨⟨A, c, L, true, rfl, by rw [HR.out, hd], by omega, HN.out, hown⟩, B⟩
end Go.Proofs.YthfffpdkmoclbaaGreatDoor.W
namespace Go.Proofs.YthfffpdkmoclbaaGreatDoor.W
open Go.RowKit Go.Proofs.YthfffpdkmoclbaaGreatDoor.M

theorem ta_n1 (w : World) : (Instr.typeAssert .nilIface 123 126 true).run Tryz.prog w = .ok (.tuple #[.agg #[.string ⟨#[]⟩], .bool false]) w := by kernel_rfl
theorem ta_n2 (w : World) : (Instr.typeAssert .nilIface 123 128 true).run Tryz.prog w = .ok (.tuple #[.agg #[.slice none 0 0], .bool false]) w := by kernel_rfl
theorem ta_l1 (v : Value) (w : World) : (Instr.typeAssert (.iface 126 v) 123 126 true).run Tryz.prog w = .ok (.tuple #[v, .bool true]) w := by kernel_rfl
theorem ta_l2 (v : Value) (w : World) : (Instr.typeAssert (.iface 126 v) 123 128 true).run Tryz.prog w = .ok (.tuple #[.agg #[.slice none 0 0], .bool false]) w := by kernel_rfl
theorem ta_s1 (v : Value) (w : World) : (Instr.typeAssert (.iface 128 v) 123 126 true).run Tryz.prog w = .ok (.tuple #[.agg #[.string ⟨#[]⟩], .bool false]) w := by kernel_rfl
theorem ta_s2 (v : Value) (w : World) : (Instr.typeAssert (.iface 128 v) 123 128 true).run Tryz.prog w = .ok (.tuple #[v, .bool true]) w := by kernel_rfl
set_option maxRecDepth 100000 in
set_option maxHeartbeats 1000000 in
theorem objKind_impl (s : ByteArray) (w : World) (hs : s.size ≤ 1048576) (hg : TypeCell w) :
    Calls Tryz.prog 58 #[.string s] w fun e w' => e = .returned (.int .i64 ((kd s : Nat) : Int)) ∧ Below w.heap.size w w' := by
  have q := fun w hg => objectOf_any s w hs hg
  have n1 := ta_n1
  have n2 := ta_n2
  have l1 := ta_l1
  have l2 := ta_l2
  have s1 := ta_s1
  have s2 := ta_s2
  unfold ObAns at q
  generalize restB s = r at *
  go_enter Tryz.func58, Tryz.ntmps58
  go_wp2_with (go_at_call 89; refine (q _ hg).mono ?_; rintro e w1 ⟨⟨rfl, hk⟩ | ⟨rfl, hk⟩ | ⟨A, c, L, rfl, hk, _, _⟩, hb⟩)
  all_goals
    go_ret
    rw [hk]
    exact ⟨rfl, hb⟩
/-- the bytes of a leaf -/
def byB (s : ByteArray) : ByteArray := if kd s = 1 then restB s else ⟨#[]⟩
theorem byB_yes (s : ByteArray) (h : kd s = 1) : byB s = restB s := by unfold byB; rw [if_pos h]
theorem byB_no (s : ByteArray) (h : kd s ≠ 1) : byB s = ⟨#[]⟩ := by unfold byB; rw [if_neg h]
set_option maxRecDepth 100000 in
set_option maxHeartbeats 1000000 in
theorem objBytes_impl (s : ByteArray) (w : World) (hs : s.size ≤ 1048576) (hg : TypeCell w) :
    Calls Tryz.prog 153 #[.string s] w fun e w' => e = .returned (.tuple #[.string (byB s), .bool (decide (kd s = 1))]) ∧ Below w.heap.size w w' := by
  have q := fun w hg => objectOf_any s w hs hg
  have n1 := ta_n1
  have n2 := ta_n2
  have l1 := ta_l1
  have l2 := ta_l2
  have s1 := ta_s1
  have s2 := ta_s2
  have y1 := byB_yes s
  have y2 := byB_no s
  unfold ObAns at q
  generalize restB s = r at *
  go_enter Tryz.func153, Tryz.ntmps153
  go_wp2_with (go_at_call 89; refine (q _ hg).mono ?_; rintro e w1 ⟨⟨rfl, hk⟩ | ⟨rfl, hk⟩ | ⟨A, c, L, rfl, hk, _, _⟩, hb⟩)
  · go_ret2
    rw [y2 (by omega), hk]
    exact ⟨rfl, hb⟩
  · go_ret2
    rw [y1 hk, hk]
    exact ⟨rfl, hb.alloc hb.size _⟩
  · go_ret2
    rw [y2 (by omega), hk]
    exact ⟨rfl, hb⟩
set_option maxRecDepth 100000 in
set_option maxHeartbeats 1000000 in
theorem objEntries_impl (s : ByteArray) (w : World) (hs : s.size ≤ 1048576) (hg : TypeCell w) :
    Calls Tryz.prog 64 #[.string s] w fun e w' => ((e = .returned (.tuple #[.slice none 0 0, .bool false]) ∧ kd s ≠ 2) ∨ (∃ (A : Option Addr) (c : Nat) (L : List OE), e = .returned (.tuple #[.slice A L.length c, .bool true]) ∧ kd s = 2 ∧ sheetI (s.data.toList.drop 1) = some (L.map enO) ∧ w'.ownsRow w.heap.size 90 3 (.slice A L.length c) L.length (cellsO L))) ∧ Below w.heap.size w w' := by
  have q := fun w hg => objectOf_any s w hs hg
  have n1 := ta_n1
  have n2 := ta_n2
  have l1 := ta_l1
  have l2 := ta_l2
  have s1 := ta_s1
  have s2 := ta_s2
  unfold ObAns at q
  generalize restB s = r at *
  go_enter Tryz.func64, Tryz.ntmps64
  go_wp2_with (go_at_call 89; refine (q _ hg).mono ?_; rintro e w1 ⟨⟨rfl, hk⟩ | ⟨rfl, hk⟩ | ⟨A, c, L, rfl, hk, hk2, ow⟩, hb⟩)
  · go_ret2
    exact ⟨.inl ⟨rfl, by omega⟩, hb⟩
  · go_ret2
    exact ⟨.inl ⟨rfl, by omega⟩, hb⟩
  · go_ret2
    exact ⟨.inr ⟨A, c, L, rfl, hk, hk2, ow.alloc _⟩, hb.alloc hb.size _⟩
end Go.Proofs.YthfffpdkmoclbaaGreatDoor.W
