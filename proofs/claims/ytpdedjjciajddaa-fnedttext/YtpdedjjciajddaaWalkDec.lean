
/-
  Bytes read from their digits: the specification's 'l6Bytes', the program's 'readBytes'. Texts of at most 1048576 bytes.
-/
import Derived.Test.YtpdedjjciajddaaMathDec
import Derived.Test.YtpdedjjciajddaaWalkRead
namespace Go.Proofs.Ytpdedjjciajddaa.W
open Go.RowKit Go.Proofs.Ytpdedjjciajddaa.M

/-- what a reader of digits answers -/
def tupB (r : Option (List UInt8)) : Value := .tuple #[.string ⟨(r.getD []).toArray⟩, .bool r.isSome]
theorem eq_dash (d : ByteArray) (h : d.data.toList = [45]) : d = ⟨#[45]⟩ := by
  rw [whole d, h]
theorem not_dash (d : ByteArray) (h : d.data.toList ≠ [45]) : (d.toList == [45]) = false := by rw [Lib.toList_data]; simpa using h
theorem tmod2 (n : Nat) : (n : Int).tmod 2 = ((n % 2 : Nat) : Int) := rfl
theorem dec_step (s : ByteArray) (k : Nat) (acc : List UInt8) (h : k + 1 < s.size) (hg : ¬ (hexV (s[k]'(by omega)) < 0 ∨ hexV s[k + 1] < 0)) (e : dec s.data.toList = (dec (s.data.toList.drop k)).map (acc ++ ·)) :
    dec s.data.toList = (dec (s.data.toList.drop (k + 2))).map (acc ++ [two (s[k]'(by omega)) s[k + 1]] ++ ·) := by
  rw [e, drop2 s k h, dec_good _ _ _ hg]
  cases dec (s.data.toList.drop (k + 2)) <;> simp
theorem dec_stop (s : ByteArray) (k : Nat) (acc : List UInt8) (h : k + 1 < s.size) (hg : hexV (s[k]'(by omega)) < 0 ∨ hexV s[k + 1] < 0) (e : dec s.data.toList = (dec (s.data.toList.drop k)).map (acc ++ ·)) : dec s.data.toList = none := by
  rw [e, drop2 s k h, dec_bad _ _ _ hg]; rfl
theorem dec_end (s : ByteArray) (k : Nat) (acc : List UInt8) (h : s.size ≤ k) (e : dec s.data.toList = (dec (s.data.toList.drop k)).map (acc ++ ·)) : dec s.data.toList = some acc := by
  rw [e, List.drop_of_length_le (by simpa using h)]; simp [dec]
theorem two_of (a b : UInt8) (x y : Nat) (ha : hexV a = x) (hb : hexV b = y) (hx : x ≤ 15) (hy : y ≤ 15) : ((two a b).toNat : Int) = (x : Int) * 16 + y ∧ IntKind.u8.wrap ((x : Int) * 16 + y) = ((two a b).toNat : Int) := by
  have e : ((two a b).toNat : Int) = (x : Int) * 16 + y := by
    unfold two
    rw [ha, hb]
    simp
    omega
  refine ⟨e, ?_⟩
  rw [IntKind.wrap_u8, e]
  omega
theorem ret_tup {r r' : Option (List UInt8)} (h : r = r') : Ending.returned (tupB r) = .returned (tupB r') := by rw [h]
theorem ret_sb {a b : ByteArray} {x y : Bool} (h : a = b) (h' : x = y) : Ending.returned (.tuple #[.string a, .bool x]) = .returned (.tuple #[.string b, .bool y]) := by rw [h, h']

theorem unmark_any (s : ByteArray) (w : World) : Calls Try.prog 29 #[.string s] w fun e w' => e = .returned (.string (if s.data.toList = [45] then ⟨#[]⟩ else s)) ∧ w = w' := by
  by_cases h : s.data.toList = [45]
  · obtain rfl := eq_dash s h
    go_enter Try.func29, Try.ntmps29
    go_wp2
    go_ret
    exact ⟨rfl, rfl⟩
  · have z := not_dash s h
    rw [if_neg h]
    clear h
    go_enter Try.func29, Try.ntmps29
    go_wp2
    go_ret
    exact ⟨rfl, rfl⟩
set_option maxHeartbeats 2000000 in
theorem l6Bytes_any (s : ByteArray) (w : World) (hs : s.size ≤ 1048576) :
    Calls Try.prog 20 #[.string s] w fun e w' => e = .returned (tupB (lbB s)) ∧ Below w.heap.size w w' := by
  unfold tupB
  by_cases h : s.data.toList = [45]
  · obtain rfl := eq_dash s h
    go_enter Try.func20, Try.ntmps20
    go_wp2
    go_ret2
    exact ⟨rfl, Below.refl _ _⟩
  have z := not_dash s h
  have HL : Hid (lbB s = if s.size = 0 ∨ 12 < s.size then none else dec s.data.toList) := if_neg h
  clear h
  by_cases h1 : s.size % 2 = 1
  · have e : lbB s = none := by
      rw [HL.out]; split
      · rfl
      · exact dec_odd _ _ (Nat.le_refl _) (by simpa using h1)
    rw [e]
    have q1 : (s.size : Int) % 2 = 1 := by omega
    have q2 : (s.size : Int).tmod 2 = 1 := by rw [tmod2]; omega
    go_enter Try.func20, Try.ntmps20
    go_wp2
    go_ret2
    exact ⟨rfl, Below.refl _ _⟩
  have q1 : (s.size : Int) % 2 = 0 := by omega
  have q2 : (s.size : Int).tmod 2 = 0 := by rw [tmod2]; omega
  by_cases h2 : s.size = 0
  · have e : lbB s = none := by rw [HL.out, if_pos (.inl h2)]
    rw [e]
    have q3 : (s.size : Int) = 0 := by omega
    go_enter Try.func20, Try.ntmps20
    go_wp2
    go_ret2
    exact ⟨rfl, Below.refl _ _⟩
  have q3 : ((s.size : Int) == 0) = false := beq_eq_false_iff_ne.2 (by omega)
  by_cases h3 : 12 < s.size
  · have e : lbB s = none := by rw [HL.out, if_pos (.inr h3)]
    rw [e]
    clear h2
    go_enter Try.func20, Try.ntmps20
    go_wp2
    go_ret2
    exact ⟨rfl, Below.refl _ _⟩
  have HD : Hid (lbB s = dec s.data.toList) := by show _ = _; rw [HL.out, if_neg (by omega)]
  have kc := conv1
  clear HL
  go_enter Try.func20, Try.ntmps20
  go_wp2
  go_loopw [4, 5] (fun o i wr => ∃ (k : Nat) (t : ByteArray), 2 * k ≤ s.size ∧ i = .int .i64 ((2 * k : Nat) : Int) ∧ o = .string t ∧ t.size = k ∧ Hid (dec s.data.toList = (dec (s.data.toList.drop (2 * k))).map (t.data.toList ++ ·)) ∧ Below w.heap.size w wr) (fun _ i _ => s.size - (intOf i).toNat)
  case atStart => exact ⟨0, ⟨#[]⟩, by omega, rfl, rfl, rfl, by show _ = _; simp, Below.refl _ _⟩
  case round =>
    obtain ⟨k, t, hk, rfl, rfl, ht, HR, hb⟩ := hrel
    have hsz := hb.size
    by_cases hlt : 2 * k < s.size
    · have hlt1 : 2 * k + 1 < s.size := by omega
      have v1 := hexV_bd (s[2 * k])
      have v2 := hexV_bd (s[2 * k + 1])
      have c1 : ((2 * k : Nat) : Int) + 1 = ((2 * k + 1 : Nat) : Int) := by omega
      by_cases b1 : hexV (s[2 * k]) < 0
      · have e : Hid (lbB s = none) := HD.out.trans (dec_stop s (2 * k) _ hlt1 (.inl b1) HR.out)
        go_wp2_with (go_at_call 32; refine (value_any _ _).mono ?_; rintro _ w' ⟨rfl, rfl⟩)
        go_ret2
        rw [e.out]
        exact ⟨rfl, hb⟩
      by_cases b2 : hexV (s[2 * k + 1]) < 0
      · have e : Hid (lbB s = none) := HD.out.trans (dec_stop s (2 * k) _ hlt1 (.inr b2) HR.out)
        go_wp2_with (go_at_call 32; refine (value_any _ _).mono ?_; rintro _ w' ⟨rfl, rfl⟩)
        go_ret2
        rw [e.out]
        exact ⟨rfl, hb⟩
      have HN := dec_step s (2 * k) _ hlt1 (fun h => h.elim b1 b2) HR.out
      obtain ⟨x, hx⟩ := Int.eq_ofNat_of_zero_le (show 0 ≤ hexV (s[2 * k]) by omega)
      obtain ⟨y, hy⟩ := Int.eq_ofNat_of_zero_le (show 0 ≤ hexV (s[2 * k + 1]) by omega)
      obtain ⟨t1, t2⟩ := two_of _ _ x y hx hy (by omega) (by omega)
      generalize two (s[2 * k]) (s[2 * k + 1]) = c at *
      have HN' : Hid (dec s.data.toList = (dec (s.data.toList.drop (2 * k + 2))).map (t.data.toList ++ [c] ++ ·)) := HN
      have T1 : Hid ((c.toNat : Int) = (x : Int) * 16 + y) := t1
      clear HN t1
      have x15 : x ≤ 15 := by omega
      have y15 : y ≤ 15 := by omega
      clear v1 v2 b1 b2
      go_wp2_with (go_at_call 32; refine (value_any _ _).mono ?_; rintro e w' ⟨rfl, rfl⟩)
      go_roundw
      case rel => exact ⟨k + 1, t ++ ⟨#[c]⟩, by omega, by go_num, rfl, by rw [ByteArray.size_append, ht]; rfl, by show _ = _; rw [HN'.out]; simp [Nat.mul_add], hb.alloc hsz _⟩
      case measure => simp [intOf]; omega
    · go_wp2
      go_ret2
      have e := dec_end s (2 * k) _ (by omega) HR.out
      rw [HD.out, e]
      exact ⟨ret_sb (whole t) rfl, hb⟩
theorem index_b (c : UInt8) (w : World) :
    Calls Try.prog 30 #[.string ⟨#[48, 49, 50, 51, 52, 53, 54, 55, 56, 57, 97, 98, 99, 100, 101, 102]⟩, .int .u8 (c.toNat : Int)] w fun e w' => e = .returned (.int .i64 (hexV c)) ∧ Below w.heap.size w w' :=
  (index_any c w).mono fun _ _ ⟨a, b⟩ => ⟨a, b ▸ Below.refl _ _⟩
set_option maxHeartbeats 4000000 in
theorem readBytes_any (s : ByteArray) (w : World) (hs : s.size ≤ 1048576) :
    Calls Try.prog 18 #[.string s] w fun e w' => e = .returned (tupB (rbB s)) ∧ Below w.heap.size w w' := by
  unfold tupB
  obtain ⟨i0, hi, hz0, hz1, hz2⟩ := info_parts infoB
  obtain ⟨d, hd, hds, HD⟩ : ∃ d : ByteArray, d = (if s.data.toList = [45] then ⟨#[]⟩ else s) ∧ d.size ≤ 1048576 ∧ Hid (rbB s = dec d.data.toList) := by
    refine ⟨_, rfl, ?_, ?_⟩
    · split
      · show 0 ≤ _; omega
      · exact hs
    · show _ = _
      unfold rbB; split <;> rfl
  have HU : Hid (∀ w, Calls Try.prog 29 #[.string s] w fun e w' => e = .returned (.string d) ∧ w = w') := fun w => by rw [hd]; exact unmark_any s w
  clear hd
  by_cases h1 : d.size % 2 = 1
  · have e : rbB s = none := HD.out.trans (dec_odd _ _ (Nat.le_refl _) (by simpa using h1))
    rw [e]
    have q1 : (d.size : Int) % 2 = 1 := by omega
    have q2 : (d.size : Int).tmod 2 = 1 := by rw [tmod2]; omega
    go_enter Try.func18, Try.ntmps18
    go_wp2_with (go_at_call 29; refine (HU.out _).mono ?_; rintro _ w' ⟨rfl, rfl⟩)
    go_ret2
    exact ⟨rfl, Below.refl _ _⟩
  have q1 : (d.size : Int) % 2 = 0 := by omega
  have q2 : (d.size : Int).tmod 2 = 0 := by rw [tmod2]; omega
  go_enter Try.func18, Try.ntmps18
  go_wp2_with (go_at_call 29; refine (HU.out _).mono ?_; rintro _ w' ⟨rfl, rfl⟩)
  go_loopw [5, 6] (fun v i wr => ∃ (k : Nat) (l : List UInt8), k ≤ d.size ∧ k % 2 = 0 ∧ i = .int .i64 (k : Int) ∧ 2 * l.length = k ∧ Hid (dec d.data.toList = (dec (d.data.toList.drop k)).map (l ++ ·)) ∧ wr.ownsRow w.heap.size 5 1 v l.length (cellsB l) ∧ Below w.heap.size w wr) (fun _ i _ => d.size - (intOf i).toNat)
  case atStart => exact ⟨0, [], by omega, rfl, rfl, rfl, by show _ = _; simp, World.ownsRow_nil _ _ _ _, Below.refl _ _⟩
  case round =>
    obtain ⟨k, l, hk, hk2, rfl, hl, HR, hown, hb⟩ := hrel
    have hsz := hb.size
    by_cases hlt : k < d.size
    · have hlt1 : k + 1 < d.size := by omega
      have v1 := hexV_bd (d[k])
      obtain ⟨m1, hm1⟩ : ∃ m1 : Nat, m1 = k + 1 := ⟨_, rfl⟩
      have hlt2 : m1 < d.size := by omega
      have hE : d[k + 1] = d[m1] := by subst hm1; rfl
      have v2 := hexV_bd (d[m1])
      have c1 : (k : Int) + 1 = (m1 : Int) := by omega
      have S1 : Hid (∀ acc, hexV (d[k]) < 0 ∨ hexV (d[m1]) < 0 → dec d.data.toList = (dec (d.data.toList.drop k)).map (acc ++ ·) → dec d.data.toList = none) := fun acc hg e => dec_stop d k acc hlt1 (by rw [hE]; exact hg) e
      have S2 : Hid (∀ acc, ¬ (hexV (d[k]) < 0 ∨ hexV (d[m1]) < 0) → dec d.data.toList = (dec (d.data.toList.drop k)).map (acc ++ ·) → dec d.data.toList = (dec (d.data.toList.drop (k + 2))).map (acc ++ [two (d[k]) (d[m1])] ++ ·)) := fun acc hg e => by
        have := dec_step d k acc hlt1 (by rw [hE]; exact hg) e
        rw [hE] at this; exact this
      clear hE hm1
      have i1 : (0 : Int) ≤ (k : Int) := by omega
      have i2 : (k : Int) < (d.size : Int) := by omega
      have i3 : (m1 : Int) < (d.size : Int) := by omega
      have hne : Nonempty (Ext wr) := ⟨⟨wr, Below.refl _ _⟩⟩
      by_cases b1 : hexV (d[k]) < 0
      · have e : Hid (rbB s = none) := HD.out.trans (S1.out _ (.inl b1) HR.out)
        go_wp2
        refine region_ext (by kernel_rfl) (by kernel_rfl) ?_
        repeat (go_big_quiet_step ((go_at_call 30; exact calls_ext (index_b _ _))))
        refine wpQuiet_nil ?_
        rintro _ ⟨x, rfl⟩
        have hbx := hb.trans (x.below.mono hsz)
        go_wp2
        go_ret2
        rw [e.out]
        exact ⟨rfl, hbx⟩
      by_cases b2 : hexV (d[m1]) < 0
      · have e : Hid (rbB s = none) := HD.out.trans (S1.out _ (.inr b2) HR.out)
        go_wp2
        refine region_ext (by kernel_rfl) (by kernel_rfl) ?_
        repeat (go_big_quiet_step ((go_at_call 30; exact calls_ext (index_b _ _))))
        refine wpQuiet_nil ?_
        rintro _ ⟨x, rfl⟩
        have hbx := hb.trans (x.below.mono hsz)
        go_wp2
        go_ret2
        rw [e.out]
        exact ⟨rfl, hbx⟩
      have HN := S2.out _ (fun h => h.elim b1 b2) HR.out
      obtain ⟨x, hx⟩ := Int.eq_ofNat_of_zero_le (show 0 ≤ hexV (d[k]) by omega)
      obtain ⟨y, hy⟩ := Int.eq_ofNat_of_zero_le (show 0 ≤ hexV (d[m1]) by omega)
      obtain ⟨t1, t2⟩ := two_of _ _ x y hx hy (by omega) (by omega)
      generalize two (d[k]) (d[m1]) = c at *
      have HN' : Hid (dec d.data.toList = (dec (d.data.toList.drop (k + 2))).map (l ++ [c] ++ ·)) := HN
      clear HN t1
      have x15 : x ≤ 15 := by omega
      have y15 : y ≤ 15 := by omega
      clear v1 v2 b1 b2
      go_wp2
      refine region_ext (by kernel_rfl) (by kernel_rfl) ?_
      repeat (go_big_quiet_step ((go_at_call 30; exact calls_ext (index_b _ _))))
      refine wpQuiet_nil ?_
      rintro _ ⟨z, rfl⟩
      have hbx := hb.trans (z.below.mono hsz)
      have o1 := ownsUnder hown z.below (Nat.le_refl _)
      go_wp2_with (at_builtin; refine wpList_append_own _ rfl _ _ 22 rfl w.heap.size 5 i0 (.int .u8 0) 1 1 Try.underlying22 hi hz0 hz1 hz2 rfl (by decide) _ _ _ rfl (o1.alloc _) ⟨z.world.heap.size, 0, none⟩ 1 1 [.int .u8 (c.toNat : Int)] rfl rfl (cells_new _ #[.int .u8 (c.toNat : Int)] _) (fun u hu => by simp at hu; subst hu; rfl) (by unfold maxLen; omega) (by omega) (by have := hbx.size; simp; omega) ?_; intro v' w3 hown' hgrow3 _)
      have B3 := growOwn (hbx.alloc hbx.size (.cells #[.int .u8 (c.toNat : Int)] 5)) (by have := hbx.size; simp; omega) (o1.alloc _) hgrow3 (Nat.le_refl _)
      go_roundw
      case rel => exact ⟨k + 2, l ++ [c], by omega, by omega, by go_num, by simp; omega, by show _ = _; exact HN'.out, by simpa [cellsB] using hown', B3⟩
      case measure => simp [intOf]; omega
    · have kc := convOwn l hown
      go_wp2
      go_ret2
      have e := dec_end d (k) _ (by omega) HR.out
      rw [HD.out, e]
      exact ⟨rfl, hb⟩
end Go.Proofs.Ytpdedjjciajddaa.W
