
/-
  Bytes in digits to the base 16: the specification's 'l6Hex', the program's 'bytesText'. At most 1048576 bytes.
-/
import Derived.Test.YtfpchfmjgjlelaaDoorWalkDash
import Derived.Test.YtfpchfmjgjlelaaDoorWalkHex
import Derived.OwnWalk
import Derived.Deep.RegionWith
namespace Go.Proofs.YtfpchfmjgjlelaaDoor.W
open Go.RowKit Go.Proofs.YtfpchfmjgjlelaaDoor.M

/-- the digits of bytes -/
def hxL (l : List UInt8) : List UInt8 := l.flatMap fun c => [hexD (c.toNat / 16), hexD (c.toNat % 16)]
theorem hxL_snoc (l : List UInt8) (k : Nat) (h : k < l.length) : hxL (l.take (k + 1)) = hxL (l.take k) ++ [hexD ((l[k]).toNat / 16), hexD ((l[k]).toNat % 16)] := by
  unfold hxL; rw [List.take_succ_eq_append_getElem h, List.flatMap_append]; rfl
theorem hxL_length (l : List UInt8) : (hxL l).length = 2 * l.length := by
  induction l with
  | nil => rfl
  | cons c l ih => simp [hxL] at *; omega
theorem digitI (z : Int) (w : World) (h0 : 0 ≤ z) (h : z < 16) :
    Calls Tryd.prog 27 #[.int .i64 z] w fun e w' => e = .returned (.int .u8 ((hexD z.toNat).toNat : Int)) ∧ w = w' := by
  obtain ⟨d, rfl⟩ := Int.eq_ofNat_of_zero_le h0
  exact digit_any d w (by omega)
theorem wrapB (n : Nat) (h : n ≤ 4294967295) : IntKind.i64.wrap (n : Int) = n := by rw [IntKind.wrap_i64]; omega
theorem tdivB (n : Nat) : (n : Int).tdiv 16 = ((n / 16 : Nat) : Int) := rfl
theorem tmodB (n : Nat) : (n : Int).tmod 16 = ((n % 16 : Nat) : Int) := rfl
def hxB (s : ByteArray) : ByteArray := ⟨(hxL s.data.toList).toArray⟩
theorem conv2 (w : World) (c d : UInt8) : (convert 51 9 (.slice (some ⟨w.heap.size, 0, none⟩) 2 2)).run Tryd.prog (w.alloc (.cells #[.int .u8 (c.toNat : Int), .int .u8 (d.toNat : Int)] 5)) = .ok (.string ⟨#[c, d]⟩) (w.alloc (.cells #[.int .u8 (c.toNat : Int), .int .u8 (d.toNat : Int)] 5)) := by
  have h := run_convert_bytes_arg (P := Tryd.prog) (w.alloc (.cells #[.int .u8 (c.toNat : Int), .int .u8 (d.toNat : Int)] 5)) 51 5 Tryd.underlying51 Tryd.underlying5 w.heap.size 0 2 2 [(c.toNat : Int), (d.toNat : Int)] rfl (fun i hi => by
    rcases (show i = 0 ∨ i = 1 by omega) with rfl | rfl <;> simp) 9 Tryd.underlying9
  have e : strOfNums [(c.toNat : Int), (d.toNat : Int)] = ⟨#[c, d]⟩ := by
    apply ByteArray.ext; simp [strOfNums]
  rw [h, e]
theorem conv2d (w : World) (c d : UInt8) : (convert 51 9 (.slice (some ⟨w.heap.size, 0, none⟩) 2 2)).run Tryd.prog (w.alloc (.cells #[.int .u8 (c.toNat : Int), .int .u8 (d.toNat : Int)] 5)).drew = .ok (.string ⟨#[c, d]⟩) (w.alloc (.cells #[.int .u8 (c.toNat : Int), .int .u8 (d.toNat : Int)] 5)).drew := by
  have h := run_convert_bytes_arg (P := Tryd.prog) (w.alloc (.cells #[.int .u8 (c.toNat : Int), .int .u8 (d.toNat : Int)] 5)).drew 51 5 Tryd.underlying51 Tryd.underlying5 w.heap.size 0 2 2 [(c.toNat : Int), (d.toNat : Int)] rfl (fun i hi => by
    rcases (show i = 0 ∨ i = 1 by omega) with rfl | rfl <;> simp) 9 Tryd.underlying9
  have e : strOfNums [(c.toNat : Int), (d.toNat : Int)] = ⟨#[c, d]⟩ := by
    apply ByteArray.ext; simp [strOfNums]
  rw [h, e]
set_option maxHeartbeats 1000000 in
theorem l6Hex_big (s : ByteArray) (w : World) (hs : s.size ≤ 1048576) :
    Calls Tryd.prog 17 #[.string s] w fun e w' => e = .returned (.string (dashB (hxB s))) ∧ Below w.heap.size w w' := by
  have kc := conv2
  have kd := conv2d
  go_enter Tryd.func17, Tryd.ntmps17
  go_wp2
  go_loopw [3, 4] (fun o i wr => ∃ (k : Nat) (t : ByteArray), k ≤ s.size ∧ i = .int .i64 k ∧ o = .string t ∧ Hid (t = ⟨(hxL (s.data.toList.take k)).toArray⟩) ∧ t.size = 2 * k ∧ Below w.heap.size w wr) (fun _ i _ => s.size - (intOf i).toNat)
  case atStart => exact ⟨0, ⟨#[]⟩, by omega, rfl, rfl, by show _ = _; simp [hxL], by rfl, Below.refl _ _⟩
  case round =>
    obtain ⟨k, t, hk, rfl, rfl, HT, htl, hb⟩ := hrel
    have hsz := hb.size
    by_cases hlt : k < s.size
    · have hc2 : (s[k]).toNat < 256 := (s[k]).toNat_lt
      have e1 : IntKind.i64.wrap ((s[k]).toNat : Int) = (s[k]).toNat := wrapB _ (by omega)
      obtain ⟨hi, hhi⟩ : ∃ hi : Nat, hi = (s[k]).toNat / 16 := ⟨_, rfl⟩
      obtain ⟨lo, hlo⟩ : ∃ lo : Nat, lo = (s[k]).toNat % 16 := ⟨_, rfl⟩
      have e2 : IntKind.i64.wrap (((s[k]).toNat : Int) / 16) = (hi : Int) := by rw [hhi]; exact wrapB ((s[k]).toNat / 16) (by omega)
      have e3 : IntKind.i64.wrap (((s[k]).toNat : Int) % 16) = (lo : Int) := by rw [hlo]; exact wrapB ((s[k]).toNat % 16) (by omega)
      have e4 : ((s[k]).toNat : Int) % 16 = (lo : Int) := by rw [hlo]; rfl
      have e5 : ((s[k]).toNat : Int).tmod 16 = (lo : Int) := by rw [hlo]; rfl
      have h1 : hi < 16 := by omega
      have h2 : lo < 16 := by omega
      have HI : Hid (hi = (s[k]).toNat / 16) := hhi
      have LO : Hid (lo = (s[k]).toNat % 16) := hlo
      clear hhi hlo
      go_wp2
      go_region_with (first
        | (go_at_call 27; refine (digit_any _ _ (by assumption)).mono ?_; rintro e w' ⟨rfl, rfl⟩))
      all_goals
        go_wp2
        go_roundw
        case rel => exact ⟨k + 1, t ++ ⟨#[hexD hi, hexD lo]⟩, by omega, by go_num, rfl, by show _ = _; rw [HT.out, hxL_snoc _ _ (by simpa using hlt), HI.out, LO.out]; apply ByteArray.ext; simp; exact ⟨rfl, rfl⟩, by rw [ByteArray.size_append, htl]; show 2 * k + 2 = _; omega, hb.drew.alloc (by simp; omega) _⟩
        case measure => simp [intOf]; omega
    · go_wp2_with (go_at_call 28; refine (l5Dash_any _ _).mono ?_; rintro e w' ⟨rfl, hb2⟩)
      go_ret
      obtain rfl : k = s.size := by omega
      have e : t = hxB s := by rw [HT.out]; unfold hxB; rw [List.take_of_length_le (by simp)]
      exact ⟨ret_str (by rw [e]), hb.trans (hb2.mono (by omega))⟩
theorem l6Hex_any (s : ByteArray) (w : World) (hs : s.size ≤ 6) :
    Calls Tryd.prog 17 #[.string s] w fun e w' => e = .returned (.string (dashB (hxB s))) ∧ Below w.heap.size w w' := l6Hex_big s w (by omega)
end Go.Proofs.YtfpchfmjgjlelaaDoor.W
