
/-
  Bytes in digits to the base 16, by the program: 'bytesText'. At most 1048576 bytes.
-/
import Derived.Test.YtfpchfmjgjlelaaDoorWalkEdtH
import Derived.Test.YtfpchfmjgjlelaaDoorMathNew
import Derived.Test.YtfpchfmjgjlelaaDoorMathRow
import Derived.Deep.RegionHeldLaw
import Derived.Deep.AppendLies
namespace Go.Proofs.YtfpchfmjgjlelaaDoor.W
open Go.RowKit Go.Proofs.YtfpchfmjgjlelaaDoor.M

theorem infoB : (Tryd.prog.info? 5).map (fun i => (i.zero, i.size, i.bytes)) = some (some (.int .u8 0), 1, 1) := by kernel_rfl
def cellsB (l : List UInt8) : List Value := l.map fun c => .int .u8 (c.toNat : Int)
theorem convOwn {w : World} {base : Nat} {v : Value} (l : List UInt8) (h : w.ownsRow base 5 1 v l.length (cellsB l)) : (convert 51 9 v).run Tryd.prog w = .ok (.string ⟨l.toArray⟩) w := by
  rcases h.2 with ⟨rfl, hn⟩ | ⟨g, cap, cur, rfl, _⟩
  · obtain rfl : l = [] := List.length_eq_zero_iff.1 hn
    rw [run_convert_bytes_nil w 51 5 Tryd.underlying51 Tryd.underlying5 0 0 9 Tryd.underlying9]
    rfl
  · rw [run_convert_bytes_arg (P := Tryd.prog) w 51 5 Tryd.underlying51 Tryd.underlying5 g 0 l.length cap (l.map fun c => (c.toNat : Int)) (by simp) (fun i hi => by
      have := h.cellAt i (by omega)
      rw [Nat.zero_add, this]
      simp [cellsB, hi]) 9 Tryd.underlying9, str_of_bytes]
set_option maxHeartbeats 2000000 in
theorem bytesText_big (s : ByteArray) (w : World) (hs : s.size ≤ 1048576) :
    Calls Tryd.prog 31 #[.string s] w fun e w' => e = .returned (.string (dashB (hxB s))) ∧ Below w.heap.size w w' := by
  obtain ⟨i0, hi, hz0, hz1, hz2⟩ := info_parts infoB
  go_enter Tryd.func31, Tryd.ntmps31
  go_wp2
  go_loopw [3, 7] (fun v i wr => ∃ (k : Nat) (l : List UInt8), k ≤ s.size ∧ i = .int .i64 k ∧ l.length = 2 * k ∧ Hid (l = hxL (s.data.toList.take k)) ∧ wr.ownsRow w.heap.size 5 1 v l.length (cellsB l) ∧ Below w.heap.size w wr) (fun _ i _ => s.size - (intOf i).toNat)
  case atStart => exact ⟨0, [], by omega, rfl, rfl, by show _ = _; simp [hxL], World.ownsRow_nil _ _ _ _, Below.refl _ _⟩
  case round =>
    obtain ⟨k, l, hk, rfl, hl, HL, hown, hb⟩ := hrel
    have hsz := hb.size
    by_cases hlt : k < s.size
    · have hc2 : (s[k]).toNat < 256 := (s[k]).toNat_lt
      obtain ⟨hi', hhi⟩ : ∃ hi : Nat, hi = (s[k]).toNat / 16 := ⟨_, rfl⟩
      obtain ⟨lo, hlo⟩ : ∃ lo : Nat, lo = (s[k]).toNat % 16 := ⟨_, rfl⟩
      have f1 : ((s[k]).toNat : Int) / 16 = (hi' : Int) := by rw [hhi]; rfl
      have f2 : ((s[k]).toNat : Int) % 16 = (lo : Int) := by rw [hlo]; rfl
      have f3 : ((s[k]).toNat : Int).tdiv 16 = (hi' : Int) := by rw [hhi]; rfl
      have f4 : ((s[k]).toNat : Int).tmod 16 = (lo : Int) := by rw [hlo]; rfl
      have h1 : hi' < 16 := by omega
      have h2 : lo < 16 := by omega
      have f5 : IntKind.u8.wrap (hi' : Int) = hi' := by rw [IntKind.wrap_u8]; omega
      have f6 : IntKind.u8.wrap (lo : Int) = lo := by rw [IntKind.wrap_u8]; omega
      have b1 : (hi' : Int) < 16 := by omega
      have b2 : (lo : Int) < 16 := by omega
      have g1 : ∀ h, (ByteArray.mk #[48, 49, 50, 51, 52, 53, 54, 55, 56, 57, 97, 98, 99, 100, 101, 102])[hi']'h = hexD hi' := fun h => hex_tab hi' h
      have g2 : ∀ h, (ByteArray.mk #[48, 49, 50, 51, 52, 53, 54, 55, 56, 57, 97, 98, 99, 100, 101, 102])[lo]'h = hexD lo := fun h => hex_tab lo h
      have HI : Hid (hi' = (s[k]).toNat / 16) := hhi
      have LO : Hid (lo = (s[k]).toNat % 16) := hlo
      clear hhi hlo
      go_wp2
      go_region_held_law (fun _ => True) (trivial)
        ((refine step_append_lies _ (by rfl) _ _ 51 (by rfl) w.heap.size 5 i0 (.int .u8 0) 1 1 Tryd.underlying51 hi hz0 hz1 hz2 rfl (by omega) _ _ _ (by rfl) (ownsUnder hown (((Below.refl _ wr).alloc (Nat.le_refl _) _).drew) (Nat.le_refl _)) ⟨wr.heap.size, 0, none⟩ 2 2 [.int .u8 ((hexD hi').toNat : Int), .int .u8 ((hexD lo).toNat : Int)] (by rfl) rfl (World.news_of_block (heap_alloc_new wr _)) (fun u hu => by simp at hu; rcases hu with rfl | rfl <;> rfl) (by omega) (by unfold maxLen; omega) (by omega) (by simp; omega) (wr.heap.size + 1) (by simp) ?_; intro g cap w1 hown1 hgrow hat hlg))
      all_goals
        have o1 := ownsUnder hown (((Below.refl _ wr).alloc (Nat.le_refl _) (.cells #[.int .u8 ((hexD hi').toNat : Int), .int .u8 ((hexD lo).toNat : Int)] 5)).drew) (Nat.le_refl _)
        have B1 := growOwn ((hb.alloc hsz (.cells #[.int .u8 ((hexD hi').toNat : Int), .int .u8 ((hexD lo).toNat : Int)] 5)).drew) (by simp; omega) o1 hgrow (Nat.le_refl _)
        go_wp2
        go_roundw
        case rel => exact ⟨k + 1, l ++ [hexD hi', hexD lo], by omega, by go_num, by simp; omega, by show _ = _; rw [HL.out, hxL_snoc _ _ (by simpa using hlt), HI.out, LO.out]; rfl, by simpa [cellsB, hl] using hown1, B1⟩
        case measure => simp [intOf]; omega
    · have kc := convOwn l hown
      go_wp2_with (go_at_call 34; refine (markEmpty_any _ _).mono ?_; rintro e w' ⟨rfl, rfl⟩)
      go_ret
      obtain rfl : k = s.size := by omega
      have e : (⟨l.toArray⟩ : ByteArray) = hxB s := by rw [HL.out]; unfold hxB; rw [List.take_of_length_le (by simp)]
      exact ⟨ret_str (by rw [e]), hb⟩
theorem bytesText_any (s : ByteArray) (w : World) (hs : s.size ≤ 6) :
    Calls Tryd.prog 31 #[.string s] w fun e w' => e = .returned (.string (dashB (hxB s))) ∧ Below w.heap.size w w' := bytesText_big s w (by omega)
end Go.Proofs.YtfpchfmjgjlelaaDoor.W
