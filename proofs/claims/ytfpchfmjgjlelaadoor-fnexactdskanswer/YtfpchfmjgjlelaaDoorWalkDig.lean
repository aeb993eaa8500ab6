
/-
  Decimals, as the specification's 'l5Digits' writes them: the library's own digits. Numbers of 0 to 9999.
-/
import Derived.Test.YtfpchfmjgjlelaaDoorBase
import Derived.Test.YtfpchfmjgjlelaaDoorMathPth
import Derived.Lib.ItoaNum
import Derived.Lib.LaidTab
import Derived.Below
import Derived.OwnWalk
namespace Go.Proofs.YtfpchfmjgjlelaaDoor.W
open Go.RowKit Go.Proofs.YtfpchfmjgjlelaaDoor.M

def decB (n : Nat) : ByteArray := ⟨(Lib.decDigits n).toArray⟩
theorem dec_len1 (u : Nat) (h : u < 10) : (Lib.decDigits u).length ≤ 1 := by rw [Lib.decDigits, dif_pos h]; simp
theorem dec_len2 (u : Nat) (h : u < 100) : (Lib.decDigits u).length ≤ 2 := by
  rw [Lib.decDigits]
  split
  · simp
  · have := dec_len1 (u / 10) (by omega); simp; omega
theorem dec_len3 (u : Nat) (h : u < 1000) : (Lib.decDigits u).length ≤ 3 := by
  rw [Lib.decDigits]
  split
  · simp
  · have := dec_len2 (u / 10) (by omega); simp; omega
theorem dec_len4 (u : Nat) (h : u < 10000) : (Lib.decDigits u).length ≤ 4 := by
  rw [Lib.decDigits]
  split
  · simp
  · have := dec_len3 (u / 10) (by omega); simp; omega
theorem decB_size (n : Nat) (h : n ≤ 9999) : (decB n).size ≤ 4 := by
  have e : (decB n).size = (Lib.decDigits n).length := size_mk _
  rw [e]; exact dec_len4 n (by omega)
/-- a digit -/
def dgU (r : Nat) : UInt8 := UInt8.ofNat (48 + r)
theorem dec_step (m r d : Nat) (hr : r = m % 10) (hd : d = m / 10) (hm : 0 < m) (o L : List UInt8) (h : Lib.decDigits m ++ o = L) : (d = 0 → dgU r :: o = L) ∧ (0 < d → Lib.decDigits d ++ (dgU r :: o) = L) := by
  subst hr hd
  constructor
  · intro h0
    have hlt : m < 10 := by omega
    rw [Lib.decDigits, dif_pos hlt] at h
    rw [show m % 10 = m by omega, ← h]; rfl
  · intro h0
    have hlt : ¬ m < 10 := by omega
    rw [Lib.decDigits, dif_neg hlt] at h
    rw [← h]
    show Lib.decDigits (m / 10) ++ (UInt8.ofNat (48 + m % 10) :: o) = _
    rw [List.append_assoc]
    rfl
theorem convDg (w : World) (r : Nat) (hr : r < 10) : (convert 51 9 (.slice (some ⟨w.heap.size, 0, none⟩) 1 1)).run Tryd.prog (w.alloc (.cells #[.int .u8 (48 + (r : Int))] 5)) = .ok (.string ⟨#[dgU r]⟩) (w.alloc (.cells #[.int .u8 (48 + (r : Int))] 5)) := by
  have h := run_convert_bytes_arg (P := Tryd.prog) (w.alloc (.cells #[.int .u8 (48 + (r : Int))] 5)) 51 5 Tryd.underlying51 Tryd.underlying5 w.heap.size 0 1 1 [48 + (r : Int)] rfl (fun i hi => by
    obtain rfl : i = 0 := by omega
    simp) 9 Tryd.underlying9
  have e : strOfNums [48 + (r : Int)] = ⟨#[dgU r]⟩ := by
    apply ByteArray.ext
    have : (48 + (r : Int)).toNat = 48 + r := by omega
    unfold dgU
    simp [strOfNums, this]
  rw [h, e]
set_option maxHeartbeats 2000000 in
theorem l5Digits_dec (n : Nat) (w : World) (hn : n ≤ 9999) : Calls Tryd.prog 16 #[.int .i64 n] w fun e w' => e = .returned (.string (decB n)) ∧ Below w.heap.size w w' := by
  by_cases h0 : n = 0
  · subst h0
    go_enter Tryd.func16, Tryd.ntmps16
    go_wp2
    go_ret
    exact ⟨ret_str (by unfold decB; rw [Lib.decDigits]; rfl), Below.refl _ _⟩
  · have h1 : ¬ (n : Int) < 1 := by omega
    obtain ⟨L, hL⟩ : ∃ L, L = Lib.decDigits n := ⟨_, rfl⟩
    have HL : Hid (L = Lib.decDigits n) := hL
    have H0 : Hid (0 < n) := Nat.pos_of_ne_zero h0
    clear hL h0
    go_enter Tryd.func16, Tryd.ntmps16
    go_wp2
    clear h1
    go_loopw [0, 3] (fun nv ov wr => ∃ (m : Nat) (t : ByteArray), m ≤ 9999 ∧ nv = .int .i64 m ∧ ov = .string t ∧ t.size + m ≤ 10100 ∧ Hid ((m = 0 → t.data.toList = L) ∧ (0 < m → Lib.decDigits m ++ t.data.toList = L)) ∧ Below w.heap.size w wr) (fun nv _ _ => (intOf nv).toNat)
    case atStart => exact ⟨n, ⟨#[]⟩, hn, rfl, rfl, by show 0 + n ≤ 10100; omega, (show _ ∧ _ from ⟨fun h => absurd H0.out (by omega), fun _ => by rw [HL.out]; simp⟩), Below.refl _ _⟩
    case round =>
      obtain ⟨m, t, hm, rfl, rfl, htm, HT, hb⟩ := hrel
      have hsz := hb.size
      by_cases hm0 : 0 < m
      · obtain ⟨r, hr⟩ : ∃ r : Nat, r = m % 10 := ⟨_, rfl⟩
        obtain ⟨d, hd⟩ : ∃ d : Nat, d = m / 10 := ⟨_, rfl⟩
        have hst := dec_step m r d hr hd hm0 _ L (HT.out.2 hm0)
        have f1 : (m : Int) % 10 = (r : Int) := by rw [hr]; rfl
        have f2 : (m : Int).tmod 10 = (r : Int) := by rw [hr]; rfl
        have f3 : (m : Int) / 10 = (d : Int) := by rw [hd]; rfl
        have f4 : (m : Int).tdiv 10 = (d : Int) := by rw [hd]; rfl
        have hr9 : r < 10 := by omega
        have hd9 : d ≤ 999 := by omega
        have hdm : d < m := by omega
        have HN : Hid ((d = 0 → (⟨#[dgU r]⟩ ++ t : ByteArray).data.toList = L) ∧ (0 < d → Lib.decDigits d ++ (⟨#[dgU r]⟩ ++ t : ByteArray).data.toList = L)) := (show _ ∧ _ from ⟨fun h => by have := hst.1 h; simpa using this, fun h => by have := hst.2 h; simpa using this⟩)
        have kc := fun w => convDg w r hr9
        clear hst hr hd HT
        go_wp2
        go_roundw
        case rel => exact ⟨d, ⟨#[dgU r]⟩ ++ t, by omega, by go_num, rfl, by rw [ByteArray.size_append]; show 1 + t.size + d ≤ 10100; omega, HN, hb.alloc hsz _⟩
        case measure => simp [intOf]; omega
      · obtain rfl : m = 0 := by omega
        have H9 : Hid (t.data.toList = L) := HT.out.1 rfl
        clear HT
        go_wp2
        go_ret
        have e : t = decB n := by
          have := H9.out
          rw [HL.out] at this
          unfold decB
          rw [← this]
        exact ⟨ret_str e, hb⟩
end Go.Proofs.YtfpchfmjgjlelaaDoor.W
