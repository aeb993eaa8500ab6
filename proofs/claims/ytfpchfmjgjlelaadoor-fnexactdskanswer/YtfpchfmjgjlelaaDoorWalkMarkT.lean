
/-
  The walk of the exact laws' own 'markText': a mark's text. Marks of at most 100000000.
-/
import Derived.Test.YtfpchfmjgjlelaaDoorBase
import Derived.BigQuiet
import Derived.Deep.QuietTactic
import Derived.Deep.RegionWith
import Derived.Below
namespace Go.Proofs.YtfpchfmjgjlelaaDoor.W
open Go.RowKit
theorem size_mkT (l : List UInt8) : (ByteArray.mk l.toArray).size = l.length := by simp [ByteArray.size]

/-- the decimals of a number, ahead of what is there already -/
def decA : Nat → Nat → List UInt8 → List UInt8
  | 0, _, acc => acc
  | f + 1, n, acc => if n = 0 then acc else decA f (n / 10) (UInt8.ofNat (48 + n % 10) :: acc)
/-- the text of a mark -/
def markL (k : Nat) : List UInt8 := 109 :: decA k k []
theorem decA_zero (f : Nat) (acc : List UInt8) : decA f 0 acc = acc := by cases f <;> simp [decA]
theorem decA_step (f n : Nat) (acc : List UInt8) (h : 1 ≤ n) (hf : n ≤ f) : ∃ f', n / 10 ≤ f' ∧ decA f n acc = decA f' (n / 10) (UInt8.ofNat (48 + n % 10) :: acc) := by
  cases f with
  | zero => omega
  | succ f => exact ⟨f, by omega, by simp only [decA]; rw [if_neg (by omega)]⟩
theorem conv1v (w : World) (v : Int) : (convert 51 9 (.slice (some ⟨w.heap.size, 0, none⟩) 1 1)).run Tryd.prog (w.alloc (.cells #[.int .u8 v] 5)) = .ok (.string (strOfNums [v])) (w.alloc (.cells #[.int .u8 v] 5)) :=
  run_convert_bytes_arg (P := Tryd.prog) (w.alloc (.cells #[.int .u8 v] 5)) 51 5 Tryd.underlying51 Tryd.underlying5 w.heap.size 0 1 1 [v] rfl (fun i hi => by
    obtain rfl : i = 0 := by omega
    simp) 9 Tryd.underlying9
theorem str1e (v : Int) : strOfNums [v] = ⟨#[UInt8.ofNat v.toNat]⟩ := by apply ByteArray.ext; simp [strOfNums]
theorem str1v (v : Int) : (strOfNums [v]).size = 1 := by rw [str1e]; rfl
theorem digC (n : Nat) : strOfNums [48 + (n : Int) % 10] = ⟨#[UInt8.ofNat (48 + n % 10)]⟩ := by
  rw [str1e]
  have : (48 + (n : Int) % 10).toNat = 48 + n % 10 := by omega
  rw [this]
theorem cons_mk (c : UInt8) (x : List UInt8) : (ByteArray.mk #[c] ++ ByteArray.mk x.toArray) = ⟨(c :: x).toArray⟩ := by
  apply ByteArray.ext; simp

set_option maxHeartbeats 1000000 in
theorem markText_any (k : Nat) (w : World) (h1 : 1 ≤ k) (h2 : k ≤ 100000000) :
    Calls Tryd.prog 25 #[.int .i64 k] w fun e w' => e = .returned (.string ⟨(markL k).toArray⟩) ∧ Below w.heap.size w w' := by
  have kc := conv1v
  have ks := str1v
  go_enter Tryd.func25, Tryd.ntmps25
  go_wp2
  go_loopw [0, 3] (fun nn o wr => ∃ (n f : Nat) (acc : List UInt8), nn = .int .i64 n ∧ o = .string ⟨acc.toArray⟩ ∧ n ≤ f ∧ n ≤ k ∧ acc.length + n ≤ k ∧ Hid (decA k k [] = decA f n acc) ∧ Below w.heap.size w wr) (fun nn _ _ => (intOf nn).toNat)
  case atStart => exact ⟨k, k, [], rfl, rfl, Nat.le_refl _, Nat.le_refl _, by simp, rfl, Below.refl _ _⟩
  case round =>
    obtain ⟨n, f, acc, rfl, rfl, hf, hnk, hacc, HD, hb⟩ := hrel
    have hsz := size_mkT acc
    by_cases hn : 1 ≤ n
    · have hpos : 0 < n := by omega
      go_wp2
      go_roundw
      case rel =>
        obtain ⟨f', hf', e'⟩ := decA_step f n acc hn hf
        exact ⟨n / 10, f', UInt8.ofNat (48 + n % 10) :: acc, by go_num, by rw [digC, cons_mk], hf', by omega, by simp; omega, HD.out.trans e', hb.alloc hb.size _⟩
      case measure => simp [intOf]; omega
    · go_wp2
      go_ret
      obtain rfl : n = 0 := by omega
      have e := HD.out
      rw [decA_zero] at e
      exact ⟨ret_str (by rw [cons_mk]; unfold markL; rw [e]), hb⟩

end Go.Proofs.YtfpchfmjgjlelaaDoor.W
