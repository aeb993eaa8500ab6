
/-
  A rule's text; the walks of RulText of the specification and of the program, and of what they call. Texts of at most 1048576 bytes.
-/
import Derived.Test.YtkgfoimfhlpngaaDoorWalkRul
import Derived.Test.YtkgfoimfhlpngaaDoorWalkRul2
import Derived.Test.YtkgfoimfhlpngaaDoorMathTxt
import Derived.Test.YtkgfoimfhlpngaaDoorWalkDash
namespace Go.Proofs.YtkgfoimfhlpngaaDoor.W
open Go.RowKit Go.Proofs.YtkgfoimfhlpngaaDoor.M

def digB (n : Nat) : ByteArray := ⟨#[UInt8.ofNat (48 + n)]⟩
def spB : ByteArray := ⟨#[32]⟩
def wordB (b : Bool) : ByteArray := if b = true then ⟨#[119, 114, 105, 116, 101]⟩ else ⟨#[114, 101, 97, 100]⟩
/-- the text of a rule -/
def textB (x : RR) : ByteArray := if rulB x = true then digB x.user.toNat ++ spB ++ dashB x.ref ++ spB ++ dashB x.path ++ spB ++ wordB x.write else ⟨#[]⟩
theorem convC (w : World) (n : Nat) (hn : n ≤ 4) : (convert 28 9 (.slice (some ⟨w.heap.size, 0, none⟩) 1 1)).run Tryd.prog (w.alloc (.cells #[.int .u8 (48 + (n : Int))] 5)) = .ok (.string (digB n)) (w.alloc (.cells #[.int .u8 (48 + (n : Int))] 5)) := by
  have h := run_convert_bytes_arg (P := Tryd.prog) (w.alloc (.cells #[.int .u8 (48 + (n : Int))] 5)) 28 5 Tryd.underlying28 Tryd.underlying5 w.heap.size 0 1 1 [48 + (n : Int)] rfl (fun i hi => by
    obtain rfl : i = 0 := by omega
    simp) 9 Tryd.underlying9
  have e : strOfNums [48 + (n : Int)] = digB n := by
    apply ByteArray.ext
    have : (48 + (n : Int)).toNat = 48 + n := by omega
    simp [strOfNums, digB, this]
  rw [h, e]

set_option maxHeartbeats 1000000 in
theorem l5Digits_any (n : Nat) (w : World) (hn : n ≤ 4) : Calls Tryd.prog 27 #[.int .i64 n] w fun e w' => e = .returned (.string (digB n)) ∧ Below w.heap.size w w' := by
  by_cases h0 : n = 0
  · subst h0
    go_enter Tryd.func27, Tryd.ntmps27
    go_wp2
    go_ret
    exact ⟨rfl, Below.refl _ _⟩
  · have h1 : ¬ (n : Int) < 1 := by omega
    have h2 : (0 : Int) < (n : Int) := by omega
    have h3 : (n : Int) % 10 = n := by omega
    have h4 : (n : Int) / 10 = 0 := by omega
    have kc := fun w => convC w n hn
    have ks : (digB n).size = 1 := rfl
    have ke : digB n ++ (⟨#[]⟩ : ByteArray) = digB n := by apply ByteArray.ext; simp
    go_enter Tryd.func27, Tryd.ntmps27
    go_wp2
    refine wp_loop_rounds 2 ?_
    rw [rounds_succ]
    go_wp2
    rw [rounds_succ]
    go_wp2
    go_ret
    exact ⟨ret_str ke, (Below.refl _ _).alloc (Nat.le_refl _) _⟩
end Go.Proofs.YtkgfoimfhlpngaaDoor.W
