
/-
  Plain mathematics of an id's eight digits, and of reading them. No condition.
-/
import Derived.WalkKit
import Derived.Laws.BytesArg
namespace Go.Proofs.Ytgbcgchnnmgmfaa.M
open Go.RowKit

/-- the digit of a number below 16 -/
def hexD (d : Nat) : UInt8 := if d < 10 then UInt8.ofNat (48 + d) else UInt8.ofNat (87 + d)
/-- the last k digits of a number, the greatest first -/
def digs : Nat → Nat → List UInt8
  | 0, _ => []
  | k + 1, n => hexD (n / 16 ^ k % 16) :: digs k n
/-- the eight digits of an id -/
def hexL (n : Nat) : List UInt8 := digs 8 n
def hexB (n : Nat) : ByteArray := ⟨(hexL n).toArray⟩
/-- the eight digits of an id, empty of any other number -/
def idHexB (n : Int) : ByteArray := if 1 ≤ n ∧ n ≤ 4294967295 then hexB n.toNat else ByteArray.empty

theorem digs_length (k n : Nat) : (digs k n).length = k := by
  induction k with
  | zero => rfl
  | succ k ih => simp [digs, ih]
theorem hexL_length (n : Nat) : (hexL n).length = 8 := digs_length 8 n
theorem str_one (v : Int) : strOfNums [v] = ⟨#[UInt8.ofNat v.toNat]⟩ := by
  apply ByteArray.ext; simp [strOfNums]
theorem hexD_lo (d : Nat) (h : d < 10) : UInt8.ofNat (48 + (d : Int)).toNat = hexD d := by
  unfold hexD; rw [if_pos h]; congr 1
theorem hexD_hi (d : Nat) (h : ¬ d < 10) : UInt8.ofNat (97 + (d : Int) - 10).toNat = hexD d := by
  unfold hexD; rw [if_neg h]; congr 1; omega
theorem div_step (n k : Nat) : n / 16 ^ k / 16 = n / 16 ^ (k + 1) := by rw [Nat.div_div_eq_div_mul, Nat.pow_succ]
theorem hex_tab_fin : ∀ d : Fin 16, (#[48, 49, 50, 51, 52, 53, 54, 55, 56, 57, 97, 98, 99, 100, 101, 102] : Array UInt8)[d.val]? = some (hexD d.val) := by decide
theorem hex_tab (d : Nat) (h : d < (ByteArray.mk #[48, 49, 50, 51, 52, 53, 54, 55, 56, 57, 97, 98, 99, 100, 101, 102]).size) :
    (ByteArray.mk #[48, 49, 50, 51, 52, 53, 54, 55, 56, 57, 97, 98, 99, 100, 101, 102])[d] = hexD d := by
  have h16 : d < 16 := h
  have e := hex_tab_fin ⟨d, h16⟩
  have e2 : (#[48, 49, 50, 51, 52, 53, 54, 55, 56, 57, 97, 98, 99, 100, 101, 102] : Array UInt8)[d]? = some ((#[48, 49, 50, 51, 52, 53, 54, 55, 56, 57, 97, 98, 99, 100, 101, 102] : Array UInt8)[d]'h16) := Array.getElem?_eq_getElem _
  exact Option.some.inj (e2.symm.trans e)
theorem digs_get (n : Nat) : ∀ (k j : Nat), j < k → (digs k n)[j]? = some (hexD (n / 16 ^ (k - 1 - j) % 16)) := by
  intro k
  induction k with
  | zero => intro j h; omega
  | succ k ih =>
    intro j h
    cases j with
    | zero => simp [digs]
    | succ j => simp only [digs, List.getElem?_cons_succ]; rw [ih j (by omega)]; congr 5; omega
theorem str_of_bytes (l : List UInt8) : strOfNums (l.map fun c => (c.toNat : Int)) = ⟨l.toArray⟩ := by
  apply ByteArray.ext; simp [strOfNums, Function.comp_def]
theorem cs_done (n : Nat) (cs : List Int) (h8 : cs.length = 8) (h : ∀ j, j < 8 → 8 ≤ j + 8 → cs[j]? = some ((hexD (n / 16 ^ (7 - j) % 16)).toNat : Int)) : strOfNums cs = hexB n := by
  have e : cs = (hexL n).map fun c => (c.toNat : Int) := by
    apply List.ext_getElem?
    intro j
    by_cases hj : j < 8
    · rw [h j hj (by omega), List.getElem?_map, hexL, digs_get n 8 j hj]; rfl
    · rw [List.getElem?_eq_none (by omega), List.getElem?_eq_none (by rw [List.length_map, hexL_length]; omega)]
  rw [e, str_of_bytes]; rfl
theorem idHexB_in (n : Nat) (h1 : 1 ≤ n) (h2 : n ≤ 4294967295) : idHexB (n : Int) = hexB n := by
  unfold idHexB; rw [if_pos (by omega)]; rfl
theorem idHexB_out (n : Int) (h : ¬ (1 ≤ n ∧ n ≤ 4294967295)) : idHexB n = ByteArray.empty := by unfold idHexB; rw [if_neg h]
theorem hexB_size (n : Nat) : (hexB n).size = 8 := by
  have := hexL_length n
  simp [hexB, ByteArray.size, this]
theorem idHexB_size (n : Nat) (h1 : 1 ≤ n) (h2 : n ≤ 4294967295) : (idHexB (n : Int)).size = 8 := by rw [idHexB_in n h1 h2, hexB_size]
end Go.Proofs.Ytgbcgchnnmgmfaa.M
