
/-
  Plain mathematics of ids: the id of a text, its digits, and reading them. No condition.
-/
import Derived.WalkKit
import Derived.Laws.BitsAllLaws
namespace Go.Proofs.Ytgbcgchnnmgmfaa.M
open Go.RowKit

def idStep (x : Nat) (c : UInt8) : Nat := ((x ^^^ c.toNat) * 16777619 % 4294967296) ^^^ ((x ^^^ c.toNat) * 16777619 % 4294967296 / 32768)
def idFold (x : Nat) (l : List UInt8) : Nat := l.foldl idStep x
def idFin (x : Nat) : Nat := (x * 73856093 % 4294967296) ^^^ (x * 73856093 % 4294967296 / 8192)
def idRaw (l : List UInt8) : Nat := idFin (idFold (2166136261 + l.length) l)
def idOfN (l : List UInt8) : Nat := if idRaw l = 0 then 1 else idRaw l

theorem xor_lt32 {a b : Nat} (ha : a < 4294967296) (hb : b < 4294967296) : a ^^^ b < 4294967296 :=
  Nat.xor_lt_two_pow (n := 32) ha hb
theorem idStep_lt (x : Nat) (c : UInt8) : idStep x c < 4294967296 := by
  unfold idStep; exact xor_lt32 (Nat.mod_lt _ (by omega)) (by omega)
theorem idFin_lt (x : Nat) : idFin x < 4294967296 := by
  unfold idFin; exact xor_lt32 (Nat.mod_lt _ (by omega)) (by omega)
theorem foldl_snoc {α β : Type} (f : α → β → α) (x : α) (l : List β) (c : β) : (l ++ [c]).foldl f x = f (l.foldl f x) c := by simp
theorem foldl_inv {α β : Type} (P : α → Prop) (f : α → β → α) (h : ∀ a b, P (f a b)) (x : α) (hx : P x) (l : List β) : P (l.foldl f x) := by
  induction l generalizing x with
  | nil => exact hx
  | cons a r ih => exact ih _ (h x a)
theorem idFold_snoc (x : Nat) (l : List UInt8) (c : UInt8) : idFold x (l ++ [c]) = idStep (idFold x l) c := foldl_snoc idStep x l c
theorem idFold_lt (x : Nat) (hx : x < 4294967296) (l : List UInt8) : idFold x l < 4294967296 :=
  foldl_inv (fun y => y < 4294967296) idStep idStep_lt x hx l
theorem idOfN_bd (l : List UInt8) : 1 ≤ idOfN l ∧ idOfN l ≤ 4294967295 := by
  have := idFin_lt (idFold (2166136261 + l.length) l)
  unfold idOfN idRaw; split <;> omega
theorem take_snoc (s : ByteArray) (k : Nat) (h : k < s.size) : s.data.toList.take (k + 1) = s.data.toList.take k ++ [s[k]] := by
  rw [List.take_succ_eq_append_getElem (by simpa using h)]; rfl
theorem i64_xor_nat (a b : Nat) (ha : a < 4294967296) (hb : b < 4294967296) : bits .xor .i64 (a : Int) (b : Int) = ((a ^^^ b : Nat) : Int) := by
  have hx : a ^^^ b < 2 ^ 32 := Nat.xor_lt_two_pow (by omega) (by omega)
  show IntKind.i64.wrap ((BitVec.ofInt 64 (a : Int) ^^^ BitVec.ofInt 64 (b : Int)).toNat : Int) = _
  rw [BitVec.toNat_xor, ofInt_u64 a (by omega), ofInt_u64 b (by omega), IntKind.wrap_i64]
  omega
theorem w64_nat (n : Nat) (h : n < 4294967296) : wrap64 (n : Int) = n := by unfold wrap64; omega
theorem mul_i64 (z m : Nat) (hz : z < 4294967296) (hm : m < 134217728) : (wrap64 ((z : Int) * (m : Int))).tmod 4294967296 = ((z * m % 4294967296 : Nat) : Int) := by
  have h : z * m < 4294967296 * 134217728 := Nat.mul_lt_mul'' hz hm
  have e : (z : Int) * (m : Int) = ((z * m : Nat) : Int) := by simp
  rw [e]
  have e2 : wrap64 ((z * m : Nat) : Int) = ((z * m : Nat) : Int) := by unfold wrap64; omega
  rw [e2, Int.tmod_eq_emod_of_nonneg (by omega)]; simp
theorem quo_i64 (z d : Nat) (hz : z < 4294967296) : wrap64 ((z : Int).tdiv (d : Int)) = ((z / d : Nat) : Int) := by
  have e : (z : Int).tdiv (d : Int) = ((z / d : Nat) : Int) := by rw [Int.tdiv_eq_ediv_of_nonneg (by omega)]; simp
  have : z / d ≤ z := Nat.div_le_self _ _
  rw [e]; exact w64_nat _ (by omega)
theorem c_lt (c : UInt8) : c.toNat < 4294967296 := by have := c.toNat_lt; omega
theorem step_i64 (y : Nat) (c : UInt8) (hy : y < 4294967296) :
    bits BinOp.xor IntKind.i64 ((wrap64 (bits BinOp.xor IntKind.i64 (y : Int) (wrap64 (c.toNat : Int)) * 16777619)).tmod 4294967296)
      (wrap64 (((wrap64 (bits BinOp.xor IntKind.i64 (y : Int) (wrap64 (c.toNat : Int)) * 16777619)).tmod 4294967296).tdiv 32768)) = ((idStep y c : Nat) : Int) := by
  have h1 := mul_i64 (y ^^^ c.toNat) 16777619 (xor_lt32 hy (c_lt c)) (by omega)
  have hb : (y ^^^ c.toNat) * 16777619 % 4294967296 < 4294967296 := Nat.mod_lt _ (by omega)
  have h2 := quo_i64 _ 32768 hb
  rw [w64_nat _ (c_lt c), i64_xor_nat _ _ hy (c_lt c)]
  have h1' : (wrap64 (((y ^^^ c.toNat : Nat) : Int) * 16777619)).tmod 4294967296 = (((y ^^^ c.toNat) * 16777619 % 4294967296 : Nat) : Int) := h1
  have h2' : wrap64 (((((y ^^^ c.toNat) * 16777619 % 4294967296 : Nat) : Int)).tdiv 32768) = (((y ^^^ c.toNat) * 16777619 % 4294967296 / 32768 : Nat) : Int) := h2
  rw [h1', h2', i64_xor_nat _ _ hb (by omega)]
  unfold idStep; rfl
theorem cast_mod (y m : Nat) : (y : Int) * (m : Int) % 4294967296 = ((y * m % 4294967296 : Nat) : Int) := by simp
theorem cast_div (z d : Nat) : (z : Int) / (d : Int) = ((z / d : Nat) : Int) := by simp
theorem fin_i64 (y : Nat) : bits BinOp.xor IntKind.i64 ((y : Int) * 73856093 % 4294967296) ((y : Int) * 73856093 % 4294967296 / 8192) = ((idFin y : Nat) : Int) := by
  have h1 : (y : Int) * 73856093 % 4294967296 = ((y * 73856093 % 4294967296 : Nat) : Int) := cast_mod y 73856093
  have hb : y * 73856093 % 4294967296 < 4294967296 := Nat.mod_lt _ (by omega)
  have h2 : ((y * 73856093 % 4294967296 : Nat) : Int) / 8192 = ((y * 73856093 % 4294967296 / 8192 : Nat) : Int) := cast_div _ 8192
  rw [h1, h2, i64_xor_nat _ _ hb (by omega)]
  unfold idFin; rfl
theorem fin_u32 (y : Nat) : bits BinOp.xor IntKind.u32 ((y : Int) * 73856093 % 4294967296) ((y : Int) * 73856093 % 4294967296 / 8192) = ((idFin y : Nat) : Int) := by
  have h1 : (y : Int) * 73856093 % 4294967296 = ((y * 73856093 % 4294967296 : Nat) : Int) := cast_mod y 73856093
  have hb : y * 73856093 % 4294967296 < 4294967296 := Nat.mod_lt _ (by omega)
  have h2 : ((y * 73856093 % 4294967296 : Nat) : Int) / 8192 = ((y * 73856093 % 4294967296 / 8192 : Nat) : Int) := cast_div _ 8192
  rw [h1, h2, u32_xor_nat _ _ hb (by omega)]
  unfold idFin; rfl
theorem step_u32 (y : Nat) (c : UInt8) (hy : y < 4294967296) :
    bits BinOp.xor IntKind.u32 (bits BinOp.xor IntKind.u32 (y : Int) ((c.toNat : Int) % 4294967296) * 16777619 % 4294967296)
      (bits BinOp.xor IntKind.u32 (y : Int) ((c.toNat : Int) % 4294967296) * 16777619 % 4294967296 / 32768) = ((idStep y c : Nat) : Int) := by
  have h0 : (c.toNat : Int) % 4294967296 = (c.toNat : Int) := by have := c_lt c; omega
  have h1 : ((y ^^^ c.toNat : Nat) : Int) * 16777619 % 4294967296 = (((y ^^^ c.toNat) * 16777619 % 4294967296 : Nat) : Int) := cast_mod (y ^^^ c.toNat) 16777619
  have hb : (y ^^^ c.toNat) * 16777619 % 4294967296 < 4294967296 := Nat.mod_lt _ (by omega)
  have h2 : (((y ^^^ c.toNat) * 16777619 % 4294967296 : Nat) : Int) / 32768 = (((y ^^^ c.toNat) * 16777619 % 4294967296 / 32768 : Nat) : Int) := cast_div _ 32768
  rw [h0, u32_xor_nat _ _ hy (c_lt c), h1, h2, u32_xor_nat _ _ hb (by omega)]
  unfold idStep; rfl
theorem idOf_one (l : List UInt8) (y : Nat) (hy : y = idFold (2166136261 + l.length) l) (h : ((idFin y : Nat) : Int) = 0) : (1 : Int) = ((idOfN l : Nat) : Int) := by
  have : idRaw l = 0 := by unfold idRaw; rw [← hy]; omega
  unfold idOfN; rw [if_pos this]; rfl
theorem idOf_fin (l : List UInt8) (y : Nat) (hy : y = idFold (2166136261 + l.length) l) (h : ¬ ((idFin y : Nat) : Int) = 0) : ((idFin y : Nat) : Int) = ((idOfN l : Nat) : Int) := by
  have e : idRaw l = idFin y := by unfold idRaw; rw [← hy]
  unfold idOfN; rw [if_neg (by rw [e]; omega), e]
end Go.Proofs.Ytgbcgchnnmgmfaa.M
