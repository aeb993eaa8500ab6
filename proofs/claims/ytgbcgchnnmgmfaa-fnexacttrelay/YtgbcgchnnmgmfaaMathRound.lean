
/-
  Plain mathematics: an id's digits there and back. No condition but that the number is an id, or that the digits are read.
-/
import Derived.Test.YtgbcgchnnmgmfaaMathRead
import Derived.Lib.Strings
namespace Go.Proofs.Ytgbcgchnnmgmfaa.M
open Go.RowKit

theorem hexV_hexD : ∀ d : Fin 16, hexV (hexD d.val) = (d.val : Int) := by decide
theorem hexD_hexV (c : UInt8) (h : ¬ hexV c < 0) : hexD (hexV c).toNat = c := by
  have key : ∀ n : Fin 256, ¬ hexV (UInt8.ofNat n.val) < 0 → hexD (hexV (UInt8.ofNat n.val)).toNat = UInt8.ofNat n.val := by decide +kernel
  have := key ⟨c.toNat, c.toNat_lt⟩
  simp only [UInt8.ofNat_toNat] at this
  exact this h
theorem hexV_lt (c : UInt8) : (hexV c).toNat < 16 := by have := hexV_bd c; omega
theorem rdF_digs (n : Nat) : ∀ (k acc : Nat), rdF acc (digs k n) = some (acc * 16 ^ k + n % 16 ^ k) := by
  intro k
  induction k with
  | zero => intro acc; simp [digs, rdF, Nat.mod_one]
  | succ k ih =>
    intro acc
    have hd : n / 16 ^ k % 16 < 16 := Nat.mod_lt _ (by omega)
    have hv : hexV (hexD (n / 16 ^ k % 16)) = ((n / 16 ^ k % 16 : Nat) : Int) := hexV_hexD ⟨_, hd⟩
    rw [digs, rdF_some _ _ _ (by rw [hv]; omega), hv, ih]
    congr 1
    rw [Nat.mod_pow_succ, Nat.pow_succ]
    have : ((n / 16 ^ k % 16 : Nat) : Int).toNat = n / 16 ^ k % 16 := by omega
    rw [this, Nat.add_mul, Nat.mul_assoc, Nat.mul_comm 16 (16 ^ k), Nat.mul_comm (n / 16 ^ k % 16) (16 ^ k)]
    omega
theorem rdN_hex (n : Nat) (h2 : n ≤ 4294967295) : rdN (hexL n) = n := by
  have h := rdF_digs n 8 0
  have : (16 : Nat) ^ 8 = 4294967296 := by decide
  rw [this] at h
  rw [rdN_yes (hexL n) (0 * 4294967296 + n % 4294967296) (hexL_length n) h]
  omega
theorem rdF_val (l : List UInt8) : ∀ (acc m : Nat), rdF acc l = some m → m / 16 ^ l.length = acc := by
  induction l with
  | nil => intro acc m h; simp [rdF] at h; subst h; simp
  | cons c r ih =>
    intro acc m h
    by_cases hc : hexV c < 0
    · rw [rdF_none _ _ _ hc] at h; cases h
    · rw [rdF_some _ _ _ hc] at h
      have := ih _ _ h
      have hl := hexV_lt c
      rw [List.length_cons, Nat.pow_succ, ← Nat.div_div_eq_div_mul, this]
      omega
theorem digs_rdF (l : List UInt8) : ∀ (acc m : Nat), rdF acc l = some m → digs l.length m = l := by
  induction l with
  | nil => intro acc m _; rfl
  | cons c r ih =>
    intro acc m h
    by_cases hc : hexV c < 0
    · rw [rdF_none _ _ _ hc] at h; cases h
    · rw [rdF_some _ _ _ hc] at h
      have h1 := rdF_val r _ _ h
      have h2 := ih _ _ h
      have hl := hexV_lt c
      rw [List.length_cons, digs, h1, h2]
      have : (acc * 16 + (hexV c).toNat) % 16 = (hexV c).toNat := by omega
      rw [this, hexD_hexV c hc]
theorem rdN_lt (l : List UInt8) : rdN l ≤ 4294967295 := by
  by_cases h8 : l.length = 8
  · cases e : rdF 0 l with
    | none => rw [rdN_no l h8 e]; omega
    | some m =>
      rw [rdN_yes l m h8 e]
      have := rdF_val l 0 m e
      rw [h8, show (16 : Nat) ^ 8 = 4294967296 by decide] at this
      omega
  · rw [rdN_short l h8]; omega
theorem hex_rdN (l : List UInt8) (h : rdB l = true) : hexL (rdN l) = l := by
  unfold rdB at h
  have hpos : 0 < rdN l := of_decide_eq_true h
  by_cases h8 : l.length = 8
  · cases e : rdF 0 l with
    | none => rw [rdN_no l h8 e] at hpos; omega
    | some m =>
      rw [rdN_yes l m h8 e]
      have := digs_rdF l 0 m e
      rw [h8] at this; exact this
  · rw [rdN_short l h8] at hpos; omega
theorem idHex_rd (t : ByteArray) (h : rdB t.data.toList = true) : idHexB ((rdN t.data.toList : Nat) : Int) = t := by
  have hpos : 0 < rdN t.data.toList := of_decide_eq_true h
  rw [idHexB_in _ hpos (rdN_lt _)]
  unfold hexB; rw [hex_rdN _ h]
theorem rd_idHex (n : Nat) (h1 : 1 ≤ n) (h2 : n ≤ 4294967295) : rdN (idHexB (n : Int)).data.toList = n := by
  rw [idHexB_in n h1 h2]; exact rdN_hex n h2
theorem rdB_idHex (n : Nat) (h1 : 1 ≤ n) (h2 : n ≤ 4294967295) : rdB (idHexB (n : Int)).data.toList = true := by
  unfold rdB; rw [rd_idHex n h1 h2]; exact decide_eq_true h1
theorem idHex_ne (n : Nat) (h1 : 1 ≤ n) (h2 : n ≤ 4294967295) : (idHexB (n : Int)).toList.isEmpty = false := by
  rw [idHexB_in n h1 h2, Lib.toList_data]
  show (hexL n).isEmpty = false
  have := hexL_length n
  cases e : hexL n
  · rw [e] at this; cases this
  · rfl
theorem idHex_255 : idHexB 255 = ⟨#[48, 48, 48, 48, 48, 48, 102, 102]⟩ := by decide
end Go.Proofs.Ytgbcgchnnmgmfaa.M
