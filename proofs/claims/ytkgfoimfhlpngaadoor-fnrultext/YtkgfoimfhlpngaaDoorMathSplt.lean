
/-
  strings.Split at a blank, and strconv.Atoi of one digit, in plain words. No condition.
-/
import Derived.Test.YtkgfoimfhlpngaaDoorMathWords
import Derived.Lib.SplitLaws
namespace Go.Proofs.YtkgfoimfhlpngaaDoor.M
open Go.RowKit

theorem spK_sign (b : UInt8) (r : List UInt8) (h : b ≠ 32) (k : Nat) : Lib.splitK [32] 0 k (b :: r) = (b :: (Lib.splitK [32] 0 k r).headD []) :: (Lib.splitK [32] 0 k r).tail := by
  cases k with
  | zero => rfl
  | succ k =>
    have e : Lib.index (b :: r) [32] = if Lib.index r [32] == -1 then -1 else Lib.index r [32] + 1 := by
      conv => lhs; unfold Lib.index
      rw [if_neg (by simpa using fun e : 32 = b => h e.symm)]
    have hge := Lib.index_ge r [32]
    conv => lhs; unfold Lib.splitK
    conv => rhs; unfold Lib.splitK
    rw [e]
    by_cases hi : Lib.index r [32] = -1
    · rw [hi]; rfl
    · have h1 : (Lib.index r [32] == -1) = false := by rw [beq_eq_false_iff_ne]; exact hi
      have h2 : (Lib.index r [32] + 1 == -1) = false := by rw [beq_eq_false_iff_ne]; omega
      have h3 : (Lib.index r [32] + 1).toNat = (Lib.index r [32]).toNat + 1 := by omega
      simp [h1, h2, h3]
theorem spK_wds : ∀ l : List UInt8, Lib.splitK [32] 0 (l.count 32) l = wds l
  | [] => rfl
  | b :: r => by
    by_cases h : b = 32
    · subst h
      rw [List.count_cons_self, wds_blank, ← spK_wds r]
      have e : Lib.index (32 :: r) [32] = 0 := by
        conv => lhs; unfold Lib.index
        rw [if_pos (by simp)]
      conv => lhs; unfold Lib.splitK
      rw [e]
      simp
    · rw [List.count_cons_of_ne h, spK_sign b r h, spK_wds r, wds_sign b r h]
theorem wds_len (l : List UInt8) : (wds l).length = l.count 32 + 1 := by
  induction l with
  | nil => rfl
  | cons b r ih =>
    by_cases h : b = 32
    · subst h; rw [wds_blank, List.count_cons_self, List.length_cons, ih]
    · rw [wds_sign b r h, List.count_cons_of_ne h, List.length_cons, List.length_tail, ih]; omega
theorem cntB (s : ByteArray) : Lib.countB s ⟨#[32]⟩ + 1 = (wds s.data.toList).length := by
  rw [wds_len]
  show Lib.count s.data.toList [32] + 1 = _
  rw [Lib.count_one]
theorem spB_wds (s : ByteArray) : Lib.splitB ⟨#[32]⟩ 0 (Lib.countB s ⟨#[32]⟩) s = (wds s.data.toList).map fun x => ⟨x.toArray⟩ := by
  have h := Lib.splitB_data ⟨#[32]⟩ 0 (Lib.countB s ⟨#[32]⟩) s
  have hc : Lib.countB s ⟨#[32]⟩ = s.data.toList.count 32 := by show Lib.count s.data.toList [32] = _; rw [Lib.count_one]
  rw [hc] at h ⊢
  have h2 : Lib.splitK (ByteArray.mk #[32]).data.toList 0 (s.data.toList.count 32) s.data.toList = wds s.data.toList := spK_wds _
  rw [h2] at h
  rw [← h, List.map_map]
  conv => lhs; rw [← List.map_id (Lib.splitB _ _ _ _)]
  exact List.map_congr_left fun x _ => by simp
end Go.Proofs.YtkgfoimfhlpngaaDoor.M
