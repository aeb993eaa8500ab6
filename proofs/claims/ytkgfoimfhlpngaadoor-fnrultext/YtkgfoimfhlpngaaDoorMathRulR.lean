
/-
  Plain mathematics of a rule's text and its four words. No condition.
-/
import Derived.Test.YtkgfoimfhlpngaaDoorWalkRulX
import Derived.Test.YtkgfoimfhlpngaaDoorMathWords
namespace Go.Proofs.YtkgfoimfhlpngaaDoor.W
open Go.RowKit Go.Proofs.YtkgfoimfhlpngaaDoor.M

/-- a word, a dash read as none -/
def noneB (s : ByteArray) : ByteArray := if s.data.toList = [45] then ⟨#[]⟩ else s
theorem noneB_size (s : ByteArray) : (noneB s).size ≤ s.size := by
  unfold noneB; split
  · exact Nat.zero_le _
  · exact Nat.le_refl _
def writeL : List UInt8 := [119, 114, 105, 116, 101]
/-- the rule that four words may be of -/
def candB (n : Int) (b c d : List UInt8) : RR := ⟨n, noneB ⟨b.toArray⟩, noneB ⟨c.toArray⟩, decide (d = writeL)⟩
theorem rulB_parts (x : RR) (h : rulB x = true) : (∃ n : Nat, n ≤ 4 ∧ x.user = n) ∧ (x.ref.data.toList = [] ∨ namB x.ref.data.toList = true) ∧ pthB x.path.data.toList = true := by
  unfold rulB at h
  rw [Bool.and_eq_true, Bool.and_eq_true, Bool.or_eq_true, decide_eq_true_eq, decide_eq_true_eq] at h
  obtain ⟨⟨h1, h2⟩, h3, h4⟩ := h
  exact ⟨⟨x.user.toNat, by omega, by omega⟩, h3, h4⟩
theorem ref_in (x : RR) (h : rulB x = true) : ∀ c ∈ x.ref.data.toList, c ≠ 32 ∧ c ≠ 45 := fun c hc => by
  rcases (rulB_parts x h).2.1 with e | e
  · rw [e] at hc; cases hc
  · exact nam_in _ e c hc
theorem path_in (x : RR) (h : rulB x = true) : ∀ c ∈ x.path.data.toList, c ≠ 32 ∧ c ≠ 45 := pth_in _ (rulB_parts x h).2.2
theorem dashB_list (s : ByteArray) : (dashB s).data.toList = dshL s.data.toList := by
  unfold dashB dshL; split <;> rfl
theorem noneB_mk (l : List UInt8) : noneB ⟨l.toArray⟩ = ⟨(nonL l).toArray⟩ := by
  unfold noneB nonL
  by_cases h : l = [45]
  · subst h; rfl
  · rw [if_neg (by simpa using h), if_neg h]
theorem textL (x : RR) (h : rulB x = true) : (textB x).data.toList = [UInt8.ofNat (48 + x.user.toNat)] ++ 32 :: (dshL x.ref.data.toList ++ 32 :: (dshL x.path.data.toList ++ 32 :: (wordB x.write).data.toList)) := by
  unfold textB
  rw [if_pos h]
  simp [digB, spB, dashB_list]
theorem wordB_in (b : Bool) : ∀ c ∈ (wordB b).data.toList, c ≠ 32 := by
  cases b <;> decide
theorem dig_in (n : Nat) (hn : n ≤ 4) : ∀ c ∈ [UInt8.ofNat (48 + n)], c ≠ 32 := by
  have : n = 0 ∨ n = 1 ∨ n = 2 ∨ n = 3 ∨ n = 4 := by omega
  rcases this with rfl | rfl | rfl | rfl | rfl <;> decide
theorem text_wds (x : RR) (h : rulB x = true) : wds (textB x).data.toList = [[UInt8.ofNat (48 + x.user.toNat)], dshL x.ref.data.toList, dshL x.path.data.toList, (wordB x.write).data.toList] := by
  rw [textL x h]
  obtain ⟨n, hn, hu⟩ := (rulB_parts x h).1
  exact wds_four _ _ _ _ (dig_in _ (by omega)) (dsh_in _ (ref_in x h)) (dsh_in _ (path_in x h)) (wordB_in _)
theorem word_write (b : Bool) : decide ((wordB b).data.toList = writeL) = b := by cases b <;> decide
theorem none_dash (s : ByteArray) (h : ∀ c ∈ s.data.toList, c ≠ 32 ∧ c ≠ 45) : noneB ⟨(dshL s.data.toList).toArray⟩ = s := by
  rw [noneB_mk, non_dsh _ h]
theorem cand_text (x : RR) (h : rulB x = true) : candB x.user (dshL x.ref.data.toList) (dshL x.path.data.toList) (wordB x.write).data.toList = x := by
  unfold candB
  rw [none_dash _ (ref_in x h), none_dash _ (path_in x h), word_write]
theorem dash_le (l : List UInt8) : (dshL l).length ≤ l.length + 1 := by
  unfold dshL; split
  · simp
  · omega
theorem text_size (x : RR) (h : rulB x = true) : (textB x).size ≤ 40 ∧ 7 ≤ (textB x).size := by
  have e : (textB x).size = (textB x).data.toList.length := by rw [Array.length_toList]; rfl
  rw [e, textL x h]
  obtain ⟨_, h2, h3⟩ := rulB_parts x h
  have l1 := dash_le x.ref.data.toList
  have l2 := dash_le x.path.data.toList
  have l3 := pth_le _ h3
  have l4 : x.ref.data.toList.length ≤ 3 := by
    rcases h2 with e | e
    · rw [e]; simp
    · exact namB_le _ e
  have l5 : (wordB x.write).data.toList.length ≤ 5 ∧ 4 ≤ (wordB x.write).data.toList.length := by cases x.write <;> decide
  simp only [List.length_append, List.length_cons, List.length_nil]
  omega
/-- four words, of which no rule is: what would be read has another text -/
theorem cand_other (s : ByteArray) (hno : ∀ x : RR, rulB x = true → textB x ≠ s) (hs : s.size ≠ 0) (x : RR) : textB x ≠ s := by
  cases h : rulB x
  · unfold textB
    rw [h, if_neg (by decide)]
    rintro rfl
    exact hs rfl
  · exact hno x h
theorem wds_four_pos (s : ByteArray) (h : (wds s.data.toList).length = 4) : s.size ≠ 0 := by
  intro e
  have : s.data.toList = [] := by
    have : s.data.toList.length = 0 := by rw [Array.length_toList]; exact e
    exact List.length_eq_zero_iff.1 this
  rw [this] at h
  cases h
theorem textB_bad (x : RR) (h : rulB x = false) : textB x = ⟨#[]⟩ := by unfold textB; rw [h]; rfl
theorem wds_mem (l : List UInt8) : ∀ x ∈ wds l, x.length ≤ l.length := by
  induction l with
  | nil => intro x hx; rw [show wds [] = [[]] from rfl, List.mem_singleton] at hx; subst hx; exact Nat.le_refl _
  | cons c r ih =>
    intro x hx
    by_cases h : c = 32
    · subst h
      rw [wds_blank] at hx
      rcases List.mem_cons.1 hx with rfl | h
      · exact Nat.zero_le _
      · have := ih x h; simp; omega
    · rw [wds_sign c r h] at hx
      cases hw : wds r with
      | nil => exact absurd hw (wds_ne r)
      | cons y t =>
        rw [hw] at hx ih
        rcases List.mem_cons.1 hx with rfl | h
        · have := ih y List.mem_cons_self; simp at this ⊢; omega
        · have := ih x (List.mem_cons_of_mem _ h); simp; omega
end Go.Proofs.YtkgfoimfhlpngaaDoor.W
