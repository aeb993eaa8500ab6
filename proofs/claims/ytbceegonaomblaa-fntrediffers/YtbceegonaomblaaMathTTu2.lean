
/-
  What is found behind edits: what the last edit of a path says, else what was there. No condition.
-/
import Derived.Test.YtbceegonaomblaaMathTTur
namespace Go.Proofs.Ytbceegonaomblaa.W
open Go.Proofs.Ytbceegonaomblaa.M

/-- the last edit of a path -/
def lastE : List (Bool × ByteArray × ByteArray) → ByteArray → Option (Bool × ByteArray)
  | [], _ => none
  | e :: es, q => match lastE es q with
    | some r => some r
    | none => if e.2.1 = q then some (e.1, e.2.2) else none
theorem lastE_cons (e : Bool × ByteArray × ByteArray) (es : List (Bool × ByteArray × ByteArray)) (q : ByteArray) : lastE (e :: es) q = match lastE es q with | some r => some r | none => if e.2.1 = q then some (e.1, e.2.2) else none := rfl
theorem lastE_none (E : List (Bool × ByteArray × ByteArray)) (q : ByteArray) : lastE E q = none ↔ ∀ e ∈ E, e.2.1 ≠ q := by
  induction E with
  | nil => simp [lastE]
  | cons x l ih =>
    unfold lastE
    cases h : lastE l q with
    | some r =>
      have h2 : ¬ ∀ e ∈ l, e.2.1 ≠ q := fun h3 => by rw [ih.2 h3] at h; cases h
      simp only [List.mem_cons, forall_eq_or_imp]
      constructor
      · intro h3; cases h3
      · intro h3; exact absurd h3.2 h2
    | none =>
      have h2 := ih.1 h
      by_cases hx : x.2.1 = q
      · simp [hx]
      · simp only [if_neg hx, List.mem_cons, forall_eq_or_imp, true_iff]
        exact ⟨hx, h2⟩
theorem turnAll_find (L K : List TF) (E : List (Bool × ByteArray × ByteArray)) (h : RiseF L) (ht : turnAll L E = some K) : ∀ q, findF K q = match lastE E q with
    | none => findF L q
    | some r => if r.1 then none else some r.2 := by
  induction E generalizing L with
  | nil => cases ht; intro q; rfl
  | cons e es ih =>
    unfold turnAll at ht
    split at ht
    · cases ht
    · rename_i M hM
      obtain ⟨h1, h2⟩ := turnF_ok L M _ _ _ h hM
      intro q
      rw [ih M h1 ht q, lastE_cons]
      cases hl : lastE es q with
      | some r => rfl
      | none =>
        rw [h2 q]
        by_cases hq : e.2.1 = q
        · rw [if_pos hq, if_pos hq.symm]
        · rw [if_neg hq, if_neg (fun e' => hq e'.symm)]
/-- an edit that takes out has no bytes -/
theorem turnAll_gone (L K : List TF) (E : List (Bool × ByteArray × ByteArray)) (ht : turnAll L E = some K) : ∀ e ∈ E, e.1 = true → e.2.2 = ByteArray.empty := by
  induction E generalizing L with
  | nil => intro e he; cases he
  | cons x es ih =>
    unfold turnAll at ht
    split at ht
    · cases ht
    · rename_i M hM
      intro e he hg
      rcases List.mem_cons.1 he with rfl | he
      · unfold turnF at hM
        rw [if_pos hg] at hM
        split at hM
        · cases hM
        · rename_i h; exact Decidable.byContradiction fun h2 => h (.inr h2)
      · exact ih M ht e he hg
theorem lastE_at (E : List (Bool × ByteArray × ByteArray)) (i : Nat) (h : i < E.length) (hl : ∀ k (h : k < E.length), i < k → (E[k]).2.1 ≠ (E[i]).2.1) : lastE E (E[i]).2.1 = some ((E[i]).1, (E[i]).2.2) := by
  induction E generalizing i with
  | nil => simp at h
  | cons x l ih =>
    cases i with
    | zero =>
      simp only [List.getElem_cons_zero] at hl ⊢
      have h1 : lastE l x.2.1 = none := (lastE_none ..).2 fun e he => by
        obtain ⟨j, hj, rfl⟩ := List.getElem_of_mem he
        exact hl (j + 1) (by simpa using hj) (by omega)
      unfold lastE
      rw [h1]; simp
    | succ i =>
      simp only [List.getElem_cons_succ] at hl ⊢
      have h1 := ih i (by simpa using h) (fun k hk hik => hl (k + 1) (by simpa using hk) (by omega))
      unfold lastE
      rw [h1]
theorem findF_at (L : List TF) (j : Nat) (h : j < L.length) (hr : RiseF L) : findF L (L[j]).pa = some (L[j]).by_ := by
  induction L generalizing j with
  | nil => simp at h
  | cons y l ih =>
    obtain ⟨h1, h2⟩ := List.pairwise_cons.1 hr
    cases j with
    | zero => simp [findF]
    | succ j =>
      have h3 := h1 (l[j]'(by simpa using h)) (List.getElem_mem _)
      simp only [List.getElem_cons_succ]
      unfold findF
      rw [if_neg (fun e => by rw [e] at h3; exact List.lt_irrefl _ h3)]
      exact ih j (by simpa using h) h2
end Go.Proofs.Ytbceegonaomblaa.W
