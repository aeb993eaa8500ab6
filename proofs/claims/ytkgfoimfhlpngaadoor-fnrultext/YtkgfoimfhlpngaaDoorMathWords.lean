
/-
  Plain mathematics of words between blanks. No condition.
-/
import Derived.Test.YtkgfoimfhlpngaaDoorMathPth
namespace Go.Proofs.YtkgfoimfhlpngaaDoor.M
open Go.RowKit

/-- the words of a text, cut at its blanks -/
def wds : List UInt8 → List (List UInt8)
  | [] => [[]]
  | c :: r => if c = 32 then [] :: wds r else (c :: (wds r).headD []) :: (wds r).tail
theorem wds_ne (l : List UInt8) : wds l ≠ [] := by
  cases l with
  | nil => simp [wds]
  | cons c r => unfold wds; split <;> simp
theorem wds_blank (r : List UInt8) : wds (32 :: r) = [] :: wds r := by
  conv => lhs; unfold wds
  rw [if_pos rfl]
theorem wds_sign (c : UInt8) (r : List UInt8) (h : c ≠ 32) : wds (c :: r) = (c :: (wds r).headD []) :: (wds r).tail := by
  conv => lhs; unfold wds
  rw [if_neg h]
theorem wds_app (b : List UInt8) : ∀ a : List UInt8, (∀ c ∈ a, c ≠ 32) → wds (a ++ 32 :: b) = a :: wds b
  | [], _ => wds_blank b
  | c :: a, h => by
    rw [List.cons_append, wds_sign c _ (h c List.mem_cons_self), wds_app b a (fun x hx => h x (List.mem_cons_of_mem _ hx))]
    rfl
theorem wds_one : ∀ a : List UInt8, (∀ c ∈ a, c ≠ 32) → wds a = [a]
  | [], _ => rfl
  | c :: a, h => by
    rw [wds_sign c _ (h c List.mem_cons_self), wds_one a (fun x hx => h x (List.mem_cons_of_mem _ hx))]
    rfl
theorem wds_four (a b c d : List UInt8) (ha : ∀ x ∈ a, x ≠ 32) (hb : ∀ x ∈ b, x ≠ 32) (hc : ∀ x ∈ c, x ≠ 32) (hd : ∀ x ∈ d, x ≠ 32) :
    wds (a ++ 32 :: (b ++ 32 :: (c ++ 32 :: d))) = [a, b, c, d] := by
  rw [wds_app _ a ha, wds_app _ b hb, wds_app _ c hc, wds_one d hd]
/-- one sign more: a blank begins a word, any other goes on with the last one -/
theorem wds_snoc_blank (l : List UInt8) : wds (l ++ [32]) = wds l ++ [[]] := by
  induction l with
  | nil => rfl
  | cons c r ih =>
    by_cases h : c = 32
    · subst h; rw [List.cons_append, wds_blank, wds_blank, ih]; rfl
    · rw [List.cons_append, wds_sign c _ h, wds_sign c _ h, ih]
      cases hw : wds r with
      | nil => exact absurd hw (wds_ne r)
      | cons x t => rfl
theorem wds_snoc_sign (l : List UInt8) (c : UInt8) (h : c ≠ 32) : ∃ init last, wds l = init ++ [last] ∧ wds (l ++ [c]) = init ++ [last ++ [c]] := by
  induction l with
  | nil => exact ⟨[], [], rfl, by rw [List.nil_append, wds_sign c _ h]; rfl⟩
  | cons d r ih =>
    obtain ⟨init, last, h1, h2⟩ := ih
    by_cases hd : d = 32
    · subst hd
      exact ⟨[] :: init, last, by rw [wds_blank, h1]; rfl, by rw [List.cons_append, wds_blank, h2]; rfl⟩
    · rw [List.cons_append, wds_sign d _ hd, wds_sign d _ hd, h1, h2]
      cases init with
      | nil => exact ⟨[], d :: last, rfl, rfl⟩
      | cons x t => exact ⟨(d :: x) :: t, last, rfl, rfl⟩
/-- the signs of a path, or of a name: no blank -/
theorem spl_in (l : List UInt8) : ∀ c ∈ l, c = 47 ∨ ∃ n ∈ spl l, c ∈ n := by
  induction l with
  | nil => intro c hc; cases hc
  | cons c0 r ih =>
    intro c hc
    unfold spl
    by_cases h0 : c0 = 47
    · rw [if_pos h0]
      rcases List.mem_cons.1 hc with h | h
      · exact .inl (h.trans h0)
      · rcases ih c h with h | ⟨n, hn, hcn⟩
        · exact .inl h
        · exact .inr ⟨n, List.mem_cons_of_mem _ hn, hcn⟩
    · rw [if_neg h0]
      rcases List.mem_cons.1 hc with h | h
      · exact .inr ⟨_, List.mem_cons_self, by rw [h]; exact List.mem_cons_self⟩
      · rcases ih c h with h | ⟨n, hn, hcn⟩
        · exact .inl h
        · cases hs : spl r with
          | nil => rw [hs] at hn; cases hn
          | cons a t =>
            rw [hs] at hn
            rcases List.mem_cons.1 hn with e | e
            · exact .inr ⟨_, List.mem_cons_self, by subst e; exact List.mem_cons_of_mem _ hcn⟩
            · exact .inr ⟨n, List.mem_cons_of_mem _ e, hcn⟩
theorem low_in (c : UInt8) (h : low c = true) : c ≠ 32 ∧ c ≠ 45 := by
  constructor
  · rintro rfl; revert h; decide
  · rintro rfl; revert h; decide
theorem nam_in (l : List UInt8) (h : namB l = true) : ∀ c ∈ l, c ≠ 32 ∧ c ≠ 45 := fun c hc => by
  unfold namB at h
  rw [Bool.and_eq_true, Bool.and_eq_true, List.all_eq_true] at h
  exact low_in c (h.2.2 c hc)
theorem pth_in (l : List UInt8) (h : pthB l = true) : ∀ c ∈ l, c ≠ 32 ∧ c ≠ 45 := fun c hc => by
  have hl : l ≠ [] := by rintro rfl; cases hc
  unfold pthB nms at h
  rw [if_neg hl, Bool.and_eq_true, List.all_eq_true] at h
  rcases spl_in l c hc with rfl | ⟨n, hn, hcn⟩
  · decide
  · exact nam_in n (h.2 n hn) c hcn
/-- a word, a dash for none, and back -/
def dshL (l : List UInt8) : List UInt8 := if l = [] then [45] else l
def nonL (l : List UInt8) : List UInt8 := if l = [45] then [] else l
theorem non_dsh (l : List UInt8) (h : ∀ c ∈ l, c ≠ 32 ∧ c ≠ 45) : nonL (dshL l) = l := by
  unfold nonL dshL
  by_cases h0 : l = []
  · rw [if_pos h0, if_pos rfl, h0]
  · rw [if_neg h0, if_neg (fun e => (h 45 (by rw [e]; exact List.mem_cons_self)).2 rfl)]
theorem dsh_in (l : List UInt8) (h : ∀ c ∈ l, c ≠ 32 ∧ c ≠ 45) : ∀ c ∈ dshL l, c ≠ 32 := fun c hc => by
  unfold dshL at hc
  split at hc
  · rw [List.mem_singleton] at hc; subst hc; decide
  · exact (h c hc).1
end Go.Proofs.YtkgfoimfhlpngaaDoor.M
