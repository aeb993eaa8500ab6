
/-
  Texts that rise, each once: what the library's sorting and compacting makes of a list is what putting each in its place makes of it. No condition.
-/
import Derived.Lib.SlicesCompact
import Derived.Sort.Walk0
import Derived.Lib.RowBridge
import Derived.Test.YtgbcgchnnmgmfaaBase
namespace Go.Proofs.Ytgbcgchnnmgmfaa.M

/-- they rise -/
def Rises (L : List (List UInt8)) : Prop := L.Pairwise (· < ·)
/-- a text is put ahead of the first one that is greater -/
def before : List (List UInt8) → List UInt8 → List (List UInt8)
  | [], s => [s]
  | x :: l, s => if s < x then s :: x :: l else x :: before l s
/-- a text is put among others, if it is not there -/
def nameB (L : List (List UInt8)) (s : List UInt8) : List (List UInt8) := if s ∈ L then L else before L s
def namesB (l : List (List UInt8)) : List (List UInt8) := l.foldl nameB []

theorem mem_before (L : List (List UInt8)) (s y : List UInt8) : y ∈ before L s ↔ y ∈ L ∨ y = s := by
  induction L with
  | nil => simp [before]
  | cons x l ih =>
    unfold before
    split
    · simp only [List.mem_cons]
      constructor
      · rintro (h | h | h)
        · exact .inr h
        · exact .inl (.inl h)
        · exact .inl (.inr h)
      · rintro ((h | h) | h)
        · exact .inr (.inl h)
        · exact .inr (.inr h)
        · exact .inl h
    · simp only [List.mem_cons, ih]
      constructor
      · rintro (h | h | h)
        · exact .inl (.inl h)
        · exact .inl (.inr h)
        · exact .inr h
      · rintro ((h | h) | h)
        · exact .inl h
        · exact .inr (.inl h)
        · exact .inr (.inr h)
theorem tri (a b : List UInt8) : a < b ∨ a = b ∨ b < a := by
  by_cases h : a < b
  · exact .inl h
  by_cases h' : b < a
  · exact .inr (.inr h')
  · exact .inr (.inl (List.le_antisymm (List.not_lt.1 h') (List.not_lt.1 h)))
theorem rises_before (L : List (List UInt8)) (s : List UInt8) (h : Rises L) (hs : s ∉ L) : Rises (before L s) := by
  induction L with
  | nil => simp [before, Rises]
  | cons x l ih =>
    obtain ⟨h1, h2⟩ := List.pairwise_cons.1 h
    unfold before
    split
    · rename_i hlt
      refine List.pairwise_cons.2 ⟨fun y hy => ?_, h⟩
      rcases List.mem_cons.1 hy with rfl | hy
      · exact hlt
      · exact List.lt_trans hlt (h1 y hy)
    · rename_i hlt
      refine List.pairwise_cons.2 ⟨fun y hy => ?_, ih h2 (fun hm => hs (List.mem_cons_of_mem _ hm))⟩
      rcases (mem_before l s y).1 hy with hy | rfl
      · exact h1 y hy
      · rcases tri x y with h3 | rfl | h3
        · exact h3
        · exact absurd (List.mem_cons_self ..) hs
        · exact absurd h3 hlt
theorem mem_nameB (L : List (List UInt8)) (s y : List UInt8) : y ∈ nameB L s ↔ y ∈ L ∨ y = s := by
  unfold nameB
  split
  · rename_i h
    constructor
    · exact .inl
    · rintro (h' | rfl)
      · exact h'
      · exact h
  · exact mem_before L s y
theorem rises_nameB (L : List (List UInt8)) (s : List UInt8) (h : Rises L) : Rises (nameB L s) := by
  unfold nameB
  split
  · exact h
  · exact rises_before L s h (by assumption)
theorem foldl_nameB (l : List (List UInt8)) : ∀ L, Rises L → Rises (l.foldl nameB L) ∧ ∀ y, y ∈ l.foldl nameB L ↔ y ∈ L ∨ y ∈ l := by
  induction l with
  | nil => intro L h; exact ⟨h, fun y => by simp⟩
  | cons s l ih =>
    intro L h
    obtain ⟨h1, h2⟩ := ih (nameB L s) (rises_nameB L s h)
    refine ⟨h1, fun y => ?_⟩
    rw [List.foldl_cons, h2, mem_nameB, List.mem_cons]
    constructor
    · rintro ((h | h) | h)
      · exact .inl h
      · exact .inr (.inl h)
      · exact .inr (.inr h)
    · rintro (h | h | h)
      · exact .inl (.inl h)
      · exact .inl (.inr h)
      · exact .inr h
theorem rises_namesB (l : List (List UInt8)) : Rises (namesB l) := (foldl_nameB l [] List.Pairwise.nil).1
theorem mem_namesB (l : List (List UInt8)) (y : List UInt8) : y ∈ namesB l ↔ y ∈ l := by
  have := (foldl_nameB l [] List.Pairwise.nil).2 y
  simpa [namesB] using this
theorem namesB_snoc (l : List (List UInt8)) (s : List UInt8) : namesB (l ++ [s]) = nameB (namesB l) s := by simp [namesB]

/-- lists that rise and have the same are one -/
theorem rises_uniq : ∀ a b : List (List UInt8), Rises a → Rises b → (∀ x, x ∈ a ↔ x ∈ b) → a = b := by
  intro a
  induction a with
  | nil =>
    intro b _ _ h
    cases b with
    | nil => rfl
    | cons y b => exact absurd ((h y).2 (List.mem_cons_self ..)) (by simp)
  | cons x a ih =>
    intro b ha hb h
    cases b with
    | nil => exact absurd ((h x).1 (List.mem_cons_self ..)) (by simp)
    | cons y b =>
      obtain ⟨a1, a2⟩ := List.pairwise_cons.1 ha
      obtain ⟨b1, b2⟩ := List.pairwise_cons.1 hb
      have e : x = y := by
        rcases List.mem_cons.1 ((h x).1 (List.mem_cons_self ..)) with e | hx
        · exact e
        · rcases List.mem_cons.1 ((h y).2 (List.mem_cons_self ..)) with e | hy
          · exact e.symm
          · exact absurd (List.lt_trans (a1 y hy) (b1 x hx)) (List.lt_irrefl x)
      subst e
      congr 1
      refine ih b a2 b2 (fun z => ?_)
      constructor
      · intro hz
        rcases List.mem_cons.1 ((h z).1 (List.mem_cons_of_mem _ hz)) with rfl | h'
        · exact absurd (a1 z hz) (List.lt_irrefl z)
        · exact h'
      · intro hz
        rcases List.mem_cons.1 ((h z).2 (List.mem_cons_of_mem _ hz)) with rfl | h'
        · exact absurd (b1 z hz) (List.lt_irrefl z)
        · exact h'

/-- what compacting leaves of a list that does not fall -/
theorem compact_rises (zs : List (List UInt8)) (h : zs.Pairwise (· ≤ ·)) : Rises (Lib.compact zs) ∧ ∀ x, x ∈ Lib.compact zs ↔ x ∈ zs := by
  have key : ∀ m, m ≤ zs.length → Rises (Lib.compactUpTo zs.toArray m) ∧ (∀ x, x ∈ Lib.compactUpTo zs.toArray m ↔ ∃ j, j < m ∧ zs[j]? = some x) := by
    intro m
    induction m with
    | zero => intro _; exact ⟨by simp [Lib.compactUpTo, Rises], fun x => by simp [Lib.compactUpTo]⟩
    | succ m ih =>
      intro hm
      obtain ⟨h1, h2⟩ := ih (by omega)
      have hml : m < zs.length := by omega
      have em : (zs.toArray)[m]! = zs[m] := by simp [getElem!_pos, hml]
      have hmem : ∀ x, (∃ j, j < m + 1 ∧ zs[j]? = some x) ↔ (∃ j, j < m ∧ zs[j]? = some x) ∨ x = zs[m] := by
        intro x
        constructor
        · rintro ⟨j, hj, e⟩
          by_cases hjm : j < m
          · exact .inl ⟨j, hjm, e⟩
          · obtain rfl : j = m := by omega
            rw [List.getElem?_eq_getElem hml] at e
            exact .inr (Option.some.inj e).symm
        · rintro (⟨j, hj, e⟩ | rfl)
          · exact ⟨j, by omega, e⟩
          · exact ⟨m, by omega, List.getElem?_eq_getElem hml⟩
      rw [Lib.compactUpTo_succ]
      by_cases hm0 : m = 0
      · subst hm0
        have hk : Lib.keeps zs.toArray 0 = true := by simp [Lib.keeps]
        rw [if_pos hk, em]
        have e0 : Lib.compactUpTo zs.toArray 0 = [] := by simp [Lib.compactUpTo]
        rw [e0]
        refine ⟨by simp [Rises], fun x => ?_⟩
        rw [hmem]
        simp
      · have hpl : m - 1 < zs.length := by omega
        have ep : (zs.toArray)[m - 1]! = zs[m - 1] := by simp [getElem!_pos, hpl]
        have hle : zs[m - 1] ≤ zs[m] := List.pairwise_iff_getElem.1 h (m - 1) m hpl hml (by omega)
        have hall : ∀ x, x ∈ Lib.compactUpTo zs.toArray m → x ≤ zs[m - 1] := by
          intro x hx
          obtain ⟨j, hj, e⟩ := (h2 x).1 hx
          have hjl : j < zs.length := by omega
          rw [List.getElem?_eq_getElem hjl] at e
          obtain rfl := Option.some.inj e
          by_cases hj1 : j = m - 1
          · subst hj1; exact List.le_refl _
          · exact List.pairwise_iff_getElem.1 h j (m - 1) hjl hpl (by omega)
        by_cases he : zs[m] = zs[m - 1]
        · have hk : Lib.keeps zs.toArray m = false := Lib.keeps_neg (by omega) (by rw [em, ep, he])
          rw [hk]
          simp only [Bool.false_eq_true, if_false, List.append_nil]
          refine ⟨h1, fun x => ?_⟩
          rw [hmem, h2]
          constructor
          · exact .inl
          · rintro (h' | rfl)
            · exact h'
            · exact ⟨m - 1, by omega, by rw [he]; exact List.getElem?_eq_getElem hpl⟩
        · have hk : Lib.keeps zs.toArray m = true := Lib.keeps_pos (by rw [em, ep]; exact he)
          rw [if_pos hk, em]
          have hlt : zs[m - 1] < zs[m] := by
            rcases tri zs[m - 1] zs[m] with h' | h' | h'
            · exact h'
            · exact absurd h'.symm he
            · exact absurd h' (List.not_lt.2 hle)
          refine ⟨List.pairwise_append.2 ⟨h1, by simp, fun x hx y hy => ?_⟩, fun x => ?_⟩
          · obtain rfl : y = zs[m] := by simpa using hy
            rcases tri x zs[m - 1] with h' | rfl | h'
            · exact List.lt_trans h' hlt
            · exact hlt
            · exact absurd h' (List.not_lt.2 (hall x hx))
          · rw [hmem, List.mem_append, h2]
            simp
  obtain ⟨k1, k2⟩ := key zs.length (Nat.le_refl _)
  refine ⟨k1, fun x => ?_⟩
  rw [show Lib.compact zs = Lib.compactUpTo zs.toArray zs.length from rfl, k2]
  constructor
  · rintro ⟨j, _, e⟩; exact List.mem_of_getElem? e
  · intro hx
    obtain ⟨j, hj, e⟩ := List.getElem_of_mem hx
    exact ⟨j, hj, by rw [← e]; exact List.getElem?_eq_getElem hj⟩
/-- sorted and compacted, a list is what putting each text in its place makes of it -/
theorem sortCompact (l : List (List UInt8)) : Lib.compact (l.mergeSort fun x y => decide (x ≤ y)) = namesB l := by
  have hs : (l.mergeSort fun x y => decide (x ≤ y)).Pairwise (· ≤ ·) := by
    have := List.pairwise_mergeSort (le := fun x y : List UInt8 => decide (x ≤ y)) (fun a b c h1 h2 => by simp only [decide_eq_true_eq] at *; exact List.le_trans h1 h2) (fun a b => by simp only [Bool.or_eq_true, decide_eq_true_eq]; exact List.le_total a b) l
    exact this.imp (fun h => by simpa using h)
  obtain ⟨h1, h2⟩ := compact_rises _ hs
  refine rises_uniq _ _ h1 (rises_namesB l) (fun x => ?_)
  rw [h2, mem_namesB]
  exact (List.mergeSort_perm l _).mem_iff
theorem bl_lt (x y : List UInt8) : Op.bytesLess x y = decide (x < y) := Go.Proofs.bytesLess_eq x y
end Go.Proofs.Ytgbcgchnnmgmfaa.M
