/-
  Files that rise by their paths, and what an edit makes of them: cut out, put at a place, put among them. Two lists that rise and find the same are the same. No condition.
  What is found behind edits: what the last edit of a path says, else what was there. No condition.
-/
import Derived.Test.YtgbcgchnnmgmfaaWalkTreG
import Derived.Test.YtgbcgchnnmgmfaaMathSort
namespace Go.Proofs.Ytgbcgchnnmgmfaa.W
open Go.Proofs.Ytgbcgchnnmgmfaa.M

/-- files rise by their paths -/
def RiseF (L : List TF) : Prop := L.Pairwise fun x y => x.pa.data.toList < y.pa.data.toList
def cutF : List TF → ByteArray → List TF
  | [], _ => []
  | x :: l, p => if x.pa = p then l else x :: cutF l p
def putF : List TF → ByteArray → ByteArray → List TF
  | [], _, _ => []
  | x :: l, p, b => if x.pa = p then ⟨x.pa, b⟩ :: l else x :: putF l p b
/-- a file is put ahead of the first one whose path is not less -/
def insF : List TF → TF → List TF
  | [], x => [x]
  | y :: l, x => if y.pa.data.toList < x.pa.data.toList then y :: insF l x else x :: y :: l
def sortF (L : List TF) : List TF := L.foldl insF []
/-- what one edit makes of files -/
def turnF (L : List TF) (gone : Bool) (p b : ByteArray) : Option (List TF) :=
  if gone then (if findF L p = none ∨ b ≠ ByteArray.empty then none else some (cutF L p))
  else if findF L p = none then some (sortF (L ++ [⟨p, b⟩])) else some (putF L p b)

theorem pa_eq {p q : ByteArray} (h : p.data.toList = q.data.toList) : p = q := by
  cases p; cases q; exact congrArg _ (Array.toList_inj.1 h)
theorem findF_none_iff (L : List TF) (p : ByteArray) : findF L p = none ↔ ∀ x ∈ L, x.pa ≠ p := by
  induction L with
  | nil => simp [findF]
  | cons y l ih =>
    unfold findF
    by_cases h : y.pa = p
    · simp [h]
    · rw [if_neg h, ih]; simp [h]
theorem mem_cutF (L : List TF) (p : ByteArray) (x : TF) (h : x ∈ cutF L p) : x ∈ L := by
  induction L with
  | nil => exact h
  | cons y l ih =>
    unfold cutF at h
    split at h
    · exact List.mem_cons_of_mem _ h
    · rcases List.mem_cons.1 h with rfl | h
      · exact List.mem_cons_self ..
      · exact List.mem_cons_of_mem _ (ih h)
theorem rise_cut (L : List TF) (p : ByteArray) (h : RiseF L) : RiseF (cutF L p) := by
  induction L with
  | nil => exact h
  | cons y l ih =>
    obtain ⟨h1, h2⟩ := List.pairwise_cons.1 h
    unfold cutF
    split
    · exact h2
    · exact List.pairwise_cons.2 ⟨fun z hz => h1 z (mem_cutF l p z hz), ih h2⟩
theorem findF_tail {y : TF} {l : List TF} (h : RiseF (y :: l)) : findF l y.pa = none := by
  refine (findF_none_iff ..).2 fun x hx e => ?_
  have := (List.pairwise_cons.1 h).1 x hx
  rw [e] at this
  exact List.lt_irrefl _ this
theorem findF_cut (L : List TF) (p q : ByteArray) (h : RiseF L) : findF (cutF L p) q = if q = p then none else findF L q := by
  induction L with
  | nil => simp [cutF, findF]
  | cons y l ih =>
    have h2 := (List.pairwise_cons.1 h).2
    unfold cutF
    by_cases hy : y.pa = p
    · rw [if_pos hy]
      by_cases hq : q = p
      · rw [if_pos hq, hq, ← hy]; exact findF_tail h
      · rw [if_neg hq]
        conv => rhs; unfold findF
        rw [if_neg (fun e => hq (e.symm.trans hy))]
    · rw [if_neg hy]
      unfold findF
      by_cases hyq : y.pa = q
      · rw [if_pos hyq, if_pos hyq, if_neg (fun e => hy (hyq.trans e))]
      · rw [if_neg hyq, if_neg hyq, ih h2]
theorem mem_putF (L : List TF) (p b : ByteArray) (x : TF) (h : x ∈ putF L p b) : ∃ y ∈ L, y.pa = x.pa := by
  induction L with
  | nil => cases h
  | cons y l ih =>
    unfold putF at h
    split at h
    · rcases List.mem_cons.1 h with rfl | h
      · exact ⟨y, List.mem_cons_self .., rfl⟩
      · exact ⟨x, List.mem_cons_of_mem _ h, rfl⟩
    · rcases List.mem_cons.1 h with rfl | h
      · exact ⟨x, List.mem_cons_self .., rfl⟩
      · obtain ⟨z, hz, e⟩ := ih h
        exact ⟨z, List.mem_cons_of_mem _ hz, e⟩
theorem rise_put (L : List TF) (p b : ByteArray) (h : RiseF L) : RiseF (putF L p b) := by
  induction L with
  | nil => exact h
  | cons y l ih =>
    obtain ⟨h1, h2⟩ := List.pairwise_cons.1 h
    unfold putF
    split
    · exact List.pairwise_cons.2 ⟨h1, h2⟩
    · refine List.pairwise_cons.2 ⟨fun z hz => ?_, ih h2⟩
      obtain ⟨u, hu, e⟩ := mem_putF l p b z hz
      rw [← e]
      exact h1 u hu
theorem findF_put (L : List TF) (p b q : ByteArray) : findF (putF L p b) q = if q = p then (findF L p).map (fun _ => b) else findF L q := by
  induction L with
  | nil => simp [putF, findF]
  | cons y l ih =>
    unfold putF
    by_cases hy : y.pa = p
    · rw [if_pos hy]
      by_cases hq : q = p
      · simp [findF, hq, hy]
      · have : ¬ p = q := fun e => hq e.symm
        simp [findF, hq, hy, this]
    · rw [if_neg hy]
      by_cases hyq : y.pa = q
      · have : ¬ q = p := fun e => hy (hyq.trans e)
        simp [findF, hyq, this]
      · simp only [findF, if_neg hyq, if_neg hy, ih]
theorem mem_insF (L : List TF) (x z : TF) : z ∈ insF L x ↔ z ∈ L ∨ z = x := by
  induction L with
  | nil => simp [insF]
  | cons y l ih =>
    unfold insF
    split
    · rw [List.mem_cons, ih, List.mem_cons, or_assoc]
    · rw [List.mem_cons]; exact or_comm
theorem rise_ins (L : List TF) (x : TF) (h : RiseF L) (hx : findF L x.pa = none) : RiseF (insF L x) := by
  induction L with
  | nil => simp [insF, RiseF]
  | cons y l ih =>
    obtain ⟨h1, h2⟩ := List.pairwise_cons.1 h
    have hn := (findF_none_iff ..).1 hx
    unfold insF
    split
    · rename_i hlt
      refine List.pairwise_cons.2 ⟨fun z hz => ?_, ih h2 ((findF_none_iff ..).2 fun u hu => hn u (List.mem_cons_of_mem _ hu))⟩
      rcases (mem_insF ..).1 hz with hz | rfl
      · exact h1 z hz
      · exact hlt
    · rename_i hlt
      have hxy : x.pa.data.toList < y.pa.data.toList := by
        rcases tri x.pa.data.toList y.pa.data.toList with h3 | h3 | h3
        · exact h3
        · exact absurd (pa_eq h3).symm (hn y (List.mem_cons_self ..))
        · exact absurd h3 hlt
      refine List.pairwise_cons.2 ⟨fun z hz => ?_, h⟩
      rcases List.mem_cons.1 hz with rfl | hz
      · exact hxy
      · exact List.lt_trans hxy (h1 z hz)
theorem findF_ins (L : List TF) (x : TF) (q : ByteArray) (hx : findF L x.pa = none) : findF (insF L x) q = if x.pa = q then some x.by_ else findF L q := by
  induction L with
  | nil => simp [insF, findF]
  | cons y l ih =>
    have hn := (findF_none_iff ..).1 hx
    have hl : findF l x.pa = none := (findF_none_iff ..).2 fun u hu => hn u (List.mem_cons_of_mem _ hu)
    unfold insF
    split
    · by_cases hyq : y.pa = q
      · have : ¬ x.pa = q := fun e => hn y (List.mem_cons_self ..) (hyq.trans e.symm)
        simp [findF, hyq, this]
      · simp only [findF, if_neg hyq, ih hl]
    · rfl
theorem ins_last (L : List TF) (x : TF) (h : RiseF (L ++ [x])) : insF L x = L ++ [x] := by
  induction L with
  | nil => rfl
  | cons y l ih =>
    obtain ⟨h1, h2⟩ := List.pairwise_cons.1 h
    unfold insF
    rw [if_pos (h1 x (by simp)), ih h2]; rfl
theorem foldl_ins (A B : List TF) (h : RiseF (A ++ B)) : B.foldl insF A = A ++ B := by
  induction B generalizing A with
  | nil => simp
  | cons x l ih =>
    have e : A ++ x :: l = (A ++ [x]) ++ l := by simp
    rw [e] at h
    rw [List.foldl_cons, ins_last A x (List.pairwise_append.1 h).1, ih _ h, ← e]
theorem sort_rise (L : List TF) (h : RiseF L) : sortF L = L := foldl_ins [] L h
theorem sort_snoc (L : List TF) (x : TF) (h : RiseF L) : sortF (L ++ [x]) = insF L x := by
  unfold sortF; rw [List.foldl_append]; show insF (sortF L) x = _; rw [sort_rise L h]
/-- what an edit makes rises, and finds what was there, but for the edit's own path -/
theorem turnF_ok (L K : List TF) (gone : Bool) (p b : ByteArray) (h : RiseF L) (ht : turnF L gone p b = some K) : RiseF K ∧ ∀ q, findF K q = if q = p then (if gone then none else some b) else findF L q := by
  unfold turnF at ht
  cases gone with
  | true =>
    rw [if_pos rfl] at ht
    split at ht
    · cases ht
    · cases ht
      exact ⟨rise_cut L p h, fun q => findF_cut L p q h⟩
  | false =>
    rw [if_neg (by decide)] at ht
    split at ht
    · rename_i hn
      cases ht
      rw [sort_snoc L ⟨p, b⟩ h]
      refine ⟨rise_ins L ⟨p, b⟩ h hn, fun q => ?_⟩
      rw [findF_ins L ⟨p, b⟩ q hn]
      by_cases hq : q = p
      · simp [hq]
      · have : ¬ p = q := fun e => hq e.symm
        simp [hq, this]
    · rename_i hn
      cases ht
      refine ⟨rise_put L p b h, fun q => ?_⟩
      rw [findF_put]
      cases he : findF L p with
      | none => exact absurd he hn
      | some t => simp
/-- files that rise and find the same are the same -/
theorem rise_eq (A B : List TF) (hA : RiseF A) (hB : RiseF B) (h : ∀ q, findF A q = findF B q) : A = B := by
  induction A generalizing B with
  | nil =>
    cases B with
    | nil => rfl
    | cons y l => have := h y.pa; simp [findF] at this
  | cons x a ih =>
    cases B with
    | nil => have := h x.pa; simp [findF] at this
    | cons y l =>
      have hne : ∀ {x y : TF} {a l : List TF}, RiseF (x :: a) → RiseF (y :: l) → (∀ q, findF (x :: a) q = findF (y :: l) q) → ¬ x.pa.data.toList < y.pa.data.toList := by
        intro x y a l hA hB h hlt
        have h1 : findF (y :: l) x.pa = none := by
          refine (findF_none_iff ..).2 fun u hu e => ?_
          rcases List.mem_cons.1 hu with rfl | hu
          · rw [e] at hlt; exact List.lt_irrefl _ hlt
          · have := List.lt_trans hlt ((List.pairwise_cons.1 hB).1 u hu)
            rw [e] at this; exact List.lt_irrefl _ this
        have h2 := h x.pa
        rw [h1] at h2
        simp [findF] at h2
      have hp : x.pa = y.pa := by
        rcases tri x.pa.data.toList y.pa.data.toList with h3 | h3 | h3
        · exact absurd h3 (hne hA hB h)
        · exact pa_eq h3
        · exact absurd h3 (hne hB hA fun q => (h q).symm)
      have hb : x.by_ = y.by_ := by
        have := h x.pa
        simpa [findF, hp] using this
      have hxy : x = y := by cases x; cases y; simp_all
      subst hxy
      rw [ih l (List.pairwise_cons.1 hA).2 (List.pairwise_cons.1 hB).2 fun q => ?_]
      by_cases hq : x.pa = q
      · rw [← hq, findF_tail hA, findF_tail hB]
      · have := h q
        simpa [findF, hq] using this
/-- what is in what an edit makes was there, or is the edit's -/
theorem mem_turnF (L K : List TF) (gone : Bool) (p b : ByteArray) (h : RiseF L) (ht : turnF L gone p b = some K) (x : TF) (hx : x ∈ K) : x ∈ L ∨ x = ⟨p, b⟩ := by
  have put : ∀ L : List TF, ∀ x ∈ putF L p b, x ∈ L ∨ x = ⟨p, b⟩ := by
    intro L
    induction L with
    | nil => intro x hx; cases hx
    | cons y l ih =>
      intro x hx
      unfold putF at hx
      split at hx
      · rename_i hy
        rcases List.mem_cons.1 hx with rfl | hx
        · exact .inr (by rw [hy])
        · exact .inl (List.mem_cons_of_mem _ hx)
      · rcases List.mem_cons.1 hx with rfl | hx
        · exact .inl (List.mem_cons_self ..)
        · exact (ih x hx).imp (List.mem_cons_of_mem _) id
  unfold turnF at ht
  cases gone with
  | true =>
    rw [if_pos rfl] at ht
    split at ht
    · cases ht
    · cases ht; exact .inl (mem_cutF L p x hx)
  | false =>
    rw [if_neg (by decide)] at ht
    split at ht
    · cases ht
      rw [sort_snoc L ⟨p, b⟩ h] at hx
      exact (mem_insF ..).1 hx
    · cases ht; exact put L x hx
theorem len_cutF (L : List TF) (p : ByteArray) : (cutF L p).length ≤ L.length := by
  induction L with
  | nil => exact Nat.le_refl _
  | cons y l ih => unfold cutF; split <;> simp; exact ih
theorem len_putF (L : List TF) (p b : ByteArray) : (putF L p b).length = L.length := by
  induction L with
  | nil => rfl
  | cons y l ih => unfold putF; split <;> simp; exact ih
theorem len_insF (L : List TF) (x : TF) : (insF L x).length = L.length + 1 := by
  induction L with
  | nil => rfl
  | cons y l ih => unfold insF; split <;> simp; exact ih
theorem len_turnF (L K : List TF) (gone : Bool) (p b : ByteArray) (h : RiseF L) (ht : turnF L gone p b = some K) : K.length ≤ L.length + 1 := by
  unfold turnF at ht
  cases gone with
  | true =>
    rw [if_pos rfl] at ht
    split at ht
    · cases ht
    · cases ht; exact Nat.le_succ_of_le (len_cutF L p)
  | false =>
    rw [if_neg (by decide)] at ht
    split at ht
    · cases ht
      rw [sort_snoc L ⟨p, b⟩ h, len_insF]; exact Nat.le_refl _
    · cases ht; rw [len_putF]; exact Nat.le_succ _
/-- edits one behind the other: whether each is a taking out, its path, its bytes -/
def turnAll : List TF → List (Bool × ByteArray × ByteArray) → Option (List TF)
  | L, [] => some L
  | L, e :: es => match turnF L e.1 e.2.1 e.2.2 with
    | none => none
    | some K => turnAll K es
theorem turnAll_snoc (L : List TF) (E : List (Bool × ByteArray × ByteArray)) (e : Bool × ByteArray × ByteArray) : turnAll L (E ++ [e]) = (turnAll L E).bind fun K => turnF K e.1 e.2.1 e.2.2 := by
  induction E generalizing L with
  | nil => simp only [List.nil_append, turnAll, Option.bind]; cases turnF L e.1 e.2.1 e.2.2 <;> rfl
  | cons x l ih =>
    simp only [List.cons_append, turnAll]
    cases turnF L x.1 x.2.1 x.2.2 with
    | none => rfl
    | some K => exact ih K
theorem turnAll_none (L : List TF) (E F : List (Bool × ByteArray × ByteArray)) (h : turnAll L E = none) : turnAll L (E ++ F) = none := by
  induction E generalizing L with
  | nil => cases h
  | cons x l ih =>
    simp only [List.cons_append, turnAll] at h ⊢
    cases hx : turnF L x.1 x.2.1 x.2.2 with
    | none => rfl
    | some K => rw [hx] at h; exact ih K h
/-- what is carried over a row of edits: it rises, is not too long, and all in it was there or is an edit's -/
theorem turnAll_ok (L K : List TF) (E : List (Bool × ByteArray × ByteArray)) (h : RiseF L) (ht : turnAll L E = some K) : RiseF K ∧ K.length ≤ L.length + E.length ∧ ∀ x ∈ K, x ∈ L ∨ ∃ e ∈ E, x = ⟨e.2.1, e.2.2⟩ := by
  induction E generalizing L with
  | nil => cases ht; exact ⟨h, Nat.le_refl _, fun x hx => .inl hx⟩
  | cons e es ih =>
    unfold turnAll at ht
    split at ht
    · cases ht
    · rename_i M hM
      obtain ⟨h1, h2, h3⟩ := ih M (turnF_ok L M _ _ _ h hM).1 ht
      have h4 := len_turnF L M _ _ _ h hM
      refine ⟨h1, by rw [List.length_cons]; omega, fun x hx => ?_⟩
      rcases h3 x hx with hx | ⟨y, hy, rfl⟩
      · rcases mem_turnF L M _ _ _ h hM x hx with hx | rfl
        · exact .inl hx
        · exact .inr ⟨e, List.mem_cons_self .., rfl⟩
      · exact .inr ⟨y, List.mem_cons_of_mem _ hy, rfl⟩
end Go.Proofs.Ytgbcgchnnmgmfaa.W
namespace Go.Proofs.Ytgbcgchnnmgmfaa.W
open Go.Proofs.Ytgbcgchnnmgmfaa.M

/-- the last edit of a path -/
def lastE : List (Bool × ByteArray × ByteArray) → ByteArray → Option (Bool × ByteArray)
  | [], _ => none
  | e :: es, q => match lastE es q with
    | some r => some r
    | none => if e.2.1 = q then some (e.1, e.2.2) else none
theorem lastE_cons (e : Bool × ByteArray × ByteArray) (es : List (Bool × ByteArray × ByteArray)) (q : ByteArray) : lastE (e :: es) q = match lastE es q with | some r => some r | none => if e.2.1 = q then some (e.1, e.2.2) else none := rfl
theorem lastE_none (E : List (Bool × ByteArray × ByteArray)) (q : ByteArray) : lastE E q = none ↔ ∀ e ∈ E, e.2.1 ≠ q := by
  induction E with
  | nil => simp [lastE]
  | cons x l ih =>
    unfold lastE
    cases h : lastE l q with
    | some r =>
      have h2 : ¬ ∀ e ∈ l, e.2.1 ≠ q := fun h3 => by rw [ih.2 h3] at h; cases h
      simp only [List.mem_cons, forall_eq_or_imp]
      constructor
      · intro h3; cases h3
      · intro h3; exact absurd h3.2 h2
    | none =>
      have h2 := ih.1 h
      by_cases hx : x.2.1 = q
      · simp [hx]
      · simp only [if_neg hx, List.mem_cons, forall_eq_or_imp, true_iff]
        exact ⟨hx, h2⟩
theorem turnAll_find (L K : List TF) (E : List (Bool × ByteArray × ByteArray)) (h : RiseF L) (ht : turnAll L E = some K) : ∀ q, findF K q = match lastE E q with
    | none => findF L q
    | some r => if r.1 then none else some r.2 := by
  induction E generalizing L with
  | nil => cases ht; intro q; rfl
  | cons e es ih =>
    unfold turnAll at ht
    split at ht
    · cases ht
    · rename_i M hM
      obtain ⟨h1, h2⟩ := turnF_ok L M _ _ _ h hM
      intro q
      rw [ih M h1 ht q, lastE_cons]
      cases hl : lastE es q with
      | some r => rfl
      | none =>
        rw [h2 q]
        by_cases hq : e.2.1 = q
        · rw [if_pos hq, if_pos hq.symm]
        · rw [if_neg hq, if_neg (fun e' => hq e'.symm)]
/-- an edit that takes out has no bytes -/
theorem turnAll_gone (L K : List TF) (E : List (Bool × ByteArray × ByteArray)) (ht : turnAll L E = some K) : ∀ e ∈ E, e.1 = true → e.2.2 = ByteArray.empty := by
  induction E generalizing L with
  | nil => intro e he; cases he
  | cons x es ih =>
    unfold turnAll at ht
    split at ht
    · cases ht
    · rename_i M hM
      intro e he hg
      rcases List.mem_cons.1 he with rfl | he
      · unfold turnF at hM
        rw [if_pos hg] at hM
        split at hM
        · cases hM
        · rename_i h; exact Decidable.byContradiction fun h2 => h (.inr h2)
      · exact ih M ht e he hg
theorem lastE_at (E : List (Bool × ByteArray × ByteArray)) (i : Nat) (h : i < E.length) (hl : ∀ k (h : k < E.length), i < k → (E[k]).2.1 ≠ (E[i]).2.1) : lastE E (E[i]).2.1 = some ((E[i]).1, (E[i]).2.2) := by
  induction E generalizing i with
  | nil => simp at h
  | cons x l ih =>
    cases i with
    | zero =>
      simp only [List.getElem_cons_zero] at hl ⊢
      have h1 : lastE l x.2.1 = none := (lastE_none ..).2 fun e he => by
        obtain ⟨j, hj, rfl⟩ := List.getElem_of_mem he
        exact hl (j + 1) (by simpa using hj) (by omega)
      unfold lastE
      rw [h1]; simp
    | succ i =>
      simp only [List.getElem_cons_succ] at hl ⊢
      have h1 := ih i (by simpa using h) (fun k hk hik => hl (k + 1) (by simpa using hk) (by omega))
      unfold lastE
      rw [h1]
theorem findF_at (L : List TF) (j : Nat) (h : j < L.length) (hr : RiseF L) : findF L (L[j]).pa = some (L[j]).by_ := by
  induction L generalizing j with
  | nil => simp at h
  | cons y l ih =>
    obtain ⟨h1, h2⟩ := List.pairwise_cons.1 hr
    cases j with
    | zero => simp [findF]
    | succ j =>
      have h3 := h1 (l[j]'(by simpa using h)) (List.getElem_mem _)
      simp only [List.getElem_cons_succ]
      unfold findF
      rw [if_neg (fun e => by rw [e] at h3; exact List.lt_irrefl _ h3)]
      exact ih j (by simpa using h) h2
end Go.Proofs.Ytgbcgchnnmgmfaa.W
