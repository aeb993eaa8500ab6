
/-
  What differs between two trees, turned there, makes the one of the other. (For the law on TreDiffers.)
-/
import Derived.Test.YtbceegonaomblaaWalkDifS
import Derived.Test.YtbceegonaomblaaMathTTu2
import Derived.Test.YtbceegonaomblaaWalkDrawF
namespace Go.Proofs.Ytbceegonaomblaa.M
open Go.RowKit Go.Proofs.Ytbceegonaomblaa.W

def diffD (L K : List TF) : List (List UInt8) := namesB (rawA L K ++ rawB L K)
theorem find_mem (L : List TF) (q t : ByteArray) (h : findF L q = some t) : ∃ x ∈ L, x.pa = q ∧ x.by_ = t := by
  induction L with
  | nil => simp [findF] at h
  | cons y l ih =>
    unfold findF at h
    by_cases e : y.pa = q
    · rw [if_pos e] at h
      exact ⟨y, List.mem_cons_self .., e, Option.some.inj h⟩
    · rw [if_neg e] at h
      obtain ⟨x, hx, h'⟩ := ih h
      exact ⟨x, List.mem_cons_of_mem _ hx, h'⟩
theorem mem_find (L : List TF) (hr : RiseF L) (x : TF) (hx : x ∈ L) : findF L x.pa = some x.by_ := by
  obtain ⟨i, hi, rfl⟩ := List.mem_iff_getElem.1 hx
  exact findF_at L i hi hr
theorem mem_diff (L K : List TF) (hL : RiseF L) (hK : RiseF K) (q : ByteArray) : q.data.toList ∈ diffD L K ↔ findF L q ≠ findF K q := by
  unfold diffD
  rw [mem_namesB, List.mem_append]
  constructor
  · rintro (h | h)
    · unfold rawA at h
      obtain ⟨x, hx, e⟩ := List.mem_map.1 h
      obtain ⟨h1, h2⟩ := List.mem_filter.1 hx
      obtain rfl := pa_eq e
      rw [mem_find L hL x h1]
      exact fun e => (of_decide_eq_true h2) e.symm
    · unfold rawB at h
      obtain ⟨x, hx, e⟩ := List.mem_map.1 h
      obtain ⟨h1, h2⟩ := List.mem_filter.1 hx
      obtain rfl := pa_eq e
      rw [mem_find K hK x h1, of_decide_eq_true h2]
      simp
  · intro h
    cases hf : findF L q with
    | some t =>
      left
      obtain ⟨x, hx, rfl, rfl⟩ := find_mem L q t hf
      rw [hf] at h
      exact List.mem_map.2 ⟨x, List.mem_filter.2 ⟨hx, decide_eq_true fun e => h e.symm⟩, rfl⟩
    | none =>
      right
      cases hk : findF K q with
      | none => rw [hf, hk] at h; exact absurd rfl h
      | some t =>
        obtain ⟨x, hx, rfl, rfl⟩ := find_mem K q t hk
        exact List.mem_map.2 ⟨x, List.mem_filter.2 ⟨hx, decide_eq_true hf⟩, rfl⟩
theorem asB (y : List UInt8) : (ByteArray.mk y.toArray).data.toList = y := by simp
theorem mem_diff' (L K : List TF) (hL : RiseF L) (hK : RiseF K) (y : List UInt8) : y ∈ diffD L K ↔ findF L ⟨y.toArray⟩ ≠ findF K ⟨y.toArray⟩ := by
  have := mem_diff L K hL hK ⟨y.toArray⟩
  rw [asB] at this
  exact this
theorem diff_sym (L K : List TF) (hL : RiseF L) (hK : RiseF K) : diffD K L = diffD L K :=
  rises_uniq _ _ (rises_namesB _) (rises_namesB _) (fun y => by
    show y ∈ diffD K L ↔ y ∈ diffD L K
    rw [mem_diff' K L hK hL, mem_diff' L K hL hK]
    exact ⟨fun h e => h e.symm, fun h e => h e.symm⟩)
theorem diff_self (L : List TF) (hL : RiseF L) : diffD L L = [] := by
  match h : diffD L L with
  | [] => rfl
  | y :: l => exact absurd rfl ((mem_diff' L L hL hL y).1 (by rw [h]; exact List.mem_cons_self ..))
theorem diff_nodup (L K : List TF) : (diffD L K).Nodup := (rises_namesB _).imp (fun h e => by subst e; exact List.lt_irrefl _ h)
theorem diff_len (L K : List TF) : (diffD L K).length ≤ L.length + K.length := by
  unfold diffD
  refine Nat.le_trans (namesB_len _) ?_
  rw [List.length_append]
  have := rawA_len L K
  have := rawB_len L K
  omega

/-- the edit at a path that makes it what the second tree has there -/
def edAt (K : List TF) (y : List UInt8) : TE := ⟨⟨y.toArray⟩, (findF K ⟨y.toArray⟩).getD ByteArray.empty, (findF K ⟨y.toArray⟩).isNone⟩
def goneP (K : List TF) (y : List UInt8) : Bool := (findF K ⟨y.toArray⟩).isNone
def passG (K : List TF) (l : List (List UInt8)) : List TE := (l.filter (goneP K)).map (edAt K)
def passL (K : List TF) (l : List (List UInt8)) : List TE := (l.filter fun y => !goneP K y).map (edAt K)
/-- the edits so far: those that go first, then those that come -/
def stageAt (K : List TF) (D : List (List UInt8)) (ps i : Nat) : List TE := if ps = 0 then passG K (D.take i) else if ps = 1 then passG K D ++ passL K (D.take i) else passG K D ++ passL K D
theorem filt_step (p : List UInt8 → Bool) (D : List (List UInt8)) (i : Nat) (h : i < D.length) : (D.take (i + 1)).filter p = (D.take i).filter p ++ (if p D[i] then [D[i]] else []) := by
  rw [List.take_succ_eq_append_getElem h, List.filter_append]
  cases hg : p D[i] <;> simp [hg]
theorem stage_step (K : List TF) (D : List (List UInt8)) (ps i : Nat) (hp : ps < 2) (h : i < D.length) : stageAt K D ps (i + 1) = stageAt K D ps i ++ (if (!goneP K D[i]) = decide (ps = 1) then [edAt K D[i]] else []) := by
  unfold stageAt passG passL
  have h01 : ps = 0 ∨ ps = 1 := by omega
  rcases h01 with rfl | rfl
  · have e := filt_step (goneP K) D i h
    rw [e]
    cases hg : goneP K D[i] <;> simp
  · have e := filt_step (fun y => !goneP K y) D i h
    rw [e]
    cases hg : goneP K D[i] <;> simp
theorem stage_next (K : List TF) (D : List (List UInt8)) (ps : Nat) (hp : ps < 2) : stageAt K D (ps + 1) 0 = stageAt K D ps D.length := by
  have h01 : ps = 0 ∨ ps = 1 := by omega
  rcases h01 with rfl | rfl
  · simp [stageAt, passL]
  · simp [stageAt]
theorem filt_len {X : Type} (p : X → Bool) (l : List X) : (l.filter p).length + (l.filter fun y => !p y).length = l.length := by
  induction l with
  | nil => rfl
  | cons x l ih => cases h : p x <;> simp [h] <;> omega
theorem stage_len (K : List TF) (D : List (List UInt8)) (ps i : Nat) : (stageAt K D ps i).length ≤ D.length := by
  have h1 := filt_len (goneP K) D
  have h2 : ((D.take i).filter (goneP K)).length ≤ (D.filter (goneP K)).length := ((List.take_sublist i D).filter _).length_le
  have h3 : ((D.take i).filter fun y => !goneP K y).length ≤ (D.filter fun y => !goneP K y).length := ((List.take_sublist i D).filter _).length_le
  unfold stageAt passG passL
  split
  · simp only [List.length_map]; omega
  · split
    · simp only [List.length_append, List.length_map]; omega
    · simp only [List.length_append, List.length_map]; omega
theorem stage_all (K : List TF) (D : List (List UInt8)) : (stageAt K D 2 0).length = D.length := by
  have h1 := filt_len (goneP K) D
  have e : stageAt K D 2 0 = passG K D ++ passL K D := by simp [stageAt]
  rw [e]
  simp only [passG, passL, List.length_append, List.length_map]
  exact h1
theorem stage_mem (K : List TF) (D : List (List UInt8)) (ps i : Nat) (e : TE) (h : e ∈ stageAt K D ps i) : ∃ y ∈ D, e = edAt K y := by
  have key : ∀ (l : List (List UInt8)) (p : List UInt8 → Bool), (∀ y ∈ l, y ∈ D) → e ∈ (l.filter p).map (edAt K) → ∃ y ∈ D, e = edAt K y := fun l p hl he => by
    obtain ⟨y, hy, rfl⟩ := List.mem_map.1 he
    exact ⟨y, hl y (List.mem_filter.1 hy).1, rfl⟩
  have ht : ∀ y ∈ D.take i, y ∈ D := fun y hy => List.mem_of_mem_take hy
  unfold stageAt passG passL at h
  split at h
  · exact key _ _ ht h
  · split at h
    · rcases List.mem_append.1 h with h | h
      · exact key _ _ (fun y hy => hy) h
      · exact key _ _ ht h
    · rcases List.mem_append.1 h with h | h
      · exact key _ _ (fun y hy => hy) h
      · exact key _ _ (fun y hy => hy) h
theorem stage_has (K : List TF) (D : List (List UInt8)) (y : List UInt8) (h : y ∈ D) : edAt K y ∈ stageAt K D 2 0 := by
  have e : stageAt K D 2 0 = passG K D ++ passL K D := by simp [stageAt]
  rw [e, List.mem_append]
  cases hg : goneP K y
  · right; exact List.mem_map.2 ⟨y, List.mem_filter.2 ⟨h, by simp [hg]⟩, rfl⟩
  · left; exact List.mem_map.2 ⟨y, List.mem_filter.2 ⟨h, hg⟩, rfl⟩

/-- edits of other paths, one each, all fit -/
theorem turnAll_some : ∀ (E : List (Bool × ByteArray × ByteArray)) (L : List TF), RiseF L → (E.map fun e => e.2.1).Nodup → (∀ e ∈ E, e.1 = true → findF L e.2.1 ≠ none ∧ e.2.2 = ByteArray.empty) → ∃ M, turnAll L E = some M := by
  intro E
  induction E with
  | nil => intro L _ _ _; exact ⟨L, rfl⟩
  | cons e es ih =>
    intro L hr hn hg
    rw [List.map_cons, List.nodup_cons] at hn
    have h1 : ∃ M, turnF L e.1 e.2.1 e.2.2 = some M := by
      unfold turnF
      cases h : e.1
      · simp only [Bool.false_eq_true, if_false]
        split <;> exact ⟨_, rfl⟩
      · obtain ⟨a, b⟩ := hg e (List.mem_cons_self ..) h
        simp only [if_true]
        rw [if_neg (by rintro (h | h); exact a h; exact h b)]
        exact ⟨_, rfl⟩
    obtain ⟨M, hM⟩ := h1
    obtain ⟨k1, k2⟩ := turnF_ok L M _ _ _ hr hM
    obtain ⟨M2, hM2⟩ := ih M k1 hn.2 (fun e' he' hg' => by
      have h9 := hg e' (List.mem_cons_of_mem _ he') hg'
      have h8 : ¬ e'.2.1 = e.2.1 := fun e9 => hn.1 (List.mem_map.2 ⟨e', he', e9⟩)
      rw [k2, if_neg h8]
      exact h9)
    exact ⟨M2, by unfold turnAll; rw [hM]; exact hM2⟩
theorem lastE_mem : ∀ (E : List (Bool × ByteArray × ByteArray)), (E.map fun e => e.2.1).Nodup → ∀ e ∈ E, lastE E e.2.1 = some (e.1, e.2.2) := by
  intro E
  induction E with
  | nil => intro _ e he; cases he
  | cons x es ih =>
    intro hn e he
    rw [List.map_cons, List.nodup_cons] at hn
    rw [lastE_cons]
    rcases List.mem_cons.1 he with rfl | he
    · have h0 : lastE es e.2.1 = none := (lastE_none _ _).2 fun e' he' e9 => hn.1 (e9 ▸ List.mem_map.2 ⟨e', he', rfl⟩)
      rw [h0]; simp
    · rw [ih hn.2 e he]
theorem stage_nodup (K : List TF) (D : List (List UInt8)) (hD : D.Nodup) : ((edOf (stageAt K D 2 0)).map fun e => e.2.1).Nodup := by
  have e : stageAt K D 2 0 = (D.filter (goneP K) ++ D.filter fun y => !goneP K y).map (edAt K) := by simp [stageAt, passG, passL]
  rw [e]
  unfold edOf
  rw [List.map_map, List.map_map]
  have hp : (D.filter (goneP K) ++ D.filter fun y => !goneP K y).Nodup := by
    refine List.nodup_append.2 ⟨hD.filter _, hD.filter _, fun a ha b hb e9 => ?_⟩
    subst e9
    have h1 := (List.mem_filter.1 ha).2
    have h2 := (List.mem_filter.1 hb).2
    rw [h1] at h2
    simp at h2
  refine (List.pairwise_map.2 (hp.imp (fun h e9 => h ?_)))
  simp only [Function.comp, edAt, ByteArray.mk.injEq] at e9
  exact List.toArray_inj e9
/-- the tree that comes of it -/
theorem turn_diff (L K : List TF) (hL : okT L = true) (hK : okT K = true) (hE : (stageAt K (diffD L K) 2 0).length ≤ 4) : turnT L (stageAt K (diffD L K) 2 0) = some K := by
  have rL := (okT_rise L hL).1
  have rK := (okT_rise K hK).1
  have hn := stage_nodup K _ (diff_nodup L K)
  obtain ⟨M, hM⟩ := turnAll_some (edOf (stageAt K (diffD L K) 2 0)) L rL hn (fun e he hg => by
    obtain ⟨x, hx, rfl⟩ := List.mem_map.1 he
    obtain ⟨y, hy, rfl⟩ := stage_mem _ _ _ _ _ hx
    simp only [edAt] at hg ⊢
    have h1 : findF K ⟨y.toArray⟩ = none := by simpa using hg
    have h2 := (mem_diff' L K rL rK y).1 hy
    rw [h1] at h2 ⊢
    exact ⟨h2, rfl⟩)
  have rM := (turnAll_ok L M _ rL hM).1
  have hf := turnAll_find L M _ rL hM
  have e : M = K := rise_eq M K rM rK (fun q => by
    rw [hf q]
    by_cases hq : q.data.toList ∈ diffD L K
    · have h1 := stage_has K _ _ hq
      have h2 : (edAt K q.data.toList).pa = q := pa_eq (by simp [edAt])
      have h3 := lastE_mem _ hn ((edAt K q.data.toList).gone, (edAt K q.data.toList).pa, (edAt K q.data.toList).by_) (List.mem_map.2 ⟨_, h1, rfl⟩)
      simp only at h3
      rw [h2] at h3
      rw [h3]
      have h4 : ByteArray.mk q.data.toList.toArray = q := h2
      simp only [edAt, h4]
      cases findF K q <;> simp
    · have h0 : lastE (edOf (stageAt K (diffD L K) 2 0)) q = none := (lastE_none _ _).2 fun e he e9 => hq (by
        obtain ⟨x, hx, rfl⟩ := List.mem_map.1 he
        obtain ⟨y, hy, rfl⟩ := stage_mem _ _ _ _ _ hx
        rw [← e9]
        simpa [edAt] using hy)
      rw [h0]
      have h8 : ¬ findF L q ≠ findF K q := fun h => hq ((mem_diff L K rL rK q).2 h)
      exact Classical.not_not.1 h8)
  unfold turnT
  rw [if_pos ⟨hL, hE⟩, hM, e]
  simp [hK]
theorem stage_short (L K : List TF) (ps i : Nat) (sL : shortF L) (sK : shortF K) : short (stageAt K (diffD L K) ps i) := fun e he => by
  obtain ⟨y, hy, rfl⟩ := stage_mem _ _ _ _ _ he
  refine ⟨?_, ?_⟩
  · unfold diffD at hy
    rw [mem_namesB, List.mem_append] at hy
    rcases hy with h | h
    · obtain ⟨x, hx, rfl⟩ := List.mem_map.1 h
      exact (sL x (List.mem_filter.1 hx).1).1
    · obtain ⟨x, hx, rfl⟩ := List.mem_map.1 h
      exact (sK x (List.mem_filter.1 hx).1).1
  · unfold edAt
    cases hf : findF K ⟨y.toArray⟩ with
    | none => simp
    | some t =>
      obtain ⟨x, hx, _, rfl⟩ := find_mem K _ t hf
      exact (sK x hx).2
end Go.Proofs.Ytbceegonaomblaa.M
