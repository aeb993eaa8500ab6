/-
  The files of a tree stand by their first names: what the program takes off the front is what the specification gathers. No condition.
  What is taken off the front of a tree's files is a file, or a tree of less depth. No condition.
-/
import Derived.Test.YtgbcgchnnmgmfaaMathTLay
import Derived.Test.YtgbcgchnnmgmfaaMathTUn
namespace Go.Proofs.Ytgbcgchnnmgmfaa.M
open Go.RowKit Go.Proofs.Ytgbcgchnnmgmfaa.W

/-- files as a tree has them, to a depth -/
structure Gd (d : Nat) (L : List TF) : Prop where
  ok : ∀ x ∈ L, x.pa.data.toList ≠ [] ∧ pthB x.pa.data.toList = true ∧ (nms x.pa.data.toList).length ≤ d
  rise : RiseF L
  und : ∀ x ∈ L, ∀ y ∈ L, undB x.pa.data.toList y.pa.data.toList = true → x = y
theorem gd_ok (L : List TF) (h : okT L = true) (hr : RiseF L) : Gd 3 L := ⟨fun x hx => by
  obtain ⟨a, b, _⟩ := ok_mem L h x hx
  refine ⟨a, b, ?_⟩
  unfold pthB at b
  simp only [Bool.and_eq_true, decide_eq_true_eq] at b
  exact b.1, hr, fun x hx y hy hu => ok_und L h hr x y hx hy hu⟩
theorem Gd.sub {d : Nat} {L K : List TF} (h : Gd d L) (hs : K.Sublist L) : Gd d K := ⟨fun x hx => h.ok x (hs.subset hx), List.Pairwise.sublist hs h.rise, fun x hx y hy hu => h.und x (hs.subset hx) y (hs.subset hy) hu⟩
/-- a path is its first name and the rest -/
theorem path_parts (l : List UInt8) (hp : pthB l = true) : l = if has l then firstL l ++ 47 :: restL l else firstL l := by
  have h1 : firstL l = bef l := by unfold firstL; rw [if_pos hp]
  have h2 : restL l = aft l := by unfold restL; rw [if_pos hp]
  rw [h1, h2]
  have : ∀ r : List UInt8, r = if has r then bef r ++ 47 :: aft r else bef r := by
    intro r
    induction r with
    | nil => rfl
    | cons c r ih =>
      by_cases hc : c = 47
      · simp [has, bef, aft, hc]
      · have e : has (c :: r) = has r := by simp [has, hc]
        rw [e]
        simp only [bef, aft, hc, if_false]
        cases hr : has r
        · rw [hr] at ih
          simp only [Bool.false_eq_true, if_false] at ih ⊢
          rw [← ih]
        · rw [hr] at ih
          simp only [if_true] at ih ⊢
          rw [List.cons_append, ← ih]
  exact this l
/-- first names do not fall -/
theorem bef_mono : ∀ (p q : List UInt8), (∀ c ∈ p, 47 ≤ c) → p < q → ¬ bef q < bef p := by
  intro p
  induction p with
  | nil => intro q _ _ h; exact List.not_lt_nil _ h
  | cons c p ih =>
    intro q hq hlt
    cases q with
    | nil => exact absurd hlt (List.not_lt_nil _)
    | cons e q =>
      rw [List.cons_lt_cons_iff] at hlt
      by_cases he : e = 47
      · subst he
        rcases hlt with h | ⟨rfl, h⟩
        · exact absurd h (UInt8.not_lt.2 (hq c (List.mem_cons_self ..)))
        · simp [bef]
      · by_cases hc : c = 47
        · simp only [bef, hc, if_true]; exact List.not_lt_nil _
        · simp only [bef, hc, he, if_false]
          rw [List.cons_lt_cons_iff]
          rcases hlt with h | ⟨rfl, h⟩
          · rintro (h' | ⟨h', _⟩)
            · exact UInt8.lt_irrefl _ (UInt8.lt_trans h h')
            · subst h'; exact UInt8.lt_irrefl _ h
          · rintro (h' | ⟨_, h'⟩)
            · exact UInt8.lt_irrefl _ h'
            · exact ih q (fun c hc => hq c (List.mem_cons_of_mem _ hc)) h h'
theorem Gd.fst_le {d : Nat} {x : TF} {L : List TF} (h : Gd d (x :: L)) : ∀ y ∈ L, ¬ fstF y < fstF x := fun y hy => by
  have hx := h.ok x (List.mem_cons_self ..)
  have hY := h.ok y (List.mem_cons_of_mem _ hy)
  have hlt := (List.pairwise_cons.1 h.rise).1 y hy
  unfold fstF firstL
  rw [if_pos hx.2.1, if_pos hY.2.1]
  exact bef_mono _ _ (pth_ge _ hx.2.1) hlt
theorem first_und (a p : List UInt8) (hp : pthB p = true) (ha : firstL p = a) (hn : a ≠ []) : undB a p = true := by
  have e := path_parts p hp
  have hpa : pthB a = true := by
    have hne : p ≠ [] := by rintro rfl; exact hn ha.symm
    have h1 := pth_of p hne
    rw [hp] at h1
    simp only [Bool.true_eq, Bool.and_eq_true, List.all_eq_true] at h1
    obtain ⟨t, ht⟩ := spl_head p
    have hb : bef p = a := by rw [← ha]; unfold firstL; rw [if_pos hp]
    have hna : namB a = true := by rw [← hb]; exact h1.1 _ (by rw [ht]; exact List.mem_cons_self ..)
    have hha : has a = false := by rw [← hb]; exact has_bef p
    unfold pthB nms
    rw [if_neg hn, spl_not a hha]
    simp [hna]
  refine (und_iff _ _).2 ⟨hpa, hp, .inr ?_⟩
  rw [ha] at e
  cases hh : has p
  · rw [hh] at e
    exact .inl (by simpa using e.symm)
  · rw [hh] at e
    simp only [if_true] at e
    exact .inr ⟨restL p, by rw [List.append_assoc]; exact e.symm⟩
/-- a file at its first name stands alone there -/
theorem Gd.lone {d : Nat} {x : TF} {L : List TF} (h : Gd d (x :: L)) (hx : x.pa.data.toList = fstF x) : ∀ y ∈ L, fstF y ≠ fstF x := fun y hy e => by
  have h0 := h.ok x (List.mem_cons_self ..)
  have h1 := h.ok y (List.mem_cons_of_mem _ hy)
  have hu := first_und x.pa.data.toList y.pa.data.toList h1.2.1 (by rw [hx]; exact e) h0.1
  have := h.und x (List.mem_cons_self ..) y (List.mem_cons_of_mem _ hy) hu
  subst this
  exact absurd ((List.pairwise_cons.1 h.rise).1 x hy) (List.lt_irrefl _)
/-- what stands at the front under a first name, and what is behind it -/
def frontF (a : List UInt8) (L : List TF) : List TF := L.takeWhile fun x => decide (fstF x = a)
def backF (a : List UInt8) (L : List TF) : List TF := L.dropWhile fun x => decide (fstF x = a)
theorem front_back (a : List UInt8) (L : List TF) : L = frontF a L ++ backF a L := (List.takeWhile_append_dropWhile ..).symm
theorem tw_all {X : Type} (p : X → Bool) : ∀ (L : List X), ∀ x ∈ L.takeWhile p, p x = true := by
  intro L
  induction L with
  | nil => intro x hx; simp at hx
  | cons y L ih =>
    intro x hx
    rw [List.takeWhile_cons] at hx
    split at hx
    · rename_i h
      rcases List.mem_cons.1 hx with rfl | hx
      · exact h
      · exact ih x hx
    · simp at hx
theorem front_all (a : List UInt8) (L : List TF) : ∀ x ∈ frontF a L, fstF x = a := fun x hx => by
  unfold frontF at hx
  exact of_decide_eq_true (tw_all (fun x => decide (fstF x = a)) L x hx)
theorem back_none : ∀ (a : List UInt8) (L : List TF) (d : Nat), Gd d L → (∀ y ∈ L, ¬ fstF y < a) → ∀ y ∈ backF a L, a < fstF y := by
  intro a L
  induction L with
  | nil => intro d _ _ y hy; simp [backF] at hy
  | cons x L ih =>
    intro d h hle y hy
    unfold backF at hy
    rw [List.dropWhile_cons] at hy
    by_cases hx : fstF x = a
    · rw [if_pos (by simpa using hx)] at hy
      exact ih d (h.sub (List.sublist_cons_self ..)) (fun z hz => hle z (List.mem_cons_of_mem _ hz)) y hy
    · rw [if_neg (by simpa using hx)] at hy
      have hax : a < fstF x := by
        rcases tri a (fstF x) with h' | h' | h'
        · exact h'
        · exact absurd h'.symm hx
        · exact absurd h' (hle x (List.mem_cons_self ..))
      rcases List.mem_cons.1 hy with rfl | hy
      · exact hax
      · rcases tri (fstF x) (fstF y) with h' | h' | h'
        · exact List.lt_trans hax h'
        · exact h' ▸ hax
        · exact absurd h' (h.fst_le y hy)
theorem Gd.back {d : Nat} {x : TF} {L : List TF} (h : Gd d (x :: L)) : ∀ y ∈ backF (fstF x) (x :: L), fstF x < fstF y :=
  back_none (fstF x) (x :: L) d h (fun y hy => by
    rcases List.mem_cons.1 hy with rfl | hy
    · exact List.lt_irrefl _
    · exact h.fst_le y hy)
theorem Gd.names {d : Nat} {x : TF} {L : List TF} (h : Gd d (x :: L)) : namF (x :: L) = fstF x :: namF (backF (fstF x) (x :: L)) := by
  refine rises_uniq _ _ (rises_namesB _) (List.pairwise_cons.2 ⟨fun y hy => ?_, rises_namesB _⟩) (fun y => ?_)
  · obtain ⟨z, hz, rfl⟩ := List.mem_map.1 ((mem_namesB _ _).1 hy)
    exact h.back z hz
  · unfold namF
    rw [mem_namesB, List.mem_cons, mem_namesB]
    constructor
    · intro hy
      obtain ⟨z, hz, rfl⟩ := List.mem_map.1 hy
      rw [front_back (fstF x) (x :: L)] at hz
      rcases List.mem_append.1 hz with hz | hz
      · exact .inl (front_all _ _ z hz)
      · exact .inr (List.mem_map.2 ⟨z, hz, rfl⟩)
    · rintro (rfl | hy)
      · exact List.mem_map.2 ⟨x, List.mem_cons_self .., rfl⟩
      · obtain ⟨z, hz, rfl⟩ := List.mem_map.1 hy
        exact List.mem_map.2 ⟨z, by rw [front_back (fstF x) (x :: L)]; exact List.mem_append_right _ hz, rfl⟩
theorem Gd.part_back {d : Nat} {x : TF} {L : List TF} (h : Gd d (x :: L)) (b : List UInt8) (hb : b ∈ namF (backF (fstF x) (x :: L))) : partF (x :: L) b = partF (backF (fstF x) (x :: L)) b := by
  obtain ⟨z, hz, rfl⟩ := List.mem_map.1 ((mem_namesB _ _).1 hb)
  have hlt := h.back z hz
  unfold partF
  conv => lhs; rw [front_back (fstF x) (x :: L)]
  rw [List.filter_append]
  have : (frontF (fstF x) (x :: L)).filter (fun y => decide (fstF y = fstF z)) = [] := by
    rw [List.filter_eq_nil_iff]
    intro y hy
    rw [front_all _ _ y hy]
    simp only [decide_eq_true_eq]
    intro e
    rw [e] at hlt
    exact List.lt_irrefl _ hlt
  rw [this, List.nil_append]
theorem Gd.part_front {d : Nat} {x : TF} {L : List TF} (h : Gd d (x :: L)) : partF (x :: L) (fstF x) = (frontF (fstF x) (x :: L)).map rstF := by
  unfold partF
  conv => lhs; rw [front_back (fstF x) (x :: L)]
  rw [List.filter_append]
  have h1 : (backF (fstF x) (x :: L)).filter (fun y => decide (fstF y = fstF x)) = [] := by
    rw [List.filter_eq_nil_iff]
    intro y hy
    simp only [decide_eq_true_eq]
    intro e
    have := h.back y hy
    rw [e] at this
    exact List.lt_irrefl _ this
  have h2 : (frontF (fstF x) (x :: L)).filter (fun y => decide (fstF y = fstF x)) = frontF (fstF x) (x :: L) := List.filter_eq_self.2 (fun y hy => by simpa using front_all _ _ y hy)
  rw [h1, h2, List.append_nil]
/-- a tree's texts: those of the first name, then those of what is behind -/
theorem lay_cons {d k : Nat} {x : TF} {L : List TF} (h : Gd k (x :: L)) : layD (d + 1) (x :: L) = ((grpOf (layD d (partF (x :: L) (fstF x))) (fstF x) (partF (x :: L) (fstF x))).1 ++ (layD (d + 1) (backF (fstF x) (x :: L))).1, (grpOf (layD d (partF (x :: L) (fstF x))) (fstF x) (partF (x :: L) (fstF x))).2 :: (layD (d + 1) (backF (fstF x) (x :: L))).2) := by
  have e : ∀ b ∈ namF (backF (fstF x) (x :: L)), partF (x :: L) b = partF (backF (fstF x) (x :: L)) b := h.part_back
  simp only [layD]
  rw [h.names, List.flatMap_cons, List.map_cons]
  refine Prod.ext ?_ ?_
  · simp only
    congr 1
    rw [List.flatMap_def, List.flatMap_def]
    congr 1
    exact List.map_congr_left (fun b hb => by rw [e b hb])
  · simp only
    congr 1
    exact List.map_congr_left (fun b hb => by rw [e b hb])
end Go.Proofs.Ytgbcgchnnmgmfaa.M
namespace Go.Proofs.Ytgbcgchnnmgmfaa.M
open Go.RowKit Go.Proofs.Ytgbcgchnnmgmfaa.W

theorem lt_cancel : ∀ (a u v : List UInt8), a ++ u < a ++ v → u < v := by
  intro a
  induction a with
  | nil => intro u v h; exact h
  | cons c a ih =>
    intro u v h
    rw [List.cons_append, List.cons_append, List.cons_lt_cons_iff] at h
    rcases h with h | ⟨_, h⟩
    · exact absurd h (UInt8.lt_irrefl _)
    · exact ih u v h
/-- a path under its first name, not that name: what is behind -/
theorem deep_parts (p : List UInt8) (hp : pthB p = true) (hn : p ≠ []) (hne : p ≠ firstL p) : p = firstL p ++ 47 :: restL p ∧ restL p ≠ [] ∧ pthB (restL p) = true ∧ (nms p).length = (nms (restL p)).length + 1 := by
  have ha : firstL p ≠ [] := by
    intro e
    have h1 := pth_of p hn
    rw [hp] at h1
    simp only [Bool.true_eq, Bool.and_eq_true, List.all_eq_true] at h1
    obtain ⟨t, ht⟩ := spl_head p
    have hb : bef p = [] := by rw [← e]; unfold firstL; rw [if_pos hp]
    have := h1.1 [] (by rw [ht, hb]; exact List.mem_cons_self ..)
    exact absurd this (by decide)
  have hu := first_und (firstL p) p hp rfl ha
  have e := path_parts p hp
  have hh : has p = true := by
    cases h : has p
    · rw [h] at e; exact absurd (by simpa using e) hne
    · rfl
  rw [hh] at e
  simp only [if_true] at e
  obtain ⟨h1, _, h3, h4, h5, _⟩ := und_split (firstL p) p hu (fun e => hne e.symm)
  have hb : behind (firstL p) p = restL p := by
    unfold behind
    rw [if_neg ha]
    have h9 : p.drop ((firstL p).length + 1) = (firstL p ++ 47 :: restL p).drop ((firstL p).length + 1) := congrArg _ e
    rw [h9, show firstL p ++ 47 :: restL p = (firstL p ++ [47]) ++ restL p by simp]
    exact List.drop_left' (by simp)
  rw [hb] at h3 h4 h5
  refine ⟨e, h3, h4, ?_⟩
  rw [h5, List.length_append]
  have : nms (firstL p) = [firstL p] := by
    unfold nms
    rw [if_neg ha, spl_not]
    unfold firstL
    rw [if_pos hp]
    exact has_bef p
  rw [this]
  simp; omega
theorem Gd.deep {d : Nat} {x : TF} {L : List TF} (h : Gd d (x :: L)) (hx : x.pa.data.toList ≠ fstF x) : ∀ y ∈ frontF (fstF x) (x :: L), y ∈ x :: L ∧ y.pa.data.toList = fstF x ++ 47 :: restL y.pa.data.toList ∧ restL y.pa.data.toList ≠ [] ∧ pthB (restL y.pa.data.toList) = true ∧ (nms y.pa.data.toList).length = (nms (restL y.pa.data.toList)).length + 1 := fun y hy => by
  have hm : y ∈ x :: L := by
    rw [front_back (fstF x) (x :: L)]; exact List.mem_append_left _ hy
  have ha := front_all _ _ y hy
  have hok := h.ok y hm
  have hok0 := h.ok x (List.mem_cons_self ..)
  have hne : y.pa.data.toList ≠ firstL y.pa.data.toList := fun e => by
    have e2 : y.pa.data.toList = fstF x := by rw [← ha]; exact e
    have hu : undB y.pa.data.toList x.pa.data.toList = true := by
      rw [e2]
      exact first_und _ _ hok0.2.1 rfl (by rw [← e2]; exact hok.1)
    have := h.und y hm x (List.mem_cons_self ..) hu
    subst this
    exact hx e2
  have hp := deep_parts _ hok.2.1 hok.1 hne
  have e3 : firstL y.pa.data.toList = fstF x := ha
  rw [e3] at hp
  exact ⟨hm, hp⟩
theorem rst_list (y : TF) : (rstF y).pa.data.toList = restL y.pa.data.toList := by simp [rstF]
theorem Gd.part {d : Nat} {x : TF} {L : List TF} (h : Gd (d + 1) (x :: L)) (hx : x.pa.data.toList ≠ fstF x) : Gd d ((frontF (fstF x) (x :: L)).map rstF) := by
  have hd := h.deep hx
  refine ⟨fun z hz => ?_, ?_, fun z hz z' hz' hu => ?_⟩
  · obtain ⟨y, hy, rfl⟩ := List.mem_map.1 hz
    obtain ⟨hm, _, h2, h3, h4⟩ := hd y hy
    have := (h.ok y hm).2.2
    rw [rst_list]
    exact ⟨h2, h3, by omega⟩
  · have hr : RiseF (frontF (fstF x) (x :: L)) := List.Pairwise.sublist (List.takeWhile_sublist _) h.rise
    unfold RiseF
    rw [List.pairwise_map]
    refine List.Pairwise.imp_of_mem (fun {y z} hy hz hlt => ?_) hr
    rw [rst_list, rst_list]
    rw [(hd y hy).2.1, (hd z hz).2.1] at hlt
    have := lt_cancel (fstF x ++ [47]) (restL y.pa.data.toList) (restL z.pa.data.toList) (by simpa using hlt)
    exact this
  · obtain ⟨y, hy, rfl⟩ := List.mem_map.1 hz
    obtain ⟨y', hy', rfl⟩ := List.mem_map.1 hz'
    obtain ⟨hm, e1, h2, _, _⟩ := hd y hy
    obtain ⟨hm', e2, _, _, _⟩ := hd y' hy'
    rw [rst_list, rst_list] at hu
    have hu2 : undB y.pa.data.toList y'.pa.data.toList = true := by
      obtain ⟨_, _, h3⟩ := (und_iff _ _).1 hu
      refine (und_iff _ _).2 ⟨(h.ok y hm).2.1, (h.ok y' hm').2.1, .inr ?_⟩
      rcases h3 with h3 | h3 | ⟨t, h3⟩
      · exact absurd h3 h2
      · exact .inl (by rw [e1, e2, h3])
      · exact .inr ⟨t, by rw [e1, e2, ← h3]; simp⟩
    have := h.und y hm y' hm' hu2
    rw [this]
theorem front_head (x : TF) (L : List TF) : frontF (fstF x) (x :: L) = x :: L.takeWhile fun y => decide (fstF y = fstF x) := by
  unfold frontF
  rw [List.takeWhile_cons, if_pos (by simp)]
theorem back_head (x : TF) (L : List TF) : backF (fstF x) (x :: L) = L.dropWhile fun y => decide (fstF y = fstF x) := by
  unfold backF
  rw [List.dropWhile_cons, if_pos (by simp)]
theorem Gd.alone {d : Nat} {x : TF} {L : List TF} (h : Gd d (x :: L)) (hx : x.pa.data.toList = fstF x) : frontF (fstF x) (x :: L) = [x] ∧ backF (fstF x) (x :: L) = L := by
  have hl := h.lone hx
  rw [front_head, back_head]
  cases L with
  | nil => exact ⟨rfl, rfl⟩
  | cons y L =>
    have := hl y (List.mem_cons_self ..)
    rw [List.takeWhile_cons, if_neg (by simpa using this), List.dropWhile_cons, if_neg (by simpa using this)]
    exact ⟨rfl, rfl⟩
theorem lay_leaf {d k : Nat} {x : TF} {L : List TF} (h : Gd k (x :: L)) (hx : x.pa.data.toList = fstF x) : layD (d + 1) (x :: L) = (leafB x.by_ :: (layD (d + 1) L).1, ⟨⟨(fstF x).toArray⟩, false, idOfN (leafB x.by_).data.toList⟩ :: (layD (d + 1) L).2) := by
  obtain ⟨e1, e2⟩ := h.alone hx
  rw [lay_cons h, e2, h.part_front, e1]
  have hr : (rstF x).pa.data.toList = [] := by
    rw [rst_list]
    have hp := (h.ok x (List.mem_cons_self ..)).2.1
    have e := path_parts x.pa.data.toList hp
    cases hh : has x.pa.data.toList
    · unfold restL
      rw [if_pos hp]
      rcases idx_cases x.pa.data.toList with ⟨_, _, _, h4⟩ | ⟨_, _, _, h3, _, _⟩
      · exact h4
      · rw [hh] at h3; cases h3
    · rw [hh] at e
      simp only [if_true] at e
      have hl := congrArg List.length e
      have hl2 := congrArg List.length hx
      unfold fstF at hl2
      simp only [List.length_append, List.length_cons] at hl
      omega
  have hlp : leafP ([x].map rstF) = some (rstF x) := by
    show leafP [rstF x] = _
    unfold leafP
    simp only [hr, if_true]
  unfold grpOf
  rw [hlp]
  rfl
theorem lay_deep {d k : Nat} {x : TF} {L : List TF} (h : Gd k (x :: L)) (hx : x.pa.data.toList ≠ fstF x) : layD (d + 1) (x :: L) = (layT d ((frontF (fstF x) (x :: L)).map rstF) ++ (layD (d + 1) (backF (fstF x) (x :: L))).1, ⟨⟨(fstF x).toArray⟩, true, layI d ((frontF (fstF x) (x :: L)).map rstF)⟩ :: (layD (d + 1) (backF (fstF x) (x :: L))).2) := by
  rw [lay_cons h, h.part_front]
  have hd := (h.deep hx x (by rw [front_head]; exact List.mem_cons_self ..)).2.2.1
  have hlp : leafP ((frontF (fstF x) (x :: L)).map rstF) = none := by
    rw [front_head, List.map_cons]
    unfold leafP
    split
    · rename_i z hz
      rw [List.cons.injEq] at hz
      rw [← hz.1, rst_list, if_neg hd]
    · rfl
  unfold grpOf
  rw [hlp]
  rfl
end Go.Proofs.Ytgbcgchnnmgmfaa.M
