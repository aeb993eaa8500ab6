/-
  The walks of TreUnder, of the program and of the specification: the files that lie under a path, in new memory. At most 1048576 files, texts of at most 1048576 bytes.
  What lies at a path of a tree, and under it: a file there alone, or else each file under just one name. (For the law on TreUnder.)
  The files of a tree stand by their first names: what the program takes off the front is what the specification gathers. No condition.
-/
import Derived.Test.YthfffpdkmoclbaaGreatDoorMg07
import Derived.Test.YthfffpdkmoclbaaGreatDoorMg14
import Derived.Test.YthfffpdkmoclbaaGreatDoorMg05
import Derived.Test.YthfffpdkmoclbaaGreatDoorMg08
import Derived.Test.YthfffpdkmoclbaaGreatDoorMg38
import Derived.Test.YthfffpdkmoclbaaGreatDoorMg17
import Derived.Test.YthfffpdkmoclbaaGreatDoorMg13
namespace Go.Proofs.YthfffpdkmoclbaaGreatDoor.W
open Go.RowKit Go.Proofs.YthfffpdkmoclbaaGreatDoor.M

def undF (L : List TF) (p : ByteArray) : List TF := L.filter fun x => undB p.data.toList x.pa.data.toList
theorem undF_take (L : List TF) (p : ByteArray) (j : Nat) (h : j < L.length) : undF (L.take (j + 1)) p = undF (L.take j) p ++ (if undB p.data.toList (L[j]).pa.data.toList = true then [L[j]] else []) := by
  unfold undF
  rw [List.take_succ_eq_append_getElem h, List.filter_append]
  congr 1
  cases e : undB p.data.toList (L[j]).pa.data.toList <;> simp [e]
theorem undF_len (L : List TF) (p : ByteArray) (j : Nat) : (undF (L.take j) p).length ≤ j := by
  unfold undF
  refine Nat.le_trans (List.length_filter_le _ _) ?_
  simp; omega

end Go.Proofs.YthfffpdkmoclbaaGreatDoor.W
namespace Go.Proofs.YthfffpdkmoclbaaGreatDoor.M
open Go.RowKit Go.Proofs.YthfffpdkmoclbaaGreatDoor.W

/-- what begins with a name -/
theorem bef_is : ∀ (r a : List UInt8), has a = false → ((a = r ∨ (a ++ [47]) <+: r) ↔ bef r = a) := by
  intro r
  induction r with
  | nil =>
    intro a _
    have e : bef [] = [] := rfl
    rw [e]
    constructor
    · rintro (rfl | h)
      · rfl
      · have := h.length_le; simp at this
    · intro h; exact .inl h.symm
  | cons c l ih =>
    intro a ha
    by_cases hc : c = 47
    · subst hc
      have hb : bef (47 :: l) = [] := by simp [bef]
      rw [hb]
      cases a with
      | nil => simp
      | cons d a' =>
        by_cases hd : d = 47
        · subst hd; simp [has] at ha
        · simp [hd]
    · have hb : bef (c :: l) = c :: bef l := by simp [bef, hc]
      rw [hb]
      cases a with
      | nil => simp; exact fun e => hc e.symm
      | cons d a' =>
        by_cases hd : d = 47
        · subst hd; simp [has] at ha
        · have ha' : has a' = false := by simpa [has, hd] using ha
          have := ih a' ha'
          simp only [List.cons_append, List.cons_prefix_cons, List.cons.injEq]
          constructor
          · rintro (⟨h1, h2⟩ | ⟨h1, h2⟩)
            · exact ⟨h1.symm, this.1 (.inl h2)⟩
            · exact ⟨h1.symm, this.1 (.inr h2)⟩
          · rintro ⟨h1, h2⟩
            rcases this.2 h2 with h | h
            · exact .inl ⟨h1.symm, h⟩
            · exact .inr ⟨h1.symm, h⟩
theorem has_bef (r : List UInt8) : has (bef r) = false := by
  induction r with
  | nil => rfl
  | cons c l ih =>
    by_cases hc : c = 47
    · simp [bef, hc, has]
    · simp [bef, hc, has, ih]
theorem spl_mem (c : UInt8) : ∀ l : List UInt8, c ∈ l → c = 47 ∨ ∃ n ∈ spl l, c ∈ n := by
  intro l
  induction l with
  | nil => intro h; simp at h
  | cons d r ih =>
    intro h
    by_cases hd : d = 47
    · rcases List.mem_cons.1 h with rfl | h
      · exact .inl hd
      · rcases ih h with e | ⟨n, hn, hc⟩
        · exact .inl e
        · exact .inr ⟨n, by simp [spl, hd, hn], hc⟩
    · obtain ⟨x, t, e⟩ := spl_ne r
      rcases List.mem_cons.1 h with rfl | h
      · exact .inr ⟨c :: x, by simp [spl, hd, e], List.mem_cons_self ..⟩
      · rcases ih h with e' | ⟨n, hn, hc⟩
        · exact .inl e'
        · rw [e] at hn
          rcases List.mem_cons.1 hn with rfl | hn
          · exact .inr ⟨d :: n, by simp [spl, hd, e], List.mem_cons_of_mem _ hc⟩
          · exact .inr ⟨n, by simp [spl, hd, e, hn], hc⟩
theorem low_ge (c : UInt8) (h : low c = true) : 47 ≤ c := by
  unfold low at h
  simp only [Bool.and_eq_true, decide_eq_true_eq, UInt8.le_iff_toNat_le] at *
  have : (97 : UInt8).toNat = 97 := rfl
  have : (47 : UInt8).toNat = 47 := rfl
  omega
theorem pth_ge (l : List UInt8) (h : pthB l = true) : ∀ c ∈ l, 47 ≤ c := by
  intro c hc
  have hn : l ≠ [] := by rintro rfl; simp at hc
  have := pth_of l hn
  rw [h] at this
  simp only [Bool.true_eq, Bool.and_eq_true, List.all_eq_true] at this
  rcases spl_mem c l hc with rfl | ⟨n, hn, hcn⟩
  · exact UInt8.le_refl _
  · have := this.1 n hn
    unfold namB at this
    simp only [Bool.and_eq_true, List.all_eq_true] at this
    exact low_ge c (this.2.2 c hcn)
/-- what stands between a text and one under it begins with it -/
theorem between : ∀ (x z s : List UInt8), (∀ c ∈ z, 47 ≤ c) → x < z → ¬ (x ++ 47 :: s) < z → (x ++ [47]) <+: z := by
  intro x
  induction x with
  | nil =>
    intro z s hz h1 h2
    cases z with
    | nil => exact absurd h1 (List.lt_irrefl _)
    | cons c t =>
      have hc := hz c (List.mem_cons_self ..)
      have : ¬ 47 < c := fun h => h2 (by rw [List.nil_append, List.cons_lt_cons_iff]; exact .inl h)
      have : c = 47 := UInt8.le_antisymm (UInt8.not_lt.1 this) hc
      subst this
      simp
  | cons d x ih =>
    intro z s hz h1 h2
    cases z with
    | nil => exact absurd h1 (List.not_lt_nil _)
    | cons c t =>
      rw [List.cons_lt_cons_iff] at h1
      rw [List.cons_append, List.cons_lt_cons_iff] at h2
      rcases h1 with h1 | ⟨rfl, h1⟩
      · exact absurd (.inl h1) h2
      · have := ih t s (fun c hc => hz c (List.mem_cons_of_mem _ hc)) h1 (fun h => h2 (.inr ⟨rfl, h⟩))
        simpa using this
theorem und_lt (a b : List UInt8) (h : undB a b = true) (hn : a ≠ b) : a < b := by
  rcases tri a b with h' | h' | h'
  · exact h'
  · exact absurd h' hn
  · exfalso
    obtain ⟨_, _, h3⟩ := (und_iff a b).1 h
    rcases h3 with rfl | h3 | ⟨t, rfl⟩
    · exact List.not_lt_nil _ h'
    · exact hn h3
    · have : ∀ (x : List UInt8) (u : List UInt8), ¬ x ++ u < x := by
        intro x
        induction x with
        | nil => intro u h; exact List.not_lt_nil _ h
        | cons d x ih =>
          intro u h
          rw [List.cons_append, List.cons_lt_cons_iff] at h
          rcases h with h | ⟨_, h⟩
          · exact UInt8.lt_irrefl _ h
          · exact ih u h
      rw [List.append_assoc] at h'
      exact this a _ h'

/-- the parts of a tree's being one, file by file -/
theorem ok_get (L : List TF) (h : okT L = true) : L.length ≤ 60 ∧ (∀ i, i < L.length → g1 L i = true) ∧ (∀ i, i < L.length → g2 L i = true) := by
  unfold okT at h
  simp only [Bool.and_eq_true, decide_eq_true_eq, List.all_eq_true, List.mem_range] at h
  exact ⟨h.1, h.2.1, h.2.2⟩
theorem ok_at (L : List TF) (h : okT L = true) (i : Nat) (hi : i < L.length) : (L[i]).pa.data.toList ≠ [] ∧ pthB (L[i]).pa.data.toList = true ∧ (L[i]).by_.size ≤ 6 := by
  have := (ok_get L h).2.1 i hi
  unfold g1 at this
  simp only [Bool.and_eq_true, decide_eq_true_eq] at this
  rw [paL_at L i hi, byN_at L i hi] at this
  exact ⟨this.1, this.2.1, this.2.2.1⟩
theorem ok_mem (L : List TF) (h : okT L = true) (x : TF) (hx : x ∈ L) : x.pa.data.toList ≠ [] ∧ pthB x.pa.data.toList = true ∧ x.by_.size ≤ 6 := by
  obtain ⟨i, hi, rfl⟩ := List.mem_iff_getElem.1 hx
  exact ok_at L h i hi
/-- no file of a tree lies under another one -/
theorem ok_und (L : List TF) (h : okT L = true) (hr : RiseF L) (x y : TF) (hx : x ∈ L) (hy : y ∈ L) (hu : undB x.pa.data.toList y.pa.data.toList = true) : x = y := by
  obtain ⟨i, hi, rfl⟩ := List.mem_iff_getElem.1 hx
  obtain ⟨j, hj, rfl⟩ := List.mem_iff_getElem.1 hy
  have hR := fun a b ha hb hab => List.pairwise_iff_getElem.1 hr a b ha hb hab
  by_cases hij : i = j
  · subst hij; rfl
  exfalso
  have hne : (L[i]).pa.data.toList ≠ (L[j]).pa.data.toList := fun e => by
    rcases Nat.lt_or_gt_of_ne hij with h' | h'
    · have := hR i j hi hj h'; rw [e] at this; exact List.lt_irrefl _ this
    · have := hR j i hj hi h'; rw [e] at this; exact List.lt_irrefl _ this
  have hlt := und_lt _ _ hu hne
  have hij' : i < j := by
    rcases Nat.lt_or_gt_of_ne hij with h' | h'
    · exact h'
    · exact absurd (List.lt_trans hlt (hR j i hj hi h')) (List.lt_irrefl _)
  have hi1 : i + 1 < L.length := by omega
  have hz := hR i (i + 1) hi hi1 (by omega)
  have hle : ¬ (L[j]).pa.data.toList < (L[i + 1]).pa.data.toList := by
    by_cases e : j = i + 1
    · subst e; exact List.lt_irrefl _
    · exact fun h' => List.lt_irrefl _ (List.lt_trans h' (hR (i + 1) j hi1 hj (by omega)))
  obtain ⟨hp, _, h3⟩ := (und_iff _ _).1 hu
  have h0 := (ok_at L h i hi).1
  have h4 : ((L[i]).pa.data.toList ++ [47]) <+: (L[j]).pa.data.toList := by
    rcases h3 with h3 | h3 | h3
    · exact absurd h3 h0
    · exact absurd h3 hne
    · exact h3
  obtain ⟨s, hs⟩ := h4
  have hb := between (L[i]).pa.data.toList (L[i + 1]).pa.data.toList s (pth_ge _ (ok_at L h (i + 1) hi1).2.1) hz (by
    rw [← hs] at hle; simpa using hle)
  have hu2 : undB (L[i]).pa.data.toList (L[i + 1]).pa.data.toList = true := (und_iff _ _).2 ⟨hp, (ok_at L h (i + 1) hi1).2.1, .inr (.inr hb)⟩
  have := (ok_get L h).2.2 (i + 1) hi1
  unfold g2 at this
  rw [paL_at L (i + 1) hi1, show i + 1 - 1 = i from rfl, paL_at L i hi, hu2] at this
  simp at this
/-- files that rise, none under another -/
theorem ok_of (L : List TF) (h1 : L.length ≤ 60) (h2 : ∀ x ∈ L, x.pa.data.toList ≠ [] ∧ pthB x.pa.data.toList = true ∧ x.by_.size ≤ 6) (hr : RiseF L) (h3 : ∀ x ∈ L, ∀ y ∈ L, undB x.pa.data.toList y.pa.data.toList = true → x = y) : okT L = true := by
  refine goodT L h1 (fun i hi => ?_) (fun i hi => ?_)
  · unfold g1
    rw [paL_at L i hi, byN_at L i hi]
    obtain ⟨a, b, c⟩ := h2 _ (List.getElem_mem hi)
    by_cases h0 : i = 0
    · rw [decide_eq_true h0, decide_eq_true a, b, decide_eq_true c]; rfl
    · have hlt := List.pairwise_iff_getElem.1 hr (i - 1) i (by omega) hi (by omega)
      rw [paL_at L (i - 1) (by omega), bl_lt, decide_eq_true hlt, decide_eq_true a, b, decide_eq_true c]
      simp
  · unfold g2
    by_cases h0 : i = 0
    · simp [h0]
    · have hlt := List.pairwise_iff_getElem.1 hr (i - 1) i (by omega) hi (by omega)
      rw [paL_at L (i - 1) (by omega), paL_at L i hi]
      cases hu : undB (L[i - 1]).pa.data.toList (L[i]).pa.data.toList
      · simp
      · have e := h3 _ (List.getElem_mem (by omega)) _ (List.getElem_mem hi) hu
        rw [e] at hlt
        exact absurd hlt (List.lt_irrefl _)
theorem undF_ok (L : List TF) (p : ByteArray) (h : okT L = true) (hr : RiseF L) : okT (undF L p) = true ∧ RiseF (undF L p) := by
  have hs : (undF L p).Sublist L := List.filter_sublist
  have hr' : RiseF (undF L p) := List.Pairwise.sublist hs hr
  exact ⟨ok_of _ (Nat.le_trans hs.length_le (ok_get L h).1) (fun x hx => ok_mem L h x (hs.subset hx)) hr' (fun x hx y hy => ok_und L h hr x y (hs.subset hx) (hs.subset hy)), hr'⟩
theorem undF_all (L : List TF) (h : okT L = true) : undF L ⟨#[]⟩ = L := by
  unfold undF
  refine List.filter_eq_self.2 (fun x hx => ?_)
  show undB [] x.pa.data.toList = true
  rw [und_none]
  exact (ok_mem L h x hx).2.1
theorem undF_twice (L : List TF) (p : ByteArray) : undF (undF L p) p = undF L p := by
  unfold undF
  rw [List.filter_filter]
  simp
/-- a file at the path: it alone lies there -/
theorem und_here (L : List TF) (p t : ByteArray) (h : okT L = true) (hr : RiseF L) (hf : findF L p = some t) : (undF L p).length = 1 ∧ rawN L p.data.toList = [] := by
  have hin : ∃ x ∈ L, x.pa = p := by
    by_cases he : ∃ x ∈ L, x.pa = p
    · exact he
    · have := (findF_none_iff L p).2 (fun x hx e => he ⟨x, hx, e⟩)
      rw [this] at hf; cases hf
  obtain ⟨x, hx, rfl⟩ := hin
  have hall : ∀ y ∈ L, undB x.pa.data.toList y.pa.data.toList = true → y = x := fun y hy hu => (ok_und L h hr x y hx hy hu).symm
  have hxu : x ∈ undF L x.pa := List.mem_filter.2 ⟨hx, by rw [und_self]; exact (ok_mem L h x hx).2.1⟩
  refine ⟨?_, ?_⟩
  · have hr' := (undF_ok L x.pa h hr).2
    have hm : ∀ y ∈ undF L x.pa, y = x := fun y hy => hall y (List.mem_filter.1 hy).1 (List.mem_filter.1 hy).2
    match hU : undF L x.pa with
    | [] => rw [hU] at hxu; simp at hxu
    | [y] => rfl
    | y :: z :: l =>
      rw [hU] at hr' hm
      have e1 := hm y (by simp)
      have e2 := hm z (by simp)
      have := (List.pairwise_cons.1 hr').1 z (by simp)
      rw [e1, e2] at this
      exact absurd this (List.lt_irrefl _)
  · unfold rawN
    rw [List.map_eq_nil_iff, List.filter_eq_nil_iff]
    intro y hy hb
    simp only [Bool.and_eq_true, decide_eq_true_eq] at hb
    have := hall y hy hb.1
    subst this
    exact hb.2 rfl
theorem und_away (L : List TF) (p : ByteArray) (hf : findF L p = none) : (rawN L p.data.toList).length = (undF L p).length := by
  unfold rawN undF
  rw [List.length_map]
  congr 1
  refine List.filter_congr (fun x hx => ?_)
  have : p.data.toList ≠ x.pa.data.toList := fun e => (findF_none_iff L p).1 hf x hx (pa_eq e).symm
  simp [this]

/-- what lies under a name behind the path -/
theorem und_join (p a : List UInt8) (f : List UInt8) (hp : pthB p = true) (hpn : (nms p).length < 3) (ha : namB a = true) : undB (joinL p a) f = (undB p f && decide (p ≠ f) && decide (firstL (behind p f) = a)) := by
  have hna : a ≠ [] := by rintro rfl; exact absurd ha (by decide)
  have hha : has a = false := by
    cases hc : has a
    · rfl
    · exfalso
      have h47 : (47 : UInt8) ∈ a := by
        have : ∀ l : List UInt8, has l = true → (47 : UInt8) ∈ l := by
          intro l
          induction l with
          | nil => intro h; simp [has] at h
          | cons c r ih =>
            intro h
            by_cases e : c = 47
            · subst e; exact List.mem_cons_self ..
            · exact List.mem_cons_of_mem _ (ih (by simpa [has, e] using h))
        exact this a hc
      unfold namB at ha
      simp only [Bool.and_eq_true, List.all_eq_true] at ha
      exact absurd (ha.2.2 47 h47) (by decide)
  have hnm : nms a = [a] := by unfold nms; rw [if_neg hna, spl_not a hha]
  have hpa : pthB a = true := by unfold pthB; rw [hnm]; simp [ha]
  have hfit : (nms p).length + (nms a).length ≤ 3 := by rw [hnm]; simp; omega
  have hj := join_fit p a hp hpa hfit
  have hji := join_is p a hp hpa hfit
  rw [if_neg hna] at hji
  have hjn : joinL p a ≠ [] := by rw [hji]; split <;> simp [hna]
  have hpj := join_und p a hjn
  have hpj2 : p ≠ joinL p a := fun e => by
    have := hj.2
    rw [← e] at this
    have := congrArg List.length this
    rw [List.length_append, hnm] at this
    simp at this
  rw [Bool.eq_iff_iff]
  simp only [Bool.and_eq_true, decide_eq_true_eq]
  constructor
  · intro hu
    have hpf := und_trans _ _ _ hpj hu
    have hne : p ≠ f := by rintro rfl; exact hpj2 (und_anti _ _ hpj hu)
    refine ⟨⟨hpf, hne⟩, ?_⟩
    obtain ⟨_, hff, h3⟩ := (und_iff _ _).1 hu
    obtain ⟨_, _, hbn, hbp, _, _⟩ := und_split p f hpf hne
    unfold firstL
    rw [if_pos hbp]
    refine (bef_is _ a hha).1 ?_
    unfold behind
    by_cases he : p = []
    · rw [if_pos he] at hji ⊢
      rw [hji] at h3
      rcases h3 with h3 | h3 | h3
      · exact absurd h3 hna
      · exact .inl h3
      · exact .inr h3
    · rw [if_neg he] at hji ⊢
      rw [hji] at h3
      rcases h3 with h3 | h3 | h3
      · simp at h3
      · left; rw [← h3]; simp
      · right
        obtain ⟨s, rfl⟩ := h3
        have e9 : (p ++ 47 :: a ++ [47] ++ s).drop (p.length + 1) = a ++ [47] ++ s := by
          rw [show p ++ 47 :: a ++ [47] ++ s = (p ++ [47]) ++ (a ++ [47] ++ s) by simp]
          exact List.drop_left' (by simp)
        rw [e9]
        exact ⟨s, rfl⟩
  · rintro ⟨⟨hu, hne⟩, hfirst⟩
    obtain ⟨_, hff, hbn, hbp, _, _⟩ := und_split p f hu hne
    unfold firstL at hfirst
    rw [if_pos hbp] at hfirst
    have hor := (bef_is _ a hha).2 hfirst
    refine (und_iff _ _).2 ⟨hj.1, hff, .inr ?_⟩
    by_cases he : p = []
    · rw [if_pos he] at hji
      unfold behind at hor
      rw [if_pos he] at hor
      rw [hji]
      exact hor
    · rw [if_neg he] at hji
      have h4 : (p ++ [47]) <+: f := by
        obtain ⟨_, _, h3⟩ := (und_iff _ _).1 hu
        rcases h3 with h3 | h3 | h3
        · exact absurd h3 he
        · exact absurd h3 hne
        · exact h3
      obtain ⟨t, rfl⟩ := h4
      have hb : behind p (p ++ [47] ++ t) = t := by
        unfold behind
        rw [if_neg he]
        exact List.drop_left' (by simp)
      rw [hb] at hor
      rw [hji]
      rcases hor with rfl | ⟨s, rfl⟩
      · left; simp
      · right; exact ⟨s, by simp⟩
/-- the names behind a path are names, where there are any -/
theorem raw_name (L : List TF) (p a : List UInt8) (h : a ∈ rawN L p) : namB a = true ∧ pthB p = true ∧ (nms p).length < 3 := by
  unfold rawN at h
  obtain ⟨x, hx, rfl⟩ := List.mem_map.1 h
  obtain ⟨_, hb⟩ := List.mem_filter.1 hx
  simp only [Bool.and_eq_true, decide_eq_true_eq] at hb
  obtain ⟨hp, hf, _, hbp, hn, _⟩ := und_split p _ hb.1 hb.2
  have h1 := und_name p _ hb.1 hb.2
  have hle : (nms x.pa.data.toList).length ≤ 3 ∧ (nms x.pa.data.toList).all namB = true := by
    unfold pthB at hf
    simpa using hf
  refine ⟨?_, hp, by omega⟩
  exact List.all_eq_true.1 hle.2 _ (List.mem_of_getElem? h1.1)
theorem und_count (L : List TF) (p a : ByteArray) (h : a.data.toList ∈ rawN L p.data.toList) : (undF L (joinB p a)).length = (rawN L p.data.toList).count a.data.toList := by
  obtain ⟨h1, h2, h3⟩ := raw_name L _ _ h
  unfold undF rawN
  rw [List.count_eq_countP, List.countP_map, List.countP_filter, List.countP_eq_length_filter]
  congr 1
  refine List.filter_congr (fun x _ => ?_)
  rw [show (joinB p a).data.toList = joinL p.data.toList a.data.toList by unfold joinB; simp, und_join _ _ _ h2 h3 h1]
  rw [Bool.eq_iff_iff]
  simp only [Function.comp, Bool.and_eq_true, decide_eq_true_eq, beq_iff_eq]
  constructor
  · rintro ⟨h, e⟩; exact ⟨e, h⟩
  · rintro ⟨e, h⟩; exact ⟨h, e⟩
theorem sum_one (x : List UInt8) : ∀ N : List (List UInt8), N.Nodup → (N.map fun a => if x = a then 1 else 0).sum = if x ∈ N then 1 else 0 := by
  intro N
  induction N with
  | nil => intro _; simp
  | cons a N ih =>
    intro h
    obtain ⟨h1, h2⟩ := List.nodup_cons.1 h
    rw [List.map_cons, List.sum_cons, ih h2]
    by_cases e : x = a
    · subst e; simp [h1]
    · simp [e]
theorem sum_add (f g : List UInt8 → Nat) : ∀ N : List (List UInt8), (N.map fun a => f a + g a).sum = (N.map f).sum + (N.map g).sum := by
  intro N
  induction N with
  | nil => rfl
  | cons a N ih => simp only [List.map_cons, List.sum_cons, ih]; omega
theorem sum_count : ∀ (R N : List (List UInt8)), N.Nodup → (∀ x ∈ R, x ∈ N) → (N.map fun a => R.count a).sum = R.length := by
  intro R
  induction R with
  | nil =>
    intro N _ _
    have : ∀ M : List (List UInt8), (M.map fun a => ([] : List (List UInt8)).count a).sum = 0 := by
      intro M
      induction M with
      | nil => rfl
      | cons a M ih => rw [List.map_cons, List.sum_cons, ih]; rfl
    exact this N
  | cons x R ih =>
    intro N hn hm
    have h1 := ih N hn (fun y hy => hm y (List.mem_cons_of_mem _ hy))
    have h2 := sum_one x N hn
    rw [if_pos (hm x (List.mem_cons_self ..))] at h2
    have : (fun a => (x :: R).count a) = fun a => R.count a + (if x = a then 1 else 0) := by
      funext a
      rw [List.count_cons]
      by_cases e : x = a
      · simp [e]
      · simp [e]
    rw [this, sum_add, h1, h2, List.length_cons]
theorem nodup_rises (N : List (List UInt8)) (h : Rises N) : N.Nodup := h.imp (fun h e => by subst e; exact List.lt_irrefl _ h)
/-- how much lies under the first names -/
def sumU (L : List TF) (p : ByteArray) (N : List (List UInt8)) : Nat := (N.map fun a => (undF L (joinB p ⟨a.toArray⟩)).length).sum
theorem sumU_step (L : List TF) (p : ByteArray) (N : List (List UInt8)) (i : Nat) (h : i < N.length) : sumU L p (N.take (i + 1)) = sumU L p (N.take i) + (undF L (joinB p ⟨(N[i]).toArray⟩)).length := by
  unfold sumU
  rw [List.take_succ_eq_append_getElem h, List.map_append, List.sum_append]
  simp
theorem sumU_all (L : List TF) (p : ByteArray) : sumU L p (namesB (rawN L p.data.toList)) = (rawN L p.data.toList).length := by
  unfold sumU
  rw [← sum_count (rawN L p.data.toList) (namesB (rawN L p.data.toList)) (nodup_rises _ (rises_namesB _)) (fun x hx => (mem_namesB _ x).2 hx)]
  congr 1
  refine List.map_congr_left (fun a ha => ?_)
  have := und_count L p ⟨a.toArray⟩ (by simpa using (mem_namesB _ a).1 ha)
  simpa using this
theorem sumU_le (L : List TF) (p : ByteArray) (N : List (List UInt8)) (i : Nat) (hL : L.length ≤ 100) (hi : i ≤ 100) : sumU L p (N.take i) ≤ 10000 := by
  have : ∀ M : List (List UInt8), sumU L p M ≤ M.length * 100 := by
    intro M
    induction M with
    | nil => simp [sumU]
    | cons a M ih =>
      have h1 : sumU L p (a :: M) = (undF L (joinB p ⟨a.toArray⟩)).length + sumU L p M := by simp [sumU]
      have h2 : (undF L (joinB p ⟨a.toArray⟩)).length ≤ L.length := List.length_filter_le ..
      rw [h1, List.length_cons]
      omega
  have h1 := this (N.take i)
  have h2 : (N.take i).length ≤ 100 := by rw [List.length_take]; omega
  omega
/-- what the law asks at the end -/
theorem tre_end (L : List TF) (p : ByteArray) (h : okT L = true) (hr : RiseF L) : ((findF L p).isSome = true → (undF L p).length = 1 ∧ sumU L p (namesB (rawN L p.data.toList)) = 0) ∧ ((findF L p).isSome = false → sumU L p (namesB (rawN L p.data.toList)) = (undF L p).length) := by
  rw [sumU_all]
  cases hf : findF L p with
  | none => exact ⟨fun e => by simp at e, fun _ => und_away L p hf⟩
  | some t =>
    obtain ⟨h1, h2⟩ := und_here L p t h hr hf
    exact ⟨fun _ => ⟨h1, by rw [h2]; rfl⟩, fun e => by simp at e⟩
end Go.Proofs.YthfffpdkmoclbaaGreatDoor.M
namespace Go.Proofs.YthfffpdkmoclbaaGreatDoor.M
open Go.RowKit Go.Proofs.YthfffpdkmoclbaaGreatDoor.W

/-- files as a tree has them, to a depth -/
structure Gd (d : Nat) (L : List TF) : Prop where
  ok : ∀ x ∈ L, x.pa.data.toList ≠ [] ∧ pthB x.pa.data.toList = true ∧ (nms x.pa.data.toList).length ≤ d
  rise : RiseF L
  und : ∀ x ∈ L, ∀ y ∈ L, undB x.pa.data.toList y.pa.data.toList = true → x = y
theorem gd_ok (L : List TF) (h : okT L = true) (hr : RiseF L) : Gd 3 L := ⟨fun x hx => by
  obtain ⟨a, b, _⟩ := ok_mem L h x hx
  refine ⟨a, b, ?_⟩
  unfold pthB at b
  simp only [Bool.and_eq_true, decide_eq_true_eq] at b
  exact b.1, hr, fun x hx y hy hu => ok_und L h hr x y hx hy hu⟩
theorem Gd.sub {d : Nat} {L K : List TF} (h : Gd d L) (hs : K.Sublist L) : Gd d K := ⟨fun x hx => h.ok x (hs.subset hx), List.Pairwise.sublist hs h.rise, fun x hx y hy hu => h.und x (hs.subset hx) y (hs.subset hy) hu⟩
/-- a path is its first name and the rest -/
theorem path_parts (l : List UInt8) (hp : pthB l = true) : l = if has l then firstL l ++ 47 :: restL l else firstL l := by
  have h1 : firstL l = bef l := by unfold firstL; rw [if_pos hp]
  have h2 : restL l = aft l := by unfold restL; rw [if_pos hp]
  rw [h1, h2]
  have : ∀ r : List UInt8, r = if has r then bef r ++ 47 :: aft r else bef r := by
    intro r
    induction r with
    | nil => rfl
    | cons c r ih =>
      by_cases hc : c = 47
      · simp [has, bef, aft, hc]
      · have e : has (c :: r) = has r := by simp [has, hc]
        rw [e]
        simp only [bef, aft, hc, if_false]
        cases hr : has r
        · rw [hr] at ih
          simp only [Bool.false_eq_true, if_false] at ih ⊢
          rw [← ih]
        · rw [hr] at ih
          simp only [if_true] at ih ⊢
          rw [List.cons_append, ← ih]
  exact this l
/-- first names do not fall -/
theorem bef_mono : ∀ (p q : List UInt8), (∀ c ∈ p, 47 ≤ c) → p < q → ¬ bef q < bef p := by
  intro p
  induction p with
  | nil => intro q _ _ h; exact List.not_lt_nil _ h
  | cons c p ih =>
    intro q hq hlt
    cases q with
    | nil => exact absurd hlt (List.not_lt_nil _)
    | cons e q =>
      rw [List.cons_lt_cons_iff] at hlt
      by_cases he : e = 47
      · subst he
        rcases hlt with h | ⟨rfl, h⟩
        · exact absurd h (UInt8.not_lt.2 (hq c (List.mem_cons_self ..)))
        · simp [bef]
      · by_cases hc : c = 47
        · simp only [bef, hc, if_true]; exact List.not_lt_nil _
        · simp only [bef, hc, he, if_false]
          rw [List.cons_lt_cons_iff]
          rcases hlt with h | ⟨rfl, h⟩
          · rintro (h' | ⟨h', _⟩)
            · exact UInt8.lt_irrefl _ (UInt8.lt_trans h h')
            · subst h'; exact UInt8.lt_irrefl _ h
          · rintro (h' | ⟨_, h'⟩)
            · exact UInt8.lt_irrefl _ h'
            · exact ih q (fun c hc => hq c (List.mem_cons_of_mem _ hc)) h h'
theorem Gd.fst_le {d : Nat} {x : TF} {L : List TF} (h : Gd d (x :: L)) : ∀ y ∈ L, ¬ fstF y < fstF x := fun y hy => by
  have hx := h.ok x (List.mem_cons_self ..)
  have hY := h.ok y (List.mem_cons_of_mem _ hy)
  have hlt := (List.pairwise_cons.1 h.rise).1 y hy
  unfold fstF firstL
  rw [if_pos hx.2.1, if_pos hY.2.1]
  exact bef_mono _ _ (pth_ge _ hx.2.1) hlt
theorem first_und (a p : List UInt8) (hp : pthB p = true) (ha : firstL p = a) (hn : a ≠ []) : undB a p = true := by
  have e := path_parts p hp
  have hpa : pthB a = true := by
    have hne : p ≠ [] := by rintro rfl; exact hn ha.symm
    have h1 := pth_of p hne
    rw [hp] at h1
    simp only [Bool.true_eq, Bool.and_eq_true, List.all_eq_true] at h1
    obtain ⟨t, ht⟩ := spl_head p
    have hb : bef p = a := by rw [← ha]; unfold firstL; rw [if_pos hp]
    have hna : namB a = true := by rw [← hb]; exact h1.1 _ (by rw [ht]; exact List.mem_cons_self ..)
    have hha : has a = false := by rw [← hb]; exact has_bef p
    unfold pthB nms
    rw [if_neg hn, spl_not a hha]
    simp [hna]
  refine (und_iff _ _).2 ⟨hpa, hp, .inr ?_⟩
  rw [ha] at e
  cases hh : has p
  · rw [hh] at e
    exact .inl (by simpa using e.symm)
  · rw [hh] at e
    simp only [if_true] at e
    exact .inr ⟨restL p, by rw [List.append_assoc]; exact e.symm⟩
/-- a file at its first name stands alone there -/
theorem Gd.lone {d : Nat} {x : TF} {L : List TF} (h : Gd d (x :: L)) (hx : x.pa.data.toList = fstF x) : ∀ y ∈ L, fstF y ≠ fstF x := fun y hy e => by
  have h0 := h.ok x (List.mem_cons_self ..)
  have h1 := h.ok y (List.mem_cons_of_mem _ hy)
  have hu := first_und x.pa.data.toList y.pa.data.toList h1.2.1 (by rw [hx]; exact e) h0.1
  have := h.und x (List.mem_cons_self ..) y (List.mem_cons_of_mem _ hy) hu
  subst this
  exact absurd ((List.pairwise_cons.1 h.rise).1 x hy) (List.lt_irrefl _)
/-- what stands at the front under a first name, and what is behind it -/
def frontF (a : List UInt8) (L : List TF) : List TF := L.takeWhile fun x => decide (fstF x = a)
def backF (a : List UInt8) (L : List TF) : List TF := L.dropWhile fun x => decide (fstF x = a)
theorem front_back (a : List UInt8) (L : List TF) : L = frontF a L ++ backF a L := (List.takeWhile_append_dropWhile ..).symm
theorem tw_all {X : Type} (p : X → Bool) : ∀ (L : List X), ∀ x ∈ L.takeWhile p, p x = true := by
  intro L
  induction L with
  | nil => intro x hx; simp at hx
  | cons y L ih =>
    intro x hx
    rw [List.takeWhile_cons] at hx
    split at hx
    · rename_i h
      rcases List.mem_cons.1 hx with rfl | hx
      · exact h
      · exact ih x hx
    · simp at hx
theorem front_all (a : List UInt8) (L : List TF) : ∀ x ∈ frontF a L, fstF x = a := fun x hx => by
  unfold frontF at hx
  exact of_decide_eq_true (tw_all (fun x => decide (fstF x = a)) L x hx)
theorem back_none : ∀ (a : List UInt8) (L : List TF) (d : Nat), Gd d L → (∀ y ∈ L, ¬ fstF y < a) → ∀ y ∈ backF a L, a < fstF y := by
  intro a L
  induction L with
  | nil => intro d _ _ y hy; simp [backF] at hy
  | cons x L ih =>
    intro d h hle y hy
    unfold backF at hy
    rw [List.dropWhile_cons] at hy
    by_cases hx : fstF x = a
    · rw [if_pos (by simpa using hx)] at hy
      exact ih d (h.sub (List.sublist_cons_self ..)) (fun z hz => hle z (List.mem_cons_of_mem _ hz)) y hy
    · rw [if_neg (by simpa using hx)] at hy
      have hax : a < fstF x := by
        rcases tri a (fstF x) with h' | h' | h'
        · exact h'
        · exact absurd h'.symm hx
        · exact absurd h' (hle x (List.mem_cons_self ..))
      rcases List.mem_cons.1 hy with rfl | hy
      · exact hax
      · rcases tri (fstF x) (fstF y) with h' | h' | h'
        · exact List.lt_trans hax h'
        · exact h' ▸ hax
        · exact absurd h' (h.fst_le y hy)
theorem Gd.back {d : Nat} {x : TF} {L : List TF} (h : Gd d (x :: L)) : ∀ y ∈ backF (fstF x) (x :: L), fstF x < fstF y :=
  back_none (fstF x) (x :: L) d h (fun y hy => by
    rcases List.mem_cons.1 hy with rfl | hy
    · exact List.lt_irrefl _
    · exact h.fst_le y hy)
theorem Gd.names {d : Nat} {x : TF} {L : List TF} (h : Gd d (x :: L)) : namF (x :: L) = fstF x :: namF (backF (fstF x) (x :: L)) := by
  refine rises_uniq _ _ (rises_namesB _) (List.pairwise_cons.2 ⟨fun y hy => ?_, rises_namesB _⟩) (fun y => ?_)
  · obtain ⟨z, hz, rfl⟩ := List.mem_map.1 ((mem_namesB _ _).1 hy)
    exact h.back z hz
  · unfold namF
    rw [mem_namesB, List.mem_cons, mem_namesB]
    constructor
    · intro hy
      obtain ⟨z, hz, rfl⟩ := List.mem_map.1 hy
      rw [front_back (fstF x) (x :: L)] at hz
      rcases List.mem_append.1 hz with hz | hz
      · exact .inl (front_all _ _ z hz)
      · exact .inr (List.mem_map.2 ⟨z, hz, rfl⟩)
    · rintro (rfl | hy)
      · exact List.mem_map.2 ⟨x, List.mem_cons_self .., rfl⟩
      · obtain ⟨z, hz, rfl⟩ := List.mem_map.1 hy
        exact List.mem_map.2 ⟨z, by rw [front_back (fstF x) (x :: L)]; exact List.mem_append_right _ hz, rfl⟩
theorem Gd.part_back {d : Nat} {x : TF} {L : List TF} (h : Gd d (x :: L)) (b : List UInt8) (hb : b ∈ namF (backF (fstF x) (x :: L))) : partF (x :: L) b = partF (backF (fstF x) (x :: L)) b := by
  obtain ⟨z, hz, rfl⟩ := List.mem_map.1 ((mem_namesB _ _).1 hb)
  have hlt := h.back z hz
  unfold partF
  conv => lhs; rw [front_back (fstF x) (x :: L)]
  rw [List.filter_append]
  have : (frontF (fstF x) (x :: L)).filter (fun y => decide (fstF y = fstF z)) = [] := by
    rw [List.filter_eq_nil_iff]
    intro y hy
    rw [front_all _ _ y hy]
    simp only [decide_eq_true_eq]
    intro e
    rw [e] at hlt
    exact List.lt_irrefl _ hlt
  rw [this, List.nil_append]
theorem Gd.part_front {d : Nat} {x : TF} {L : List TF} (h : Gd d (x :: L)) : partF (x :: L) (fstF x) = (frontF (fstF x) (x :: L)).map rstF := by
  unfold partF
  conv => lhs; rw [front_back (fstF x) (x :: L)]
  rw [List.filter_append]
  have h1 : (backF (fstF x) (x :: L)).filter (fun y => decide (fstF y = fstF x)) = [] := by
    rw [List.filter_eq_nil_iff]
    intro y hy
    simp only [decide_eq_true_eq]
    intro e
    have := h.back y hy
    rw [e] at this
    exact List.lt_irrefl _ this
  have h2 : (frontF (fstF x) (x :: L)).filter (fun y => decide (fstF y = fstF x)) = frontF (fstF x) (x :: L) := List.filter_eq_self.2 (fun y hy => by simpa using front_all _ _ y hy)
  rw [h1, h2, List.append_nil]
/-- a tree's texts: those of the first name, then those of what is behind -/
theorem lay_cons {d k : Nat} {x : TF} {L : List TF} (h : Gd k (x :: L)) : layD (d + 1) (x :: L) = ((grpOf (layD d (partF (x :: L) (fstF x))) (fstF x) (partF (x :: L) (fstF x))).1 ++ (layD (d + 1) (backF (fstF x) (x :: L))).1, (grpOf (layD d (partF (x :: L) (fstF x))) (fstF x) (partF (x :: L) (fstF x))).2 :: (layD (d + 1) (backF (fstF x) (x :: L))).2) := by
  have e : ∀ b ∈ namF (backF (fstF x) (x :: L)), partF (x :: L) b = partF (backF (fstF x) (x :: L)) b := h.part_back
  simp only [layD]
  rw [h.names, List.flatMap_cons, List.map_cons]
  refine Prod.ext ?_ ?_
  · simp only
    congr 1
    rw [List.flatMap_def, List.flatMap_def]
    congr 1
    exact List.map_congr_left (fun b hb => by rw [e b hb])
  · simp only
    congr 1
    exact List.map_congr_left (fun b hb => by rw [e b hb])
end Go.Proofs.YthfffpdkmoclbaaGreatDoor.M
