/-
  What is taken off the front of a tree's files is a file, or a tree of less depth. No condition.
  Files read from a pool's sheets, to a depth; they rise; what was laid is read as it was. No condition.
  A row of numbers that is taken from at its front, or at its back, and appended to. At most 1000000 numbers.
-/
import Derived.Test.YthfffpdkmoclbaaGreatDoorMg39
import Derived.Test.YthfffpdkmoclbaaGreatDoorMg32
import Derived.Test.YthfffpdkmoclbaaGreatDoorMg28
import Derived.Test.YthfffpdkmoclbaaGreatDoorMg17
import Derived.Test.YthfffpdkmoclbaaGreatDoorMg33
import Derived.Test.YthfffpdkmoclbaaGreatDoorMg22
import Derived.ArgAppend
import Derived.Deep.Upon
import Derived.Deep.MidRow
namespace Go.Proofs.YthfffpdkmoclbaaGreatDoor.M
open Go.RowKit Go.Proofs.YthfffpdkmoclbaaGreatDoor.W

theorem lt_cancel : ∀ (a u v : List UInt8), a ++ u < a ++ v → u < v := by
  intro a
  induction a with
  | nil => intro u v h; exact h
  | cons c a ih =>
    intro u v h
    rw [List.cons_append, List.cons_append, List.cons_lt_cons_iff] at h
    rcases h with h | ⟨_, h⟩
    · exact absurd h (UInt8.lt_irrefl _)
    · exact ih u v h
/-- a path under its first name, not that name: what is behind -/
theorem deep_parts (p : List UInt8) (hp : pthB p = true) (hn : p ≠ []) (hne : p ≠ firstL p) : p = firstL p ++ 47 :: restL p ∧ restL p ≠ [] ∧ pthB (restL p) = true ∧ (nms p).length = (nms (restL p)).length + 1 := by
  have ha : firstL p ≠ [] := by
    intro e
    have h1 := pth_of p hn
    rw [hp] at h1
    simp only [Bool.true_eq, Bool.and_eq_true, List.all_eq_true] at h1
    obtain ⟨t, ht⟩ := spl_head p
    have hb : bef p = [] := by rw [← e]; unfold firstL; rw [if_pos hp]
    have := h1.1 [] (by rw [ht, hb]; exact List.mem_cons_self ..)
    exact absurd this (by decide)
  have hu := first_und (firstL p) p hp rfl ha
  have e := path_parts p hp
  have hh : has p = true := by
    cases h : has p
    · rw [h] at e; exact absurd (by simpa using e) hne
    · rfl
  rw [hh] at e
  simp only [if_true] at e
  obtain ⟨h1, _, h3, h4, h5, _⟩ := und_split (firstL p) p hu (fun e => hne e.symm)
  have hb : behind (firstL p) p = restL p := by
    unfold behind
    rw [if_neg ha]
    have h9 : p.drop ((firstL p).length + 1) = (firstL p ++ 47 :: restL p).drop ((firstL p).length + 1) := congrArg _ e
    rw [h9, show firstL p ++ 47 :: restL p = (firstL p ++ [47]) ++ restL p by simp]
    exact List.drop_left' (by simp)
  rw [hb] at h3 h4 h5
  refine ⟨e, h3, h4, ?_⟩
  rw [h5, List.length_append]
  have : nms (firstL p) = [firstL p] := by
    unfold nms
    rw [if_neg ha, spl_not]
    unfold firstL
    rw [if_pos hp]
    exact has_bef p
  rw [this]
  simp; omega
theorem Gd.deep {d : Nat} {x : TF} {L : List TF} (h : Gd d (x :: L)) (hx : x.pa.data.toList ≠ fstF x) : ∀ y ∈ frontF (fstF x) (x :: L), y ∈ x :: L ∧ y.pa.data.toList = fstF x ++ 47 :: restL y.pa.data.toList ∧ restL y.pa.data.toList ≠ [] ∧ pthB (restL y.pa.data.toList) = true ∧ (nms y.pa.data.toList).length = (nms (restL y.pa.data.toList)).length + 1 := fun y hy => by
  have hm : y ∈ x :: L := by
    rw [front_back (fstF x) (x :: L)]; exact List.mem_append_left _ hy
  have ha := front_all _ _ y hy
  have hok := h.ok y hm
  have hok0 := h.ok x (List.mem_cons_self ..)
  have hne : y.pa.data.toList ≠ firstL y.pa.data.toList := fun e => by
    have e2 : y.pa.data.toList = fstF x := by rw [← ha]; exact e
    have hu : undB y.pa.data.toList x.pa.data.toList = true := by
      rw [e2]
      exact first_und _ _ hok0.2.1 rfl (by rw [← e2]; exact hok.1)
    have := h.und y hm x (List.mem_cons_self ..) hu
    subst this
    exact hx e2
  have hp := deep_parts _ hok.2.1 hok.1 hne
  have e3 : firstL y.pa.data.toList = fstF x := ha
  rw [e3] at hp
  exact ⟨hm, hp⟩
theorem rst_list (y : TF) : (rstF y).pa.data.toList = restL y.pa.data.toList := by simp [rstF]
theorem Gd.part {d : Nat} {x : TF} {L : List TF} (h : Gd (d + 1) (x :: L)) (hx : x.pa.data.toList ≠ fstF x) : Gd d ((frontF (fstF x) (x :: L)).map rstF) := by
  have hd := h.deep hx
  refine ⟨fun z hz => ?_, ?_, fun z hz z' hz' hu => ?_⟩
  · obtain ⟨y, hy, rfl⟩ := List.mem_map.1 hz
    obtain ⟨hm, _, h2, h3, h4⟩ := hd y hy
    have := (h.ok y hm).2.2
    rw [rst_list]
    exact ⟨h2, h3, by omega⟩
  · have hr : RiseF (frontF (fstF x) (x :: L)) := List.Pairwise.sublist (List.takeWhile_sublist _) h.rise
    unfold RiseF
    rw [List.pairwise_map]
    refine List.Pairwise.imp_of_mem (fun {y z} hy hz hlt => ?_) hr
    rw [rst_list, rst_list]
    rw [(hd y hy).2.1, (hd z hz).2.1] at hlt
    have := lt_cancel (fstF x ++ [47]) (restL y.pa.data.toList) (restL z.pa.data.toList) (by simpa using hlt)
    exact this
  · obtain ⟨y, hy, rfl⟩ := List.mem_map.1 hz
    obtain ⟨y', hy', rfl⟩ := List.mem_map.1 hz'
    obtain ⟨hm, e1, h2, _, _⟩ := hd y hy
    obtain ⟨hm', e2, _, _, _⟩ := hd y' hy'
    rw [rst_list, rst_list] at hu
    have hu2 : undB y.pa.data.toList y'.pa.data.toList = true := by
      obtain ⟨_, _, h3⟩ := (und_iff _ _).1 hu
      refine (und_iff _ _).2 ⟨(h.ok y hm).2.1, (h.ok y' hm').2.1, .inr ?_⟩
      rcases h3 with h3 | h3 | ⟨t, h3⟩
      · exact absurd h3 h2
      · exact .inl (by rw [e1, e2, h3])
      · exact .inr ⟨t, by rw [e1, e2, ← h3]; simp⟩
    have := h.und y hm y' hm' hu2
    rw [this]
theorem front_head (x : TF) (L : List TF) : frontF (fstF x) (x :: L) = x :: L.takeWhile fun y => decide (fstF y = fstF x) := by
  unfold frontF
  rw [List.takeWhile_cons, if_pos (by simp)]
theorem back_head (x : TF) (L : List TF) : backF (fstF x) (x :: L) = L.dropWhile fun y => decide (fstF y = fstF x) := by
  unfold backF
  rw [List.dropWhile_cons, if_pos (by simp)]
theorem Gd.alone {d : Nat} {x : TF} {L : List TF} (h : Gd d (x :: L)) (hx : x.pa.data.toList = fstF x) : frontF (fstF x) (x :: L) = [x] ∧ backF (fstF x) (x :: L) = L := by
  have hl := h.lone hx
  rw [front_head, back_head]
  cases L with
  | nil => exact ⟨rfl, rfl⟩
  | cons y L =>
    have := hl y (List.mem_cons_self ..)
    rw [List.takeWhile_cons, if_neg (by simpa using this), List.dropWhile_cons, if_neg (by simpa using this)]
    exact ⟨rfl, rfl⟩
theorem lay_leaf {d k : Nat} {x : TF} {L : List TF} (h : Gd k (x :: L)) (hx : x.pa.data.toList = fstF x) : layD (d + 1) (x :: L) = (leafB x.by_ :: (layD (d + 1) L).1, ⟨⟨(fstF x).toArray⟩, false, idOfN (leafB x.by_).data.toList⟩ :: (layD (d + 1) L).2) := by
  obtain ⟨e1, e2⟩ := h.alone hx
  rw [lay_cons h, e2, h.part_front, e1]
  have hr : (rstF x).pa.data.toList = [] := by
    rw [rst_list]
    have hp := (h.ok x (List.mem_cons_self ..)).2.1
    have e := path_parts x.pa.data.toList hp
    cases hh : has x.pa.data.toList
    · unfold restL
      rw [if_pos hp]
      rcases idx_cases x.pa.data.toList with ⟨_, _, _, h4⟩ | ⟨_, _, _, h3, _, _⟩
      · exact h4
      · rw [hh] at h3; cases h3
    · rw [hh] at e
      simp only [if_true] at e
      have hl := congrArg List.length e
      have hl2 := congrArg List.length hx
      unfold fstF at hl2
      simp only [List.length_append, List.length_cons] at hl
      omega
  have hlp : leafP ([x].map rstF) = some (rstF x) := by
    show leafP [rstF x] = _
    unfold leafP
    simp only [hr, if_true]
  unfold grpOf
  rw [hlp]
  rfl
theorem lay_deep {d k : Nat} {x : TF} {L : List TF} (h : Gd k (x :: L)) (hx : x.pa.data.toList ≠ fstF x) : layD (d + 1) (x :: L) = (layT d ((frontF (fstF x) (x :: L)).map rstF) ++ (layD (d + 1) (backF (fstF x) (x :: L))).1, ⟨⟨(fstF x).toArray⟩, true, layI d ((frontF (fstF x) (x :: L)).map rstF)⟩ :: (layD (d + 1) (backF (fstF x) (x :: L))).2) := by
  rw [lay_cons h, h.part_front]
  have hd := (h.deep hx x (by rw [front_head]; exact List.mem_cons_self ..)).2.2.1
  have hlp : leafP ((frontF (fstF x) (x :: L)).map rstF) = none := by
    rw [front_head, List.map_cons]
    unfold leafP
    split
    · rename_i z hz
      rw [List.cons.injEq] at hz
      rw [← hz.1, rst_list, if_neg hd]
    · rfl
  unfold grpOf
  rw [hlp]
  rfl
end Go.Proofs.YthfffpdkmoclbaaGreatDoor.M
namespace Go.Proofs.YthfffpdkmoclbaaGreatDoor.W
open Go.RowKit Go.Proofs.YthfffpdkmoclbaaGreatDoor.M

def txtF (F : Int → Option ByteArray) (n : Int) : ByteArray := (F n).getD ByteArray.empty
/-- a name behind a path -/
def atP (p nm : List UInt8) : List UInt8 := if p = [] then nm else p ++ 47 :: nm
/-- the files of one entry -/
def rdOne (F : Int → Option ByteArray) (rd : Int → List UInt8 → Option (List TF)) (p : List UInt8) (e : OE) : Option (List TF) :=
  if e.sh = true then (match rd e.id (atP p e.nm.data.toList) with | some (x :: l) => some (x :: l) | _ => none)
  else if kd (txtF F e.id) = 1 then some [⟨⟨(atP p e.nm.data.toList).toArray⟩, byB (txtF F e.id)⟩] else none
def rdAll (F : Int → Option ByteArray) (rd : Int → List UInt8 → Option (List TF)) (p : List UInt8) : List OE → Option (List TF)
  | [] => some []
  | e :: l => match rdOne F rd p e with
    | none => none
    | some M => match rdAll F rd p l with
      | none => none
      | some K => some (M ++ K)
/-- the files under a sheet -/
def rdT (F : Int → Option ByteArray) : Nat → Int → List UInt8 → Option (List TF)
  | 0, _, _ => none
  | d + 1, id, p => if kd (txtF F id) = 2 then rdAll F (rdT F d) p (enL (txtF F id)) else none
/-- what TreRead answers -/
def treR (L : List PI) (id : Int) : Option (List TF) := if okP L = true then (match rdT (findP L) 3 id [] with | some M => if okT M = true then some M else none | none => none) else none

theorem rdAll_app (F : Int → Option ByteArray) (rd : Int → List UInt8 → Option (List TF)) (p : List UInt8) (A B : List OE) : rdAll F rd p (A ++ B) = match rdAll F rd p A with
    | none => none
    | some M => match rdAll F rd p B with
      | none => none
      | some K => some (M ++ K) := by
  induction A with
  | nil =>
    simp only [List.nil_append, rdAll]
    cases rdAll F rd p B <;> simp
  | cons e A ih =>
    simp only [List.cons_append, rdAll, ih]
    cases rdOne F rd p e with
    | none => rfl
    | some M =>
      simp only
      cases rdAll F rd p A with
      | none => rfl
      | some K =>
        simp only
        cases rdAll F rd p B <;> simp

/-- names of letters: what stands under the first one stands ahead of what stands under the next one -/
theorem under_lt : ∀ (a b s t : List UInt8), (∀ c ∈ a, 47 < c) → (∀ c ∈ b, 47 < c) → a < b → (s = [] ∨ ∃ r, s = 47 :: r) → a ++ s < b ++ t := by
  intro a
  induction a with
  | nil =>
    intro b s t _ hb h hs
    cases b with
    | nil => exact absurd h (List.lt_irrefl _)
    | cons c b =>
      rcases hs with rfl | ⟨r, rfl⟩
      · exact List.nil_lt_cons ..
      · rw [List.nil_append, List.cons_append, List.cons_lt_cons_iff]
        exact .inl (hb c (List.mem_cons_self ..))
  | cons c a ih =>
    intro b s t ha hb h hs
    cases b with
    | nil => exact absurd h (List.not_lt_nil _)
    | cons c' b =>
      rw [List.cons_lt_cons_iff] at h
      rw [List.cons_append, List.cons_append, List.cons_lt_cons_iff]
      rcases h with h | ⟨rfl, h⟩
      · exact .inl h
      · exact .inr ⟨rfl, ih b s t (fun x hx => ha x (List.mem_cons_of_mem _ hx)) (fun x hx => hb x (List.mem_cons_of_mem _ hx)) h hs⟩
theorem low_gt (l : List UInt8) (h : namB l = true) : ∀ c ∈ l, 47 < c := by
  unfold namB at h
  simp only [Bool.and_eq_true, List.all_eq_true] at h
  intro c hc
  have := h.2.2 c hc
  unfold low at this
  simp only [Bool.and_eq_true, decide_eq_true_eq] at this
  have h1 := this.1
  simp only [UInt8.lt_iff_toNat_lt] at h1 ⊢
  have e : (47 : UInt8).toNat = 47 := rfl
  have e2 : (97 : UInt8).toNat = 97 := rfl
  omega
/-- it lies under a name behind a path -/
def Und1 (p : List UInt8) (nm : List UInt8) (x : TF) : Prop := ∃ s, x.pa.data.toList = atP p nm ++ s ∧ (s = [] ∨ ∃ r, s = 47 :: r)
theorem atP_ne (p nm : List UInt8) (h : nm ≠ []) : atP p nm ≠ [] := by
  unfold atP
  split
  · exact h
  · simp
theorem und1_lt (p a b : List UInt8) (x y : TF) (ha : namB a = true) (hb : namB b = true) (h : a < b) (hx : Und1 p a x) (hy : Und1 p b y) : x.pa.data.toList < y.pa.data.toList := by
  obtain ⟨s, e1, hs⟩ := hx
  obtain ⟨t, e2, _⟩ := hy
  have := under_lt a b s t (low_gt a ha) (low_gt b hb) h hs
  rw [e1, e2]
  unfold atP
  split
  · exact this
  · have h2 : p ++ [47] ++ (a ++ s) < p ++ [47] ++ (b ++ t) := List.append_left_lt this
    simpa using h2
/-- what is read rises; each file lies under one of the entries -/
theorem rdAll_rise (F : Int → Option ByteArray) (rd : Int → List UInt8 → Option (List TF)) (p : List UInt8)
    (hrd : ∀ id q M, rd id q = some M → q ≠ [] → RiseF M ∧ ∀ x ∈ M, ∃ r, x.pa.data.toList = q ++ 47 :: r) :
    ∀ (E : List OE) (M : List TF), (∀ e ∈ E, namB e.nm.data.toList = true) → E.Pairwise (fun a b => a.nm.data.toList < b.nm.data.toList) → rdAll F rd p E = some M → RiseF M ∧ ∀ x ∈ M, ∃ e ∈ E, Und1 p e.nm.data.toList x := by
  intro E
  induction E with
  | nil =>
    intro M _ _ h
    simp only [rdAll, Option.some.injEq] at h
    subst h
    exact ⟨List.Pairwise.nil, fun x hx => by cases hx⟩
  | cons e E ih =>
    intro M hn hr h
    obtain ⟨r1, r2⟩ := List.pairwise_cons.1 hr
    simp only [rdAll] at h
    cases ho : rdOne F rd p e with
    | none => rw [ho] at h; cases h
    | some A =>
      rw [ho] at h
      simp only at h
      cases hk : rdAll F rd p E with
      | none => rw [hk] at h; cases h
      | some K =>
        rw [hk] at h
        simp only [Option.some.injEq] at h
        subst h
        obtain ⟨k1, k2⟩ := ih K (fun x hx => hn x (List.mem_cons_of_mem _ hx)) r2 hk
        have hne := hn e (List.mem_cons_self ..)
        have hnn : e.nm.data.toList ≠ [] := by
          intro h0
          rw [h0] at hne
          exact absurd hne (by decide)
        have hA : RiseF A ∧ ∀ x ∈ A, Und1 p e.nm.data.toList x := by
          unfold rdOne at ho
          split at ho
          · cases hq : rd e.id (atP p e.nm.data.toList) with
            | none => rw [hq] at ho; cases ho
            | some B =>
              rw [hq] at ho
              cases B with
              | nil => cases ho
              | cons x l =>
                cases ho
                obtain ⟨b1, b2⟩ := hrd _ _ _ hq (atP_ne _ _ hnn)
                refine ⟨b1, fun y hy => ?_⟩
                obtain ⟨r, e9⟩ := b2 y hy
                exact ⟨47 :: r, e9, .inr ⟨r, rfl⟩⟩
          · split at ho
            · cases ho
              refine ⟨List.pairwise_singleton _ _, fun y hy => ?_⟩
              obtain rfl := List.mem_singleton.1 hy
              exact ⟨[], by simp, .inl rfl⟩
            · cases ho
        refine ⟨List.pairwise_append.2 ⟨hA.1, k1, fun x hx y hy => ?_⟩, fun x hx => ?_⟩
        · obtain ⟨e', he', hu⟩ := k2 y hy
          exact und1_lt p _ _ x y hne (hn e' (List.mem_cons_of_mem _ he')) (r1 e' he') (hA.2 x hx) hu
        · rcases List.mem_append.1 hx with hx | hx
          · exact ⟨e, List.mem_cons_self .., hA.2 x hx⟩
          · obtain ⟨e', he', hu⟩ := k2 x hx
            exact ⟨e', List.mem_cons_of_mem _ he', hu⟩
theorem enL_ok (s : ByteArray) (h : kd s = 2) : okL ((enL s).map enO) = true := by
  cases he : sheetI (s.data.toList.drop 1) with
  | none => exact absurd h (kd_ne s (.inr he))
  | some es =>
    have hen : enL s = es.map oeOf := by unfold enL; rw [if_pos h, he]; rfl
    have hm : (enL s).map enO = es := by
      rw [hen, List.map_map]
      conv => rhs; rw [← List.map_id es]
      exact List.map_congr_left fun x _ => en_oe x
    rw [hm]
    exact ((sheetI_iff _ _).1 he).1
theorem rise_pair : ∀ es : List En, riseB es = true → es.Pairwise fun a b => a.nm < b.nm := by
  intro es
  induction es with
  | nil => intro _; exact List.Pairwise.nil
  | cons a es ih =>
    intro h
    cases es with
    | nil => exact List.pairwise_singleton _ _
    | cons b es =>
      simp only [riseB, Bool.and_eq_true] at h
      have h1 : a.nm < b.nm := by have := h.1; rw [bl_lt] at this; simpa using this
      have h2 := ih h.2
      refine List.pairwise_cons.2 ⟨fun c hc => ?_, h2⟩
      rcases List.mem_cons.1 hc with rfl | hc
      · exact h1
      · exact List.lt_trans h1 ((List.pairwise_cons.1 h2).1 c hc)
theorem enL_rise (s : ByteArray) (h : kd s = 2) : (∀ e ∈ enL s, namB e.nm.data.toList = true) ∧ (enL s).Pairwise (fun a b => a.nm.data.toList < b.nm.data.toList) := by
  obtain ⟨_, h2, h3⟩ := okL_parts _ (enL_ok s h)
  constructor
  · intro e he
    rw [List.all_eq_true] at h2
    exact (okE_parts _ (h2 (enO e) (List.mem_map.2 ⟨e, he, rfl⟩))).1
  · have := rise_pair _ h3
    rw [List.pairwise_map] at this
    exact this
theorem rdT_rise (F : Int → Option ByteArray) : ∀ (d : Nat) (id : Int) (p : List UInt8) (M : List TF), rdT F d id p = some M → RiseF M ∧ (p ≠ [] → ∀ x ∈ M, ∃ r, x.pa.data.toList = p ++ 47 :: r) := by
  intro d
  induction d with
  | zero => intro id p M h; cases h
  | succ d ih =>
    intro id p M h
    unfold rdT at h
    split at h
    · rename_i hk
      obtain ⟨h1, h2⟩ := enL_rise _ hk
      obtain ⟨h3, h4⟩ := rdAll_rise F (rdT F d) p (fun id q M hq hn => ⟨(ih id q M hq).1, (ih id q M hq).2 hn⟩) _ M h1 h2 h
      refine ⟨h3, fun hp x hx => ?_⟩
      obtain ⟨e, _, s, e9, _⟩ := h4 x hx
      unfold atP at e9
      rw [if_neg hp] at e9
      exact ⟨e.nm.data.toList ++ s, by rw [e9]; simp⟩
    · cases h
/-- a path ahead of a file's -/
def preF (p : List UInt8) (x : TF) : TF := ⟨⟨(atP p x.pa.data.toList).toArray⟩, x.by_⟩
theorem preF_nil (x : TF) : preF [] x = x := by
  obtain ⟨a, b⟩ := x
  unfold preF atP
  rw [if_pos rfl]
theorem leaf_good (b : ByteArray) (h : b.size ≤ 6) : kd (leafB b) = 1 ∧ byB (leafB b) = b := (leaf_yes b h).2
theorem sheetOf_shB (E : List OE) : sheetOf E = shB E := rfl
/-- what is laid is made of entries that a sheet takes -/
theorem layE_ok (d k : Nat) : ∀ (n : Nat) (L : List TF), L.length ≤ n → Gd k L → (layD (d + 1) L).2.length ≤ L.length ∧ (∀ e ∈ (layD (d + 1) L).2, okE (enO e) = true ∧ ∃ x ∈ L, e.nm.data.toList = fstF x) ∧ (layD (d + 1) L).2.Pairwise (fun a b => a.nm.data.toList < b.nm.data.toList) := by
  intro n
  induction n with
  | zero =>
    intro L hl _
    obtain rfl : L = [] := List.eq_nil_of_length_eq_zero (by omega)
    have e : (layD (d + 1) ([] : List TF)).2 = [] := rfl
    rw [e]
    exact ⟨Nat.le_refl _, (fun e he => by cases he), List.Pairwise.nil⟩
  | succ n ih =>
    intro L hl hg
    cases L with
    | nil =>
      have e : (layD (d + 1) ([] : List TF)).2 = [] := rfl
      rw [e]
      exact ⟨Nat.le_refl _, (fun e he => by cases he), List.Pairwise.nil⟩
    | cons x L =>
      have hsub : (backF (fstF x) (x :: L)).Sublist (x :: L) := List.dropWhile_sublist _
      have hlen : (backF (fstF x) (x :: L)).length ≤ L.length := by
        rw [back_head]; exact (List.dropWhile_sublist _).length_le
      obtain ⟨i1, i2, i3⟩ := ih (backF (fstF x) (x :: L)) (by simp at hl; omega) (hg.sub hsub)
      have hx := hg.ok x (List.mem_cons_self ..)
      have hna : namB (fstF x) = true := by
        have h1 := pth_of x.pa.data.toList hx.1
        rw [hx.2.1] at h1
        simp only [Bool.true_eq, Bool.and_eq_true, List.all_eq_true] at h1
        obtain ⟨t, ht⟩ := spl_head x.pa.data.toList
        have := h1.1 (bef x.pa.data.toList) (by rw [ht]; exact List.mem_cons_self ..)
        unfold fstF firstL
        rw [if_pos hx.2.1]
        exact this
      have key : ∀ (s : Bool) (id : Nat), 1 ≤ id → id ≤ 4294967295 → okE (enO (⟨⟨(fstF x).toArray⟩, s, (id : Int)⟩ : OE)) = true := by
        intro s id h1 h2
        unfold okE enO
        simp only [Bool.and_eq_true, decide_eq_true_eq]
        exact ⟨hna, by omega, by omega⟩
      have back : ∀ e ∈ (layD (d + 1) (backF (fstF x) (x :: L))).2, okE (enO e) = true ∧ (∃ y ∈ x :: L, e.nm.data.toList = fstF y) ∧ fstF x < e.nm.data.toList := by
        intro e he
        obtain ⟨j1, y, hy, j2⟩ := i2 e he
        exact ⟨j1, ⟨y, hsub.subset hy, j2⟩, j2 ▸ hg.back y hy⟩
      have fin : ∀ (s : Bool) (id : Nat), 1 ≤ id → id ≤ 4294967295 → (layD (d + 1) (x :: L)).2 = ⟨⟨(fstF x).toArray⟩, s, (id : Int)⟩ :: (layD (d + 1) (backF (fstF x) (x :: L))).2 → (layD (d + 1) (x :: L)).2.length ≤ (x :: L).length ∧ (∀ e ∈ (layD (d + 1) (x :: L)).2, okE (enO e) = true ∧ ∃ x' ∈ x :: L, e.nm.data.toList = fstF x') ∧ (layD (d + 1) (x :: L)).2.Pairwise (fun a b => a.nm.data.toList < b.nm.data.toList) := by
        intro s id h1 h2 e
        rw [e]
        refine ⟨by simp; omega, fun e' he => ?_, List.pairwise_cons.2 ⟨fun e' he => (back e' he).2.2, i3⟩⟩
        rcases List.mem_cons.1 he with rfl | he
        · exact ⟨key s id h1 h2, x, List.mem_cons_self .., rfl⟩
        · exact ⟨(back e' he).1, (back e' he).2.1⟩
      by_cases hp : x.pa.data.toList = fstF x
      · have e := lay_leaf (d := d) hg hp
        rw [← (hg.alone hp).2] at e
        have hb := idOfN_bd (leafB x.by_).data.toList
        refine fin false (idOfN (leafB x.by_).data.toList) hb.1 hb.2 ?_
        have e2 := congrArg Prod.snd e
        simp only at e2
        rw [(hg.alone hp).2] at e2 ⊢
        exact e2
      · have e := lay_deep (d := d) hg hp
        have hb := idOfN_bd (sheetOf (layD d ((frontF (fstF x) (x :: L)).map rstF)).2).data.toList
        exact fin true _ hb.1 hb.2 (congrArg Prod.snd e)
theorem sheet_good (d k : Nat) (L : List TF) (hl : L.length ≤ 60) (hg : Gd k L) : kd (sheetOf (layD (d + 1) L).2) = 2 ∧ enL (sheetOf (layD (d + 1) L).2) = (layD (d + 1) L).2 := by
  obtain ⟨h1, h2, h3⟩ := layE_ok d k L.length L (Nat.le_refl _) hg
  have hok : okL ((layD (d + 1) L).2.map enO) = true := by
    unfold okL
    simp only [Bool.and_eq_true, decide_eq_true_eq]
    refine ⟨by simp; omega, ?_, ?_⟩
    · rw [List.all_eq_true]
      intro e he
      obtain ⟨y, hy, rfl⟩ := List.mem_map.1 he
      exact (h2 y hy).1
    · refine rise_of _ fun j hj => ?_
      rw [bl_lt, decide_eq_true_eq]
      have := List.pairwise_iff_getElem.1 h3 j (j + 1) (by simp at hj; omega) (by simpa using hj) (by omega)
      simpa [enO] using this
  have := sheet_yes _ hok
  exact this.2
/-- what was laid is read as it was -/
theorem read_laid (F : Int → Option ByteArray) : ∀ (d : Nat) (L : List TF) (p : List UInt8), L.length ≤ 60 → Gd d L → (∀ x ∈ L, x.by_.size ≤ 6) → 0 < d →
    (∀ t ∈ layT d L, F (idOfN t.data.toList) = some t) → rdT F d (layI d L) p = some (L.map (preF p)) := by
  intro d
  induction d with
  | zero => intro L p _ _ _ h0; exact absurd h0 (Nat.lt_irrefl _)
  | succ d ih =>
    intro L p hl hg hs _ hF
    have hsheet := hF (sheetOf (layD (d + 1) L).2) (by unfold layT; exact List.mem_append_right _ (List.mem_cons_self ..))
    obtain ⟨g1, g2⟩ := sheet_good d (d + 1) L hl hg
    have htx : txtF F (layI (d + 1) L) = sheetOf (layD (d + 1) L).2 := by unfold txtF layI; rw [hsheet]; rfl
    unfold rdT
    rw [htx, if_pos g1, g2]
    have hF2 : ∀ t ∈ (layD (d + 1) L).1, F (idOfN t.data.toList) = some t := fun t ht => hF t (by unfold layT; exact List.mem_append_left _ ht)
    clear hF hsheet g1 g2 htx
    have main : ∀ (n : Nat) (L : List TF), L.length ≤ n → L.length ≤ 60 → Gd (d + 1) L → (∀ x ∈ L, x.by_.size ≤ 6) → (∀ t ∈ (layD (d + 1) L).1, F (idOfN t.data.toList) = some t) → rdAll F (rdT F d) p (layD (d + 1) L).2 = some (L.map (preF p)) := by
      intro n
      induction n with
      | zero =>
        intro L hl _ _ _ _
        obtain rfl : L = [] := List.eq_nil_of_length_eq_zero (by omega)
        rfl
      | succ n ihn =>
        intro L hl h60 hg hs hF
        cases L with
        | nil => rfl
        | cons x L =>
          by_cases hp : x.pa.data.toList = fstF x
          · have e := lay_leaf (d := d) hg hp
            rw [e] at hF ⊢
            have hx := hF (leafB x.by_) (List.mem_cons_self ..)
            obtain ⟨l1, l2⟩ := leaf_good x.by_ (hs x (List.mem_cons_self ..))
            have ht : txtF F (idOfN (leafB x.by_).data.toList) = leafB x.by_ := by unfold txtF; rw [hx]; rfl
            have hrest := ihn L (by simp at hl; omega) (by simp at h60; omega) (hg.sub (List.sublist_cons_self ..)) (fun y hy => hs y (List.mem_cons_of_mem _ hy)) (fun t ht => hF t (List.mem_cons_of_mem _ ht))
            have ho : rdOne F (rdT F d) p ⟨⟨(fstF x).toArray⟩, false, (idOfN (leafB x.by_).data.toList : Int)⟩ = some [preF p x] := by
              unfold rdOne
              rw [if_neg (by simp)]
              simp only
              rw [ht, if_pos l1, l2]
              unfold preF
              rw [hp]
            simp only [rdAll, ho, hrest, List.map_cons, List.singleton_append]
          · have e := lay_deep (d := d) hg hp
            rw [e] at hF ⊢
            have hgp := hg.part hp
            have hfl : ((frontF (fstF x) (x :: L)).map rstF).length ≤ 60 := by
              rw [List.length_map]
              exact Nat.le_trans (List.takeWhile_sublist _).length_le h60
            have hlen : (backF (fstF x) (x :: L)).length ≤ L.length := by
              rw [back_head]; exact (List.dropWhile_sublist _).length_le
            have hsub : (backF (fstF x) (x :: L)).Sublist (x :: L) := List.dropWhile_sublist _
            have hd := hg.deep hp
            have hd0 : 0 < d := by
              have h1 := (hgp.ok (rstF x) (List.mem_map.2 ⟨x, by rw [front_head]; exact List.mem_cons_self .., rfl⟩))
              have h2 : 1 ≤ (nms (rstF x).pa.data.toList).length := by
                unfold nms
                rw [if_neg h1.1]
                obtain ⟨t, ht⟩ := spl_head (rstF x).pa.data.toList
                rw [ht]; simp
              have := h1.2.2
              omega
            have hin := ih ((frontF (fstF x) (x :: L)).map rstF) (atP p (fstF x)) hfl hgp (fun y hy => by
              obtain ⟨z, hz, rfl⟩ := List.mem_map.1 hy
              exact hs z ((hd z hz).1)) hd0 (fun t ht => hF t (List.mem_append_left _ ht))
            have hrest := ihn (backF (fstF x) (x :: L)) (by simp at hl; omega) (by simp at h60; omega) (hg.sub hsub) (fun y hy => hs y (hsub.subset hy)) (fun t ht => hF t (List.mem_append_right _ ht))
            have hfst : fstF x ≠ [] := by
              intro h0
              have h1 := (hd x (by rw [front_head]; exact List.mem_cons_self ..)).2.1
              have h2 := (hg.ok x (List.mem_cons_self ..)).2.1
              have h3 := pth_of x.pa.data.toList (hg.ok x (List.mem_cons_self ..)).1
              rw [h2] at h3
              simp only [Bool.true_eq, Bool.and_eq_true, List.all_eq_true] at h3
              obtain ⟨t, ht⟩ := spl_head x.pa.data.toList
              have hb : bef x.pa.data.toList = [] := by rw [← h0]; unfold fstF firstL; rw [if_pos h2]
              have := h3.1 [] (by rw [ht, hb]; exact List.mem_cons_self ..)
              exact absurd this (by decide)
            have hpre : ((frontF (fstF x) (x :: L)).map rstF).map (preF (atP p (fstF x))) = (frontF (fstF x) (x :: L)).map (preF p) := by
              rw [List.map_map]
              refine List.map_congr_left fun y hy => ?_
              obtain ⟨_, e1, _⟩ := hd y hy
              simp only [Function.comp]
              unfold preF
              rw [rst_list]
              have : atP (atP p (fstF x)) (restL y.pa.data.toList) = atP p y.pa.data.toList := by
                have hne := atP_ne p (fstF x) hfst
                conv => rhs; rw [e1]
                unfold atP at hne ⊢
                rw [if_neg hne]
                split <;> simp
              rw [this]
              rfl
            have ho : rdOne F (rdT F d) p ⟨⟨(fstF x).toArray⟩, true, (layI d ((frontF (fstF x) (x :: L)).map rstF) : Int)⟩ = some ((frontF (fstF x) (x :: L)).map (preF p)) := by
              unfold rdOne
              rw [if_pos rfl]
              simp only
              rw [hin, hpre]
              rw [front_head, List.map_cons]
            have hall : (x :: L).map (preF p) = (frontF (fstF x) (x :: L)).map (preF p) ++ (backF (fstF x) (x :: L)).map (preF p) := by
              rw [← List.map_append, ← front_back]
            simp only [rdAll, ho, hrest]
            rw [hall]
    exact main L.length L (Nat.le_refl _) hl hg hs hF2
/-- each text that is laid is an object's -/
theorem laid_kind : ∀ (d : Nat) (L : List TF), L.length ≤ 60 → Gd d L → (∀ x ∈ L, x.by_.size ≤ 6) → 0 < d → ∀ t ∈ layT d L, kd t ≠ 0 := by
  intro d
  induction d with
  | zero => intro L _ _ _ h0; exact absurd h0 (Nat.lt_irrefl _)
  | succ d ih =>
    intro L hl hg hs _ t ht
    unfold layT at ht
    rcases List.mem_append.1 ht with ht | ht
    · have main : ∀ (n : Nat) (L : List TF), L.length ≤ n → L.length ≤ 60 → Gd (d + 1) L → (∀ x ∈ L, x.by_.size ≤ 6) → ∀ t ∈ (layD (d + 1) L).1, kd t ≠ 0 := by
        intro n
        induction n with
        | zero =>
          intro L hl _ _ _ t ht
          obtain rfl : L = [] := List.eq_nil_of_length_eq_zero (by omega)
          cases ht
        | succ n ihn =>
          intro L hl h60 hg hs t ht
          cases L with
          | nil => cases ht
          | cons x L =>
            by_cases hp : x.pa.data.toList = fstF x
            · rw [lay_leaf (d := d) hg hp] at ht
              rcases List.mem_cons.1 ht with rfl | ht
              · rw [(leaf_good x.by_ (hs x (List.mem_cons_self ..))).1]; decide
              · exact ihn L (by simp at hl; omega) (by simp at h60; omega) (hg.sub (List.sublist_cons_self ..)) (fun y hy => hs y (List.mem_cons_of_mem _ hy)) t ht
            · rw [lay_deep (d := d) hg hp] at ht
              have hgp := hg.part hp
              have hd := hg.deep hp
              have hlen : (backF (fstF x) (x :: L)).length ≤ L.length := by
                rw [back_head]; exact (List.dropWhile_sublist _).length_le
              have hsub : (backF (fstF x) (x :: L)).Sublist (x :: L) := List.dropWhile_sublist _
              rcases List.mem_append.1 ht with ht | ht
              · have hd0 : 0 < d := by
                  have h1 := (hgp.ok (rstF x) (List.mem_map.2 ⟨x, by rw [front_head]; exact List.mem_cons_self .., rfl⟩))
                  have h2 : 1 ≤ (nms (rstF x).pa.data.toList).length := by
                    unfold nms
                    rw [if_neg h1.1]
                    obtain ⟨t, ht⟩ := spl_head (rstF x).pa.data.toList
                    rw [ht]; simp
                  have := h1.2.2
                  omega
                exact ih _ (by rw [List.length_map]; exact Nat.le_trans (List.takeWhile_sublist _).length_le h60) hgp (fun y hy => by
                  obtain ⟨z, hz, rfl⟩ := List.mem_map.1 hy
                  exact hs z ((hd z hz).1)) hd0 t ht
              · exact ihn _ (by simp at hl; omega) (by simp at h60; omega) (hg.sub hsub) (fun y hy => hs y (hsub.subset hy)) t ht
      exact main L.length L (Nat.le_refl _) hl hg hs t ht
    · obtain rfl : t = sheetOf (layD (d + 1) L).2 := by simpa using ht
      rw [(sheet_good d (d + 1) L hl hg).1]; decide
end Go.Proofs.YthfffpdkmoclbaaGreatDoor.W
namespace Go.Proofs.YthfffpdkmoclbaaGreatDoor.W
open Go.RowKit

/-- the slice holds these numbers, somewhere in a block of the call's own -/
def Que (B : Nat) (w : World) (v : Value) (T : List Int) : Prop :=
  ∃ g off cap cur, v = .slice (some ⟨g, off, none⟩) T.length cap ∧ B ≤ g ∧ g < w.heap.size ∧ w.heap[g]? = some (.cells cur 3 (0, 0)) ∧ T.length ≤ cap ∧ cap ≤ maxLen ∧ off + cap ≤ cur.size ∧ ∀ j (h : j < T.length), cur[off + j]? = some (.int .i64 T[j])
theorem lt_of_heap {w : World} {g : Nat} {o : Obj} (h : w.heap[g]? = some o) : g < w.heap.size := (Array.getElem?_eq_some_iff.1 h).1
theorem Que.of_own {B g cap : Nat} {w : World} {T : List Int} (h : w.ownsRow B 3 1 (.slice (some ⟨g, 0, none⟩) T.length cap) T.length (cellsI T)) : Que B w (.slice (some ⟨g, 0, none⟩) T.length cap) T := by
  rcases h.2 with ⟨h', _⟩ | ⟨g', cap', cur, h', hB, hg, h1, h2, h3, h4⟩
  · cases h'
  · cases h'
    refine ⟨g, 0, cap, cur, rfl, hB, lt_of_heap hg, hg, h1, h2, by omega, fun j hj => ?_⟩
    have e : (cellsI T)[j]? = some (.int .i64 T[j]) := by simp [cellsI, hj]
    rw [← h4, List.getElem?_take, if_pos (by omega)] at e
    rw [Nat.zero_add]
    simpa using e
theorem Que.kept {B : Nat} {w w' : World} {v : Value} {T : List Int} {r : Option Nat} (h : Que B w v T) (hg : w.grownBy w' r) (hr : v.ownBlock = none ∨ v.ownBlock ≠ r) : Que B w' v T := by
  obtain ⟨g, off, cap, cur, rfl, h1, h2, h3, h4, h5, h6, h7⟩ := h
  refine ⟨g, off, cap, cur, rfl, h1, Nat.lt_of_lt_of_le h2 hg.size, ?_, h4, h5, h6, h7⟩
  rw [hg.block g h2 (fun e => ?_)]
  · exact h3
  · rcases hr with hr | hr
    · cases hr
    · exact hr (by rw [← e]; rfl)
theorem Que.below {B : Nat} {w w' : World} {v : Value} {T : List Int} (h : Que B w v T) (hb : Below w.heap.size w w') : Que B w' v T :=
  h.kept (r := none) ⟨hb.os, hb.tape, hb.output, hb.size, fun k hk _ => hb.block k hk⟩ (by cases v <;> simp [Value.ownBlock] <;> split <;> simp_all)
theorem Que.up {B B' : Nat} {w : World} {v : Value} {T : List Int} (h : Que B w v T) (hB : B' ≤ B) : Que B' w v T := by
  obtain ⟨g, off, cap, cur, rfl, h1, h2⟩ := h
  exact ⟨g, off, cap, cur, rfl, by omega, h2⟩
theorem setCells_block {g : Nat} {ty : TypeId} : ∀ (vs : List Value) (o : Nat) (w : World) (cur : Array Value), w.heap[g]? = some (.cells cur ty (0, 0)) → ∃ cur', (w.setCells g o vs).heap[g]? = some (.cells cur' ty (0, 0)) ∧ cur'.size = cur.size
  | [], _, _, cur, h => ⟨cur, h, rfl⟩
  | v :: r, o, w, cur, h => by
    obtain ⟨cur', h1, h2⟩ := setCells_block r (o + 1) (w.setCell ⟨g, o, none⟩ v) _ (heap_setCell_same w g o cur ty v h)
    exact ⟨cur', h1, by rw [h2]; simp⟩
theorem setCells_grown (g : Nat) : ∀ (vs : List Value) (o : Nat) (w : World), w.grownBy (w.setCells g o vs) (some g)
  | [], _, w => ⟨rfl, rfl, rfl, Nat.le_refl _, fun _ _ _ => rfl⟩
  | v :: r, o, w => by
    have h := setCells_grown g r (o + 1) (w.setCell ⟨g, o, none⟩ v)
    have h0 : w.grownBy (w.setCell ⟨g, o, none⟩ v) (some g) := ⟨rfl, rfl, rfl, by simp [World.setCell], fun k _ hn => Below.heap_setCell _ _ _ _ (fun e => hn (by rw [e]))⟩
    exact ⟨h.os.trans h0.os, h.tape.trans h0.tape, h.output.trans h0.output, Nat.le_trans h0.size h.size, fun k hk hn => (h.block k (Nat.lt_of_lt_of_le hk h0.size) hn).trans (h0.block k hk hn)⟩
theorem cellsI_at (T : List Int) (j : Nat) (u : Value) (h : (cellsI T)[j]? = some u) : ∃ hj : j < T.length, u = .int .i64 T[j] := by
  have hj : j < T.length := by
    have := (List.getElem?_eq_some_iff.1 h).1
    simpa [cellsI] using this
  refine ⟨hj, ?_⟩
  have e : (cellsI T)[j]? = some (.int .i64 T[j]) := by simp [cellsI, hj]
  rw [e] at h
  exact (Option.some.inj h).symm
theorem cellsI_len (T : List Int) : (cellsI T).length = T.length := by simp [cellsI]
section
variable {P : Program} (w : World)
theorem run_append_que (B : Nat) (t ty : TypeId) (i : TypeInfo) (ht : P.underlying t = some (.slice 3)) (hi : P.info? 3 = some i) (hz : i.zero = some (.int .i64 0)) (hsize : i.size = 1) (hby : i.bytes = 8)
    (v : Value) (T : List Int) (hq : Que B w v T) (A : Option Addr) (c : Nat) (U : List Int) (hU : RdI w.heap.size w A U) (hl : T.length + U.length ≤ 1000000) (hB : B ≤ w.heap.size) :
    ∃ v' w', (Builtin.append_ #[t, t] ty #[v, .slice A U.length c]).run P w = .ok v' w' ∧ Que B w' v' (T ++ U) ∧ w.grownBy w' v.ownBlock ∧ (v'.ownBlock = v.ownBlock ∨ ∃ k, v'.ownBlock = some k ∧ w.heap.size ≤ k) := by
  obtain ⟨g, off, cap, cur, rfl, q1, q2, q3, q4, q5, q6, q7⟩ := hq
  cases U with
  | nil =>
    have hs : Go.Src P i.size t (.slice A 0 c) 0 [] w := by
      cases A with
      | none => exact Go.Src.ofNil w ht c
      | some a => exact Go.Src.ofSlice w ht a 0 c [] (by simp) (fun j u h => by simp at h) (fun u h => by simp at h)
    refine ⟨_, w, run_append_nothing w t t ty _ i ht hi (some ⟨g, off, none⟩) T.length cap q4 _ hs, ?_, ⟨rfl, rfl, rfl, Nat.le_refl _, fun _ _ _ => rfl⟩, .inl rfl⟩
    rw [List.append_nil]
    exact ⟨g, off, cap, cur, rfl, q1, q2, q3, q4, q5, q6, q7⟩
  | cons x U =>
    obtain ⟨b, o, rfl, hb, _⟩ := hU 0 (by simp)
    have hn : ∀ j u, (cellsI (x :: U))[j]? = some u → w.cell? ((⟨b, o, none⟩ : Addr).add j) = some u := by
      intro j u h
      obtain ⟨hj, rfl⟩ := cellsI_at _ j u h
      obtain ⟨b', o', e, _, hc⟩ := hU j hj
      cases e
      have hadd : (⟨b, o, none⟩ : Addr).add j = ⟨b, o + j, none⟩ := by unfold Addr.add; split <;> simp_all
      rw [hadd]; exact hc
    have h1 : ∀ u ∈ cellsI (x :: U), u.oneCell' = true := by
      intro u hu
      unfold cellsI at hu
      obtain ⟨y, _, rfl⟩ := List.mem_map.1 hu
      rfl
    have hll := cellsI_len (x :: U)
    by_cases hroom : T.length + (x :: U).length ≤ cap
    · have hr := run_append_room_cells (P := P) w t ty _ i ht hi g off T.length cap ⟨b, o, none⟩ (x :: U).length c (cellsI (x :: U)) (by rw [hll, hsize, Nat.mul_one]) hn h1 hroom
        (fun j hj => by
          rw [hsize, Nat.mul_one]
          have : off + T.length + j < cur.size := by omega
          rw [cell_of_row w g (off + T.length + j) cur _ (0, 0) q3]
          simp [this])
        (fun j hj => bkFrozen q3)
      rw [hsize, Nat.mul_one] at hr
      obtain ⟨cur', k1, k2⟩ := setCells_block (cellsI (x :: U)) (off + T.length) w cur q3
      refine ⟨_, _, hr, ?_, setCells_grown g _ _ w, .inl rfl⟩
      refine ⟨g, off, cap, cur', by rw [List.length_append], q1, lt_of_heap k1, k1, by rw [List.length_append]; exact hroom, q5, by omega, fun j hj => ?_⟩
      rw [← cell_of_row _ g (off + j) cur' _ (0, 0) k1]
      by_cases hjl : j < T.length
      · rw [World.cell?_setCells_out g _ _ _ _ (fun _ _ => .inl (by show off + j < off + T.length; omega)), cell_of_row w g (off + j) cur _ (0, 0) q3, q7 j hjl]
        simp [List.getElem_append_left hjl]
      · have hk : j - T.length < (cellsI (x :: U)).length := by rw [List.length_append] at hj; omega
        have := World.cell?_setCells_in g (cellsI (x :: U)) (off + T.length) w (fun k hk => by
          have : off + T.length + k < cur.size := by omega
          rw [cell_of_row w g (off + T.length + k) cur _ (0, 0) q3]
          simp [this]) (j - T.length) hk
        rw [show off + T.length + (j - T.length) = off + j by omega] at this
        rw [this]
        have e := (cellsI_at (x :: U) (j - T.length) _ (List.getElem?_eq_getElem hk)).2
        rw [e, List.getElem_append_right (by omega)]
    · obtain ⟨v', w', hr, ho, hg⟩ := run_append_arg_grows (P := P) w t ty _ i (.int .i64 0) 1 8 ht hi hz hsize hby rfl (by decide) ⟨g, off, none⟩ T.length cap (cellsI T) (by rw [cellsI_len, Nat.mul_one])
        (fun j u h => by
          obtain ⟨hj, rfl⟩ := cellsI_at _ j u h
          have hadd : (⟨g, off, none⟩ : Addr).add j = ⟨g, off + j, none⟩ := by unfold Addr.add; split <;> simp_all
          rw [hadd, cell_of_row w g (off + j) cur _ (0, 0) q3]
          exact q7 j hj)
        ⟨b, o, none⟩ (x :: U).length c (cellsI (x :: U)) (by rw [hll, Nat.mul_one]) hn (by omega) (by unfold maxLen; omega) (by omega)
      refine ⟨v', w', hr, ?_, ⟨hg.os, hg.tape, hg.output, hg.size, fun k hk _ => hg.block k hk (by simp)⟩, ?_⟩
      rotate_left
      · rcases ho.2 with ⟨_, h0⟩ | ⟨g', cap', cur', rfl, h0, _⟩
        · simp at h0
        · exact .inr ⟨g', rfl, h0⟩
      have ho' : w'.ownsRow w.heap.size 3 1 v' (T ++ x :: U).length (cellsI (T ++ x :: U)) := by
        rw [List.length_append]
        have e : cellsI (T ++ x :: U) = cellsI T ++ cellsI (x :: U) := by simp [cellsI]
        rw [e]; exact ho
      rcases ho'.2 with ⟨_, h0⟩ | ⟨g', cap', cur', rfl, _⟩
      · simp at h0
      · exact (Que.of_own ho').up hB
theorem wpList_append_que {ops : Array Oper} {rest : List Oper} {o : Oper} {a : Act} {Q : Exit → Act → World → Prop} (hgd : o.guard = none) (s x : Operand) (t : TypeId)
    (ho : o.op = .call { callee := .builtin .append, args := #[s, x], argTypes := #[t, t] })
    (B : Nat) (i : TypeInfo) (ht : P.underlying t = some (.slice 3)) (hi : P.info? 3 = some i) (hz : i.zero = some (.int .i64 0)) (hsize : i.size = 1) (hby : i.bytes = 8)
    (v : Value) (T : List Int) (hs : a.eval s = v) (hq : Que B w v T) (A : Option Addr) (c : Nat) (U : List Int) (hx : a.eval x = .slice A U.length c) (hU : RdI w.heap.size w A U) (hl : T.length + U.length ≤ 1000000) (hB : B ≤ w.heap.size)
    (h : ∀ v' w', Que B w' v' (T ++ U) → w.grownBy w' v.ownBlock → (v'.ownBlock = v.ownBlock ∨ ∃ k, v'.ownBlock = some k ∧ w.heap.size ≤ k) → wpList P ops Q rest (a.put o.dst v') w') :
    wpList P ops Q (o :: rest) a w := by
  refine wpList_plain hgd fun K hK => ?_
  obtain ⟨v', w', hr, h2, h3, h4⟩ := run_append_que (P := P) w B t o.type i ht hi hz hsize hby v T hq A c U hU hl hB
  unfold Oper.wp execOp
  simp only [ho, resolve, invoke, builtin, Sem.run_bind, Sem.run_pure, Result.andThen_ok, List.map_toArray, List.map_cons, List.map_nil, hs, hx, hr]
  exact hK _ _ (h v' w' h2 h3 h4)
end
/-- the first one, and what is behind it -/
theorem Que.front {B : Nat} {w : World} {v : Value} {x : Int} {T : List Int} (h : Que B w v (x :: T)) : ∃ g off cap, v = .slice (some ⟨g, off, none⟩) (T.length + 1) cap ∧ 1 ≤ cap ∧ T.length + 1 ≤ cap ∧ B ≤ g ∧ g < w.heap.size ∧ w.cell? ⟨g, off, none⟩ = some (.int .i64 x) ∧ Que B w (.slice (some ⟨g, off + 1, none⟩) T.length (cap - 1)) T := by
  obtain ⟨g, off, cap, cur, rfl, q1, q2, q3, q4, q5, q6, q7⟩ := h
  simp only [List.length_cons] at q4 q7
  refine ⟨g, off, cap, rfl, by omega, q4, q1, q2, ?_, g, off + 1, cap - 1, cur, rfl, q1, q2, q3, by omega, by omega, by omega, fun j hj => ?_⟩
  · rw [cell_of_row w g off cur _ (0, 0) q3]
    exact q7 0 (by omega)
  · rw [show off + 1 + j = off + (j + 1) by omega]
    have := q7 (j + 1) (by omega)
    simpa using this
/-- the last one, and what is ahead of it -/
theorem Que.back {B : Nat} {w : World} {v : Value} {x : Int} {T : List Int} (h : Que B w v (T ++ [x])) : ∃ g off cap, v = .slice (some ⟨g, off, none⟩) (T.length + 1) cap ∧ T.length + 1 ≤ cap ∧ B ≤ g ∧ g < w.heap.size ∧ w.cell? ⟨g, off + T.length, none⟩ = some (.int .i64 x) ∧ Que B w (.slice (some ⟨g, off, none⟩) T.length cap) T := by
  obtain ⟨g, off, cap, cur, rfl, q1, q2, q3, q4, q5, q6, q7⟩ := h
  simp only [List.length_append, List.length_cons, List.length_nil, Nat.zero_add] at q4 q7
  refine ⟨g, off, cap, by simp, q4, q1, q2, ?_, g, off, cap, cur, rfl, q1, q2, q3, by omega, q5, q6, fun j hj => ?_⟩
  · rw [cell_of_row w g (off + T.length) cur _ (0, 0) q3]
    have := q7 T.length (by omega)
    simpa using this
  · have := q7 j (by omega)
    rw [List.getElem_append_left hj] at this
    exact this
end Go.Proofs.YthfffpdkmoclbaaGreatDoor.W
