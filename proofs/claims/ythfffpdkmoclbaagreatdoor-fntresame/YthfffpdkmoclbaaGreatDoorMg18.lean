/-
  The walks of TreFind, of the program and of the specification. At most 1048576 files.
  Files that rise by their paths, and what an edit makes of them: cut out, put at a place, put among them. Two lists that rise and find the same are the same. No condition.
  The walks of the specification's l4Copy: the same files, in new memory. At most 1048576 files.
-/
import Derived.Test.YthfffpdkmoclbaaGreatDoorMg07
import Derived.Test.YthfffpdkmoclbaaGreatDoorMg17
import Derived.Test.YthfffpdkmoclbaaGreatDoorMg01
import Derived.Test.YthfffpdkmoclbaaGreatDoorMg14
import Derived.Lib.Walk
namespace Go.Proofs.YthfffpdkmoclbaaGreatDoor.W
open Go.RowKit

/-- the bytes of the first file at a path -/
def findF : List TF → ByteArray → Option ByteArray
  | [], _ => none
  | x :: l, p => if x.pa = p then some x.by_ else findF l p
theorem findF_step (L : List TF) (p : ByteArray) (j : Nat) (h : j < L.length) : findF (L.drop j) p = if (L[j]).pa = p then some (L[j]).by_ else findF (L.drop (j + 1)) p := by
  rw [List.drop_eq_getElem_cons h]; rfl
def findV (L : List TF) (p : ByteArray) : Value := match findF L p with
  | some t => .tuple #[.string t, .bool true]
  | none => .tuple #[.string ByteArray.empty, .bool false]

theorem findV_some {L : List TF} {p t : ByteArray} (h : findF L p = some t) : findV L p = .tuple #[.string t, .bool true] := by unfold findV; rw [h]
theorem findV_none {L : List TF} {p : ByteArray} (h : findF L p = none) : findV L p = .tuple #[.string ByteArray.empty, .bool false] := by unfold findV; rw [h]

set_option maxHeartbeats 1000000 in
theorem l4Find_any (A : Option Addr) (c : Nat) (L : List TF) (p : ByteArray) (w : World) (hL : RdF w.heap.size w A L) (hn : L.length ≤ 1048576) :
    Calls Tryz.prog 133 #[.slice A L.length c, .string p] w fun e w' => ((e = .returned (.int .i64 (-1)) ∧ findF L p = none) ∨ (∃ j : Nat, ∃ h : j < L.length, e = .returned (.int .i64 j) ∧ findF L p = some (L[j]).by_)) ∧ w = w' := by
  have HL : Hid (RdF w.heap.size w A L) := hL
  clear hL
  go_enter Tryz.func133, Tryz.ntmps133
  go_wp2
  go_loopw [5] (fun iv wr => ∃ j : Nat, j ≤ L.length ∧ iv = .int .i64 j ∧ Hid (findF L p = findF (L.drop j) p) ∧ w = wr) (fun i _ => L.length - (intOf i).toNat)
  case atStart => exact ⟨0, Nat.zero_le _, rfl, rfl, rfl⟩
  case round =>
    obtain ⟨j, hj, rfl, HS, rfl⟩ := hrel
    by_cases hlt : j < L.length
    · have HX : Hid (findF L p = _) := HS.out.trans (findF_step L p j hlt)
      obtain ⟨b, o, rfl, hbl, c1, c2⟩ := HL.out j hlt
      by_cases hq : (L[j]).pa = p
      · have HY : Hid (findF L p = some (L[j]).by_) := by have := HX.out; rwa [if_pos hq] at this
        rw [hq] at c1
        clear HX hq HS
        go_wp2
        go_ret
        exact ⟨Or.inr ⟨j, hlt, rfl, HY.out⟩, rfl⟩
      · have HY : Hid (findF L p = findF (L.drop (j + 1)) p) := by have := HX.out; rwa [if_neg hq] at this
        generalize (L[j]).pa = f at *
        generalize (L[j]).by_ = f' at *
        have hbe := bytes_ne hq
        clear HX HS
        go_wp2
        go_roundw
        case rel => exact ⟨j + 1, by omega, by go_num, HY, trivial⟩
        case measure => simp [intOf]; omega
    · go_wp2
      go_ret
      obtain rfl : j = L.length := by omega
      have e := HS.out
      rw [List.drop_length] at e
      exact ⟨Or.inl ⟨rfl, e⟩, rfl⟩

end Go.Proofs.YthfffpdkmoclbaaGreatDoor.W
namespace Go.Proofs.YthfffpdkmoclbaaGreatDoor.W
open Go.Proofs.YthfffpdkmoclbaaGreatDoor.M

/-- files rise by their paths -/
def RiseF (L : List TF) : Prop := L.Pairwise fun x y => x.pa.data.toList < y.pa.data.toList
def cutF : List TF → ByteArray → List TF
  | [], _ => []
  | x :: l, p => if x.pa = p then l else x :: cutF l p
def putF : List TF → ByteArray → ByteArray → List TF
  | [], _, _ => []
  | x :: l, p, b => if x.pa = p then ⟨x.pa, b⟩ :: l else x :: putF l p b
/-- a file is put ahead of the first one whose path is not less -/
def insF : List TF → TF → List TF
  | [], x => [x]
  | y :: l, x => if y.pa.data.toList < x.pa.data.toList then y :: insF l x else x :: y :: l
def sortF (L : List TF) : List TF := L.foldl insF []
/-- what one edit makes of files -/
def turnF (L : List TF) (gone : Bool) (p b : ByteArray) : Option (List TF) :=
  if gone then (if findF L p = none ∨ b ≠ ByteArray.empty then none else some (cutF L p))
  else if findF L p = none then some (sortF (L ++ [⟨p, b⟩])) else some (putF L p b)

theorem pa_eq {p q : ByteArray} (h : p.data.toList = q.data.toList) : p = q := by
  cases p; cases q; exact congrArg _ (Array.toList_inj.1 h)
theorem findF_none_iff (L : List TF) (p : ByteArray) : findF L p = none ↔ ∀ x ∈ L, x.pa ≠ p := by
  induction L with
  | nil => simp [findF]
  | cons y l ih =>
    unfold findF
    by_cases h : y.pa = p
    · simp [h]
    · rw [if_neg h, ih]; simp [h]
theorem mem_cutF (L : List TF) (p : ByteArray) (x : TF) (h : x ∈ cutF L p) : x ∈ L := by
  induction L with
  | nil => exact h
  | cons y l ih =>
    unfold cutF at h
    split at h
    · exact List.mem_cons_of_mem _ h
    · rcases List.mem_cons.1 h with rfl | h
      · exact List.mem_cons_self ..
      · exact List.mem_cons_of_mem _ (ih h)
theorem rise_cut (L : List TF) (p : ByteArray) (h : RiseF L) : RiseF (cutF L p) := by
  induction L with
  | nil => exact h
  | cons y l ih =>
    obtain ⟨h1, h2⟩ := List.pairwise_cons.1 h
    unfold cutF
    split
    · exact h2
    · exact List.pairwise_cons.2 ⟨fun z hz => h1 z (mem_cutF l p z hz), ih h2⟩
theorem findF_tail {y : TF} {l : List TF} (h : RiseF (y :: l)) : findF l y.pa = none := by
  refine (findF_none_iff ..).2 fun x hx e => ?_
  have := (List.pairwise_cons.1 h).1 x hx
  rw [e] at this
  exact List.lt_irrefl _ this
theorem findF_cut (L : List TF) (p q : ByteArray) (h : RiseF L) : findF (cutF L p) q = if q = p then none else findF L q := by
  induction L with
  | nil => simp [cutF, findF]
  | cons y l ih =>
    have h2 := (List.pairwise_cons.1 h).2
    unfold cutF
    by_cases hy : y.pa = p
    · rw [if_pos hy]
      by_cases hq : q = p
      · rw [if_pos hq, hq, ← hy]; exact findF_tail h
      · rw [if_neg hq]
        conv => rhs; unfold findF
        rw [if_neg (fun e => hq (e.symm.trans hy))]
    · rw [if_neg hy]
      unfold findF
      by_cases hyq : y.pa = q
      · rw [if_pos hyq, if_pos hyq, if_neg (fun e => hy (hyq.trans e))]
      · rw [if_neg hyq, if_neg hyq, ih h2]
theorem mem_putF (L : List TF) (p b : ByteArray) (x : TF) (h : x ∈ putF L p b) : ∃ y ∈ L, y.pa = x.pa := by
  induction L with
  | nil => cases h
  | cons y l ih =>
    unfold putF at h
    split at h
    · rcases List.mem_cons.1 h with rfl | h
      · exact ⟨y, List.mem_cons_self .., rfl⟩
      · exact ⟨x, List.mem_cons_of_mem _ h, rfl⟩
    · rcases List.mem_cons.1 h with rfl | h
      · exact ⟨x, List.mem_cons_self .., rfl⟩
      · obtain ⟨z, hz, e⟩ := ih h
        exact ⟨z, List.mem_cons_of_mem _ hz, e⟩
theorem rise_put (L : List TF) (p b : ByteArray) (h : RiseF L) : RiseF (putF L p b) := by
  induction L with
  | nil => exact h
  | cons y l ih =>
    obtain ⟨h1, h2⟩ := List.pairwise_cons.1 h
    unfold putF
    split
    · exact List.pairwise_cons.2 ⟨h1, h2⟩
    · refine List.pairwise_cons.2 ⟨fun z hz => ?_, ih h2⟩
      obtain ⟨u, hu, e⟩ := mem_putF l p b z hz
      rw [← e]
      exact h1 u hu
theorem findF_put (L : List TF) (p b q : ByteArray) : findF (putF L p b) q = if q = p then (findF L p).map (fun _ => b) else findF L q := by
  induction L with
  | nil => simp [putF, findF]
  | cons y l ih =>
    unfold putF
    by_cases hy : y.pa = p
    · rw [if_pos hy]
      by_cases hq : q = p
      · simp [findF, hq, hy]
      · have : ¬ p = q := fun e => hq e.symm
        simp [findF, hq, hy, this]
    · rw [if_neg hy]
      by_cases hyq : y.pa = q
      · have : ¬ q = p := fun e => hy (hyq.trans e)
        simp [findF, hyq, this]
      · simp only [findF, if_neg hyq, if_neg hy, ih]
theorem mem_insF (L : List TF) (x z : TF) : z ∈ insF L x ↔ z ∈ L ∨ z = x := by
  induction L with
  | nil => simp [insF]
  | cons y l ih =>
    unfold insF
    split
    · rw [List.mem_cons, ih, List.mem_cons, or_assoc]
    · rw [List.mem_cons]; exact or_comm
theorem rise_ins (L : List TF) (x : TF) (h : RiseF L) (hx : findF L x.pa = none) : RiseF (insF L x) := by
  induction L with
  | nil => simp [insF, RiseF]
  | cons y l ih =>
    obtain ⟨h1, h2⟩ := List.pairwise_cons.1 h
    have hn := (findF_none_iff ..).1 hx
    unfold insF
    split
    · rename_i hlt
      refine List.pairwise_cons.2 ⟨fun z hz => ?_, ih h2 ((findF_none_iff ..).2 fun u hu => hn u (List.mem_cons_of_mem _ hu))⟩
      rcases (mem_insF ..).1 hz with hz | rfl
      · exact h1 z hz
      · exact hlt
    · rename_i hlt
      have hxy : x.pa.data.toList < y.pa.data.toList := by
        rcases tri x.pa.data.toList y.pa.data.toList with h3 | h3 | h3
        · exact h3
        · exact absurd (pa_eq h3).symm (hn y (List.mem_cons_self ..))
        · exact absurd h3 hlt
      refine List.pairwise_cons.2 ⟨fun z hz => ?_, h⟩
      rcases List.mem_cons.1 hz with rfl | hz
      · exact hxy
      · exact List.lt_trans hxy (h1 z hz)
theorem findF_ins (L : List TF) (x : TF) (q : ByteArray) (hx : findF L x.pa = none) : findF (insF L x) q = if x.pa = q then some x.by_ else findF L q := by
  induction L with
  | nil => simp [insF, findF]
  | cons y l ih =>
    have hn := (findF_none_iff ..).1 hx
    have hl : findF l x.pa = none := (findF_none_iff ..).2 fun u hu => hn u (List.mem_cons_of_mem _ hu)
    unfold insF
    split
    · by_cases hyq : y.pa = q
      · have : ¬ x.pa = q := fun e => hn y (List.mem_cons_self ..) (hyq.trans e.symm)
        simp [findF, hyq, this]
      · simp only [findF, if_neg hyq, ih hl]
    · rfl
theorem ins_last (L : List TF) (x : TF) (h : RiseF (L ++ [x])) : insF L x = L ++ [x] := by
  induction L with
  | nil => rfl
  | cons y l ih =>
    obtain ⟨h1, h2⟩ := List.pairwise_cons.1 h
    unfold insF
    rw [if_pos (h1 x (by simp)), ih h2]; rfl
theorem foldl_ins (A B : List TF) (h : RiseF (A ++ B)) : B.foldl insF A = A ++ B := by
  induction B generalizing A with
  | nil => simp
  | cons x l ih =>
    have e : A ++ x :: l = (A ++ [x]) ++ l := by simp
    rw [e] at h
    rw [List.foldl_cons, ins_last A x (List.pairwise_append.1 h).1, ih _ h, ← e]
theorem sort_rise (L : List TF) (h : RiseF L) : sortF L = L := foldl_ins [] L h
theorem sort_snoc (L : List TF) (x : TF) (h : RiseF L) : sortF (L ++ [x]) = insF L x := by
  unfold sortF; rw [List.foldl_append]; show insF (sortF L) x = _; rw [sort_rise L h]
/-- what an edit makes rises, and finds what was there, but for the edit's own path -/
theorem turnF_ok (L K : List TF) (gone : Bool) (p b : ByteArray) (h : RiseF L) (ht : turnF L gone p b = some K) : RiseF K ∧ ∀ q, findF K q = if q = p then (if gone then none else some b) else findF L q := by
  unfold turnF at ht
  cases gone with
  | true =>
    rw [if_pos rfl] at ht
    split at ht
    · cases ht
    · cases ht
      exact ⟨rise_cut L p h, fun q => findF_cut L p q h⟩
  | false =>
    rw [if_neg (by decide)] at ht
    split at ht
    · rename_i hn
      cases ht
      rw [sort_snoc L ⟨p, b⟩ h]
      refine ⟨rise_ins L ⟨p, b⟩ h hn, fun q => ?_⟩
      rw [findF_ins L ⟨p, b⟩ q hn]
      by_cases hq : q = p
      · simp [hq]
      · have : ¬ p = q := fun e => hq e.symm
        simp [hq, this]
    · rename_i hn
      cases ht
      refine ⟨rise_put L p b h, fun q => ?_⟩
      rw [findF_put]
      cases he : findF L p with
      | none => exact absurd he hn
      | some t => simp
/-- files that rise and find the same are the same -/
theorem rise_eq (A B : List TF) (hA : RiseF A) (hB : RiseF B) (h : ∀ q, findF A q = findF B q) : A = B := by
  induction A generalizing B with
  | nil =>
    cases B with
    | nil => rfl
    | cons y l => have := h y.pa; simp [findF] at this
  | cons x a ih =>
    cases B with
    | nil => have := h x.pa; simp [findF] at this
    | cons y l =>
      have hne : ∀ {x y : TF} {a l : List TF}, RiseF (x :: a) → RiseF (y :: l) → (∀ q, findF (x :: a) q = findF (y :: l) q) → ¬ x.pa.data.toList < y.pa.data.toList := by
        intro x y a l hA hB h hlt
        have h1 : findF (y :: l) x.pa = none := by
          refine (findF_none_iff ..).2 fun u hu e => ?_
          rcases List.mem_cons.1 hu with rfl | hu
          · rw [e] at hlt; exact List.lt_irrefl _ hlt
          · have := List.lt_trans hlt ((List.pairwise_cons.1 hB).1 u hu)
            rw [e] at this; exact List.lt_irrefl _ this
        have h2 := h x.pa
        rw [h1] at h2
        simp [findF] at h2
      have hp : x.pa = y.pa := by
        rcases tri x.pa.data.toList y.pa.data.toList with h3 | h3 | h3
        · exact absurd h3 (hne hA hB h)
        · exact pa_eq h3
        · exact absurd h3 (hne hB hA fun q => (h q).symm)
      have hb : x.by_ = y.by_ := by
        have := h x.pa
        simpa [findF, hp] using this
      have hxy : x = y := by cases x; cases y; simp_all
      subst hxy
      rw [ih l (List.pairwise_cons.1 hA).2 (List.pairwise_cons.1 hB).2 fun q => ?_]
      by_cases hq : x.pa = q
      · rw [← hq, findF_tail hA, findF_tail hB]
      · have := h q
        simpa [findF, hq] using this
/-- what is in what an edit makes was there, or is the edit's -/
theorem mem_turnF (L K : List TF) (gone : Bool) (p b : ByteArray) (h : RiseF L) (ht : turnF L gone p b = some K) (x : TF) (hx : x ∈ K) : x ∈ L ∨ x = ⟨p, b⟩ := by
  have put : ∀ L : List TF, ∀ x ∈ putF L p b, x ∈ L ∨ x = ⟨p, b⟩ := by
    intro L
    induction L with
    | nil => intro x hx; cases hx
    | cons y l ih =>
      intro x hx
      unfold putF at hx
      split at hx
      · rename_i hy
        rcases List.mem_cons.1 hx with rfl | hx
        · exact .inr (by rw [hy])
        · exact .inl (List.mem_cons_of_mem _ hx)
      · rcases List.mem_cons.1 hx with rfl | hx
        · exact .inl (List.mem_cons_self ..)
        · exact (ih x hx).imp (List.mem_cons_of_mem _) id
  unfold turnF at ht
  cases gone with
  | true =>
    rw [if_pos rfl] at ht
    split at ht
    · cases ht
    · cases ht; exact .inl (mem_cutF L p x hx)
  | false =>
    rw [if_neg (by decide)] at ht
    split at ht
    · cases ht
      rw [sort_snoc L ⟨p, b⟩ h] at hx
      exact (mem_insF ..).1 hx
    · cases ht; exact put L x hx
theorem len_cutF (L : List TF) (p : ByteArray) : (cutF L p).length ≤ L.length := by
  induction L with
  | nil => exact Nat.le_refl _
  | cons y l ih => unfold cutF; split <;> simp; exact ih
theorem len_putF (L : List TF) (p b : ByteArray) : (putF L p b).length = L.length := by
  induction L with
  | nil => rfl
  | cons y l ih => unfold putF; split <;> simp; exact ih
theorem len_insF (L : List TF) (x : TF) : (insF L x).length = L.length + 1 := by
  induction L with
  | nil => rfl
  | cons y l ih => unfold insF; split <;> simp; exact ih
theorem len_turnF (L K : List TF) (gone : Bool) (p b : ByteArray) (h : RiseF L) (ht : turnF L gone p b = some K) : K.length ≤ L.length + 1 := by
  unfold turnF at ht
  cases gone with
  | true =>
    rw [if_pos rfl] at ht
    split at ht
    · cases ht
    · cases ht; exact Nat.le_succ_of_le (len_cutF L p)
  | false =>
    rw [if_neg (by decide)] at ht
    split at ht
    · cases ht
      rw [sort_snoc L ⟨p, b⟩ h, len_insF]; exact Nat.le_refl _
    · cases ht; rw [len_putF]; exact Nat.le_succ _
/-- edits one behind the other: whether each is a taking out, its path, its bytes -/
def turnAll : List TF → List (Bool × ByteArray × ByteArray) → Option (List TF)
  | L, [] => some L
  | L, e :: es => match turnF L e.1 e.2.1 e.2.2 with
    | none => none
    | some K => turnAll K es
theorem turnAll_snoc (L : List TF) (E : List (Bool × ByteArray × ByteArray)) (e : Bool × ByteArray × ByteArray) : turnAll L (E ++ [e]) = (turnAll L E).bind fun K => turnF K e.1 e.2.1 e.2.2 := by
  induction E generalizing L with
  | nil => simp only [List.nil_append, turnAll, Option.bind]; cases turnF L e.1 e.2.1 e.2.2 <;> rfl
  | cons x l ih =>
    simp only [List.cons_append, turnAll]
    cases turnF L x.1 x.2.1 x.2.2 with
    | none => rfl
    | some K => exact ih K
theorem turnAll_none (L : List TF) (E F : List (Bool × ByteArray × ByteArray)) (h : turnAll L E = none) : turnAll L (E ++ F) = none := by
  induction E generalizing L with
  | nil => cases h
  | cons x l ih =>
    simp only [List.cons_append, turnAll] at h ⊢
    cases hx : turnF L x.1 x.2.1 x.2.2 with
    | none => rfl
    | some K => rw [hx] at h; exact ih K h
/-- what is carried over a row of edits: it rises, is not too long, and all in it was there or is an edit's -/
theorem turnAll_ok (L K : List TF) (E : List (Bool × ByteArray × ByteArray)) (h : RiseF L) (ht : turnAll L E = some K) : RiseF K ∧ K.length ≤ L.length + E.length ∧ ∀ x ∈ K, x ∈ L ∨ ∃ e ∈ E, x = ⟨e.2.1, e.2.2⟩ := by
  induction E generalizing L with
  | nil => cases ht; exact ⟨h, Nat.le_refl _, fun x hx => .inl hx⟩
  | cons e es ih =>
    unfold turnAll at ht
    split at ht
    · cases ht
    · rename_i M hM
      obtain ⟨h1, h2, h3⟩ := ih M (turnF_ok L M _ _ _ h hM).1 ht
      have h4 := len_turnF L M _ _ _ h hM
      refine ⟨h1, by rw [List.length_cons]; omega, fun x hx => ?_⟩
      rcases h3 x hx with hx | ⟨y, hy, rfl⟩
      · rcases mem_turnF L M _ _ _ h hM x hx with hx | rfl
        · exact .inl hx
        · exact .inr ⟨e, List.mem_cons_self .., rfl⟩
      · exact .inr ⟨y, List.mem_cons_of_mem _ hy, rfl⟩
end Go.Proofs.YthfffpdkmoclbaaGreatDoor.W
namespace Go.Proofs.YthfffpdkmoclbaaGreatDoor.W
open Go.RowKit Go.Lib

theorem rdF_cells {B : Nat} {w : World} {b o : Nat} {L : List TF} (h : RdF B w (some ⟨b, o, none⟩) L) : ∀ j u, (cellsF L)[j]? = some u → w.cell? ((⟨b, o, none⟩ : Addr).add j) = some u := by
  intro j u hu
  have hj : j < (cellsF L).length := (List.getElem?_eq_some_iff.1 hu).1
  rw [cellsF_length] at hj
  have hi : j / 2 < L.length := by omega
  obtain ⟨b', o', e, hl, c1, c2⟩ := h (j / 2) hi
  simp only [Option.some.injEq, Addr.mk.injEq] at e
  obtain ⟨rfl, rfl, _⟩ := e
  obtain ⟨g1, g2⟩ := cellsF_get L (j / 2) hi
  have ea : (⟨b, o, none⟩ : Addr).add j = ⟨b, o + j, none⟩ := by unfold Addr.add; split <;> simp_all
  rw [ea]
  have hm : j % 2 = 0 ∨ j % 2 = 1 := by omega
  rcases hm with hm | hm
  · have e0 : j = j / 2 * 2 := by omega
    rw [← e0] at g1 c1
    rw [g1] at hu; rw [← hu]; exact c1
  · have e0 : j = j / 2 * 2 + 1 := by omega
    rw [← e0] at g2
    rw [Nat.add_assoc, ← e0] at c2
    rw [g2] at hu; rw [← hu]; exact c2
theorem cellsF_one (L : List TF) : ∀ u ∈ cellsF L, u.oneCell' = true := by
  intro u hu
  unfold cellsF at hu
  obtain ⟨x, _, hx⟩ := List.mem_flatMap.1 hu
  simp at hx
  rcases hx with rfl | rfl <;> rfl

set_option maxHeartbeats 1000000 in
set_option maxRecDepth 100000 in
theorem l4Copy_some (b o c : Nat) (L : List TF) (w : World) (hL : RdF w.heap.size w (some ⟨b, o, none⟩) L) (hn : L.length ≤ 1048576) :
    Calls Tryz.prog 108 #[.slice (some ⟨b, o, none⟩) L.length c] w fun e w' => (∃ g cap, e = .returned (.slice (some ⟨g, 0, none⟩) L.length cap) ∧ w'.ownsRow w.heap.size 98 2 (.slice (some ⟨g, 0, none⟩) L.length cap) L.length (cellsF L)) ∧ Below w.heap.size w w' := by
  have HL : Hid (RdF w.heap.size w (some ⟨b, o, none⟩) L) := hL
  clear hL
  obtain ⟨i0, hi, hz0, hz1, hz2⟩ := info_parts infoF
  go_enter Tryz.func108, Tryz.ntmps108
  have o1 : (w.alloc (.cells #[] 98)).ownsRow w.heap.size 98 2 (.slice (some ⟨w.heap.size, 0, none⟩) 0 0) 0 [] := World.ownsRow_lit w #[] 0 (Nat.le_refl _) (by unfold maxLen; omega) rfl
  have B1 : Below w.heap.size w (w.alloc (.cells #[] 98)) := (Below.refl _ _).alloc (Nat.le_refl _) _
  have z1 := B1.size
  go_wp2_with (at_builtin; refine wpList_append_own _ rfl _ _ 49 rfl w.heap.size 98 i0 (.agg #[.string ByteArray.empty, .string ByteArray.empty]) 2 32 Tryz.underlying49 hi hz0 hz1 hz2 rfl (by decide) _ _ _ rfl o1 ⟨b, o, none⟩ L.length c (cellsF L) rfl (cellsF_length L) (rdF_cells (HL.out.below B1 (Nat.le_refl _))) (cellsF_one L) (by unfold maxLen; omega) (by omega) (by omega) ?_; intro v2 w2 o2 g2 hnil2; have HN2 : Hid (v2 ≠ .slice none 0 0) := (show v2 ≠ .slice none 0 0 from fun e => by have := (hnil2.1 e).1; cases this); clear hnil2; have B2' : Below w.heap.size w w2 := growOwn B1 z1 o1 g2 (Nat.le_refl _))
  go_ret
  have o3 : w2.ownsRow w.heap.size 98 2 v2 L.length (cellsF L) := by simpa only [Nat.zero_add, List.nil_append] using o2
  refine ⟨?_, B2'⟩
  rcases o3.2 with ⟨h1, _⟩ | ⟨g, cap, cur, h1, h3⟩
  · exact absurd h1 HN2.out
  · subst h1; exact ⟨g, cap, rfl, o3⟩
set_option maxHeartbeats 1000000 in
set_option maxRecDepth 100000 in
theorem l4Copy_nil (c : Nat) (w : World) :
    Calls Tryz.prog 108 #[.slice none 0 c] w fun e w' => (∃ v, e = .returned v ∧ w'.ownsRow w.heap.size 98 2 v 0 []) ∧ Below w.heap.size w w' := by
  have o1 : (w.alloc (.cells #[] 98)).ownsRow w.heap.size 98 2 (.slice (some ⟨w.heap.size, 0, none⟩) 0 0) 0 [] := World.ownsRow_lit w #[] 0 (Nat.le_refl _) (by unfold maxLen; omega) rfl
  have B1 : Below w.heap.size w (w.alloc (.cells #[] 98)) := (Below.refl _ _).alloc (Nat.le_refl _) _
  go_enter Tryz.func108, Tryz.ntmps108
  go_wp2_with (show Oper.upon Tryz.prog _ _ _ _ (Result.ok (Next.value (.slice (some ⟨w.heap.size, 0, none⟩) 0 0)) (w.alloc (.cells #[] 98))))
  go_ret
  exact ⟨⟨_, rfl, o1⟩, B1⟩
end Go.Proofs.YthfffpdkmoclbaaGreatDoor.W
