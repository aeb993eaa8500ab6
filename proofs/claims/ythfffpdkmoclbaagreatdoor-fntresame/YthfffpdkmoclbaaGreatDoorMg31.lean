/-
  Items that rise by their ids, and what putting a text among them makes. Two lists that rise and find the same are the same. No condition.
  The walks of PolOut, of the program and of the specification: the items with another id, in new memory. At most 1048576 items.
  A pool that is ok, said item by item; what taking an id out leaves, and what putting a text in leaves. No condition.
-/
import Derived.Test.YthfffpdkmoclbaaGreatDoorMg30
import Derived.Test.YthfffpdkmoclbaaGreatDoorMg14
namespace Go.Proofs.YthfffpdkmoclbaaGreatDoor.W
open Go.Proofs.YthfffpdkmoclbaaGreatDoor.M

def RiseP (L : List PI) : Prop := L.Pairwise fun x y => x.id < y.id
def findP : List PI → Int → Option ByteArray
  | [], _ => none
  | x :: l, n => if x.id = n then some x.tx else findP l n
def insP : List PI → PI → List PI
  | [], x => [x]
  | y :: l, x => if y.id < x.id then y :: insP l x else x :: y :: l
theorem findP_none (L : List PI) (n : Int) : findP L n = none ↔ ∀ x ∈ L, x.id ≠ n := by
  induction L with
  | nil => simp [findP]
  | cons y l ih =>
    unfold findP
    by_cases h : y.id = n
    · simp [h]
    · rw [if_neg h, ih]; simp [h]
theorem findP_at (L : List PI) (j : Nat) (h : j < L.length) (hr : RiseP L) : findP L (L[j]).id = some (L[j]).tx := by
  induction L generalizing j with
  | nil => simp at h
  | cons y l ih =>
    obtain ⟨h1, h2⟩ := List.pairwise_cons.1 hr
    cases j with
    | zero => simp [findP]
    | succ j =>
      have h3 := h1 (l[j]'(by simpa using h)) (List.getElem_mem _)
      simp only [List.getElem_cons_succ]
      unfold findP
      rw [if_neg (by omega)]
      exact ih j (by simpa using h) h2
theorem mem_insP (L : List PI) (x z : PI) : z ∈ insP L x ↔ z ∈ L ∨ z = x := by
  induction L with
  | nil => simp [insP]
  | cons y l ih =>
    unfold insP
    split
    · rw [List.mem_cons, ih, List.mem_cons, or_assoc]
    · rw [List.mem_cons]; exact or_comm
theorem riseP_ins (L : List PI) (x : PI) (h : RiseP L) (hx : findP L x.id = none) : RiseP (insP L x) := by
  induction L with
  | nil => simp [insP, RiseP]
  | cons y l ih =>
    obtain ⟨h1, h2⟩ := List.pairwise_cons.1 h
    have hn := (findP_none ..).1 hx
    unfold insP
    split
    · rename_i hlt
      refine List.pairwise_cons.2 ⟨fun z hz => ?_, ih h2 ((findP_none ..).2 fun u hu => hn u (List.mem_cons_of_mem _ hu))⟩
      rcases (mem_insP ..).1 hz with hz | rfl
      · exact h1 z hz
      · exact hlt
    · rename_i hlt
      have hne := hn y (List.mem_cons_self ..)
      refine List.pairwise_cons.2 ⟨fun z hz => ?_, h⟩
      rcases List.mem_cons.1 hz with rfl | hz
      · omega
      · have := h1 z hz; omega
theorem findP_ins (L : List PI) (x : PI) (n : Int) (hx : findP L x.id = none) : findP (insP L x) n = if n = x.id then some x.tx else findP L n := by
  induction L with
  | nil => by_cases h : n = x.id <;> simp [insP, findP, h, eq_comm]
  | cons y l ih =>
    have hn := (findP_none ..).1 hx
    have hl : findP l x.id = none := (findP_none ..).2 fun u hu => hn u (List.mem_cons_of_mem _ hu)
    have hne := hn y (List.mem_cons_self ..)
    unfold insP
    split
    · by_cases hyn : y.id = n
      · have : ¬ n = x.id := by omega
        simp [findP, hyn, this]
      · simp only [findP, if_neg hyn, ih hl]
    · by_cases h : n = x.id
      · subst h; simp [findP]
      · have : ¬ x.id = n := fun e => h e.symm
        simp [findP, h, this]
theorem len_insP (L : List PI) (x : PI) : (insP L x).length = L.length + 1 := by
  induction L with
  | nil => rfl
  | cons y l ih => unfold insP; split <;> simp; exact ih
theorem insP_at (M : List PI) (x : PI) (k : Nat) (hk : k ≤ M.length) (h1 : ∀ i (h : i < M.length), i < k → (M[i]).id < x.id) (h2 : ∀ h : k < M.length, ¬ (M[k]).id < x.id) : insP M x = (M.take k ++ [x]) ++ M.drop k := by
  induction M generalizing k with
  | nil => simp at hk; subst hk; rfl
  | cons y l ih =>
    cases k with
    | zero =>
      have h3 : ¬ y.id < x.id := h2 (by simp)
      unfold insP
      rw [if_neg h3]; rfl
    | succ k =>
      have h3 : y.id < x.id := h1 0 (by simp) (by omega)
      unfold insP
      rw [if_pos h3, ih k (by simpa using hk) (fun i h hi => h1 (i + 1) (by simpa using h) (by omega)) (fun h => h2 (by simpa using h))]
      rfl
theorem riseP_eq (A B : List PI) (hA : RiseP A) (hB : RiseP B) (h : ∀ n, findP A n = findP B n) : A = B := by
  induction A generalizing B with
  | nil =>
    cases B with
    | nil => rfl
    | cons y l => have := h y.id; simp [findP] at this
  | cons x a ih =>
    cases B with
    | nil => have := h x.id; simp [findP] at this
    | cons y l =>
      have hne : ∀ {x y : PI} {a l : List PI}, RiseP (x :: a) → RiseP (y :: l) → (∀ n, findP (x :: a) n = findP (y :: l) n) → ¬ x.id < y.id := by
        intro x y a l hA hB h hlt
        have h1 : findP (y :: l) x.id = none := by
          refine (findP_none ..).2 fun u hu e => ?_
          rcases List.mem_cons.1 hu with rfl | hu
          · omega
          · have := (List.pairwise_cons.1 hB).1 u hu; omega
        have h2 := h x.id
        rw [h1] at h2
        simp [findP] at h2
      have hp : x.id = y.id := by
        have a1 := hne hA hB h
        have a2 := hne hB hA fun n => (h n).symm
        omega
      have hb : x.tx = y.tx := by
        have := h x.id
        simpa [findP, hp] using this
      have hxy : x = y := by cases x; cases y; simp_all
      subst hxy
      have tail : ∀ {x : PI} {l : List PI}, RiseP (x :: l) → findP l x.id = none := fun hr => (findP_none ..).2 fun u hu e => by
        have := (List.pairwise_cons.1 hr).1 u hu; omega
      rw [ih l (List.pairwise_cons.1 hA).2 (List.pairwise_cons.1 hB).2 fun n => ?_]
      by_cases hn : x.id = n
      · rw [← hn, tail hA, tail hB]
      · have := h n
        simpa [findP, hn] using this
/-- a pool that is ok rises, is not too long, and its ids are those of its texts -/
theorem okP_rise (L : List PI) (h : okP L = true) : RiseP L ∧ L.length ≤ 700 ∧ ∀ j (h : j < L.length), (L[j]).id = (idOfN (L[j]).tx.data.toList : Int) := by
  unfold okP at h
  simp only [Bool.and_eq_true, decide_eq_true_eq, List.all_eq_true, List.mem_range] at h
  obtain ⟨h0, h1⟩ := h
  have step : ∀ i (hi : i + 1 < L.length), (L[i]).id < (L[i + 1]).id := by
    intro i hi
    have := h1 (i + 1) hi
    unfold gP at this
    simp only [Bool.and_eq_true, Bool.or_eq_true, decide_eq_true_eq] at this
    obtain ⟨_, _, h5⟩ := this
    rcases h5 with h5 | h5
    · omega
    · rw [Nat.add_sub_cancel, idP_at L i (by omega), idP_at L (i + 1) hi] at h5
      exact h5
  refine ⟨?_, h0, fun j hj => ?_⟩
  · have all : ∀ d i (hi : i + d + 1 < L.length), (L[i]).id < (L[i + d + 1]).id := by
      intro d
      induction d with
      | zero => intro i hi; exact step i hi
      | succ d ih => intro i hi; exact Int.lt_trans (ih i (by omega)) (step (i + d + 1) hi)
    unfold RiseP
    rw [List.pairwise_iff_getElem]
    intro i j hi hj hij
    have := all (j - i - 1) i (by omega)
    have e : i + (j - i - 1) + 1 = j := by omega
    simpa only [e] using this
  · have := h1 j hj
    unfold gP at this
    simp only [Bool.and_eq_true, Bool.or_eq_true, decide_eq_true_eq] at this
    rw [idP_at L j hj, txP_at L j hj] at this
    exact this.2.1
/-- the halves end at the first item that is not less -/
theorem atL_low (L : List PI) (n : Int) (hr : RiseP L) (f low high : Nat) (hf : high - low ≤ f) (hlh : low ≤ high) (hh : high ≤ L.length) (h1 : ∀ i (h : i < L.length), i < low → (L[i]).id < n) (h2 : ∀ i (h : i < L.length), high ≤ i → ¬ (L[i]).id < n) :
    atL L n f low high ≤ L.length ∧ (∀ i (h : i < L.length), i < atL L n f low high → (L[i]).id < n) ∧ ∀ i (h : i < L.length), atL L n f low high ≤ i → ¬ (L[i]).id < n := by
  have mono : ∀ i j (hi : i < L.length) (hj : j < L.length), i ≤ j → (L[i]).id ≤ (L[j]).id := by
    intro i j hi hj hij
    rcases Nat.eq_or_lt_of_le hij with e | e
    · simp only [e]; exact Int.le_refl _
    · have := List.pairwise_iff_getElem.1 hr i j hi hj e; omega
  induction f using Nat.strongRecOn generalizing low high with
  | ind f ih =>
    by_cases hlt : low < high
    · cases f with
      | zero => omega
      | succ f =>
        have hm : (low + high) / 2 < L.length := by omega
        have e : (L.getD ((low + high) / 2) ⟨0, ByteArray.empty⟩) = L[(low + high) / 2]'hm := by simp [List.getD, hm]
        rw [atL, if_pos hlt, e]
        split
        · rename_i hc
          exact ih f (by omega) _ _ (by omega) (by omega) hh (fun i h hi => by have := mono i ((low + high) / 2) h hm (by omega); omega) h2
        · rename_i hc
          exact ih f (by omega) _ _ (by omega) (by omega) (by omega) h1 (fun i h hi => by have := mono ((low + high) / 2) i hm h hi; omega)
    · rw [atL_end L n f low high hlt]
      exact ⟨by omega, h1, fun i h hi => h2 i h (by omega)⟩
theorem plP_low (L : List PI) (n : Int) (hr : RiseP L) : plP L n ≤ L.length ∧ (∀ i (h : i < L.length), i < plP L n → (L[i]).id < n) ∧ ∀ i (h : i < L.length), plP L n ≤ i → ¬ (L[i]).id < n :=
  atL_low L n hr L.length 0 L.length (by omega) (by omega) (Nat.le_refl _) (fun i h hi => by omega) (fun i h hi => by omega)
/-- what is found is at that place -/
theorem findP_pl (L : List PI) (n : Int) (hr : RiseP L) : findP L n = if h : plP L n < L.length then (if (L[plP L n]).id = n then some (L[plP L n]).tx else none) else none := by
  obtain ⟨h0, h1, h2⟩ := plP_low L n hr
  by_cases h : plP L n < L.length
  · rw [dif_pos h]
    by_cases he : (L[plP L n]).id = n
    · rw [if_pos he]
      have := findP_at L (plP L n) h hr
      rw [he] at this; exact this
    · rw [if_neg he]
      refine (findP_none ..).2 fun x hx => ?_
      obtain ⟨i, hi, rfl⟩ := List.getElem_of_mem hx
      by_cases hip : i < plP L n
      · have := h1 i hi hip; omega
      · rcases Nat.eq_or_lt_of_le (Nat.le_of_not_lt hip) with e | e
        · simp only [← e]; exact he
        · have h3 := List.pairwise_iff_getElem.1 hr (plP L n) i h hi e
          have h4 := h2 (plP L n) h (Nat.le_refl _)
          omega
  · rw [dif_neg h]
    refine (findP_none ..).2 fun x hx => ?_
    obtain ⟨i, hi, rfl⟩ := List.getElem_of_mem hx
    have := h1 i hi (by omega); omega
/-- what PolPut makes of a pool that is ok: the pool, the id, what came of it -/
def putPool (L : List PI) (n : Int) (s : ByteArray) : List PI × Int × Int := match findP L n with
  | some t => if t = s then (L, n, 2) else (L, 0, 3)
  | none => if L.length = 700 then (L, 0, 3) else (insP L ⟨n, s⟩, n, 1)
/-- what PolPut answers -/
def putR (L : List PI) (s : ByteArray) : List PI × Int × Int := if okP L = true ∧ kd s ≠ 0 then putPool L (idOfN s.data.toList) s else ([], 0, 4)
end Go.Proofs.YthfffpdkmoclbaaGreatDoor.W
namespace Go.Proofs.YthfffpdkmoclbaaGreatDoor.W
open Go.RowKit

def outP (L : List PI) (id : Int) : List PI := L.filter fun x => decide (x.id ≠ id)
theorem outP_take (L : List PI) (id : Int) (j : Nat) (h : j < L.length) : outP (L.take (j + 1)) id = outP (L.take j) id ++ (if (L[j]).id = id then [] else [L[j]]) := by
  unfold outP
  rw [List.take_succ_eq_append_getElem h, List.filter_append]
  congr 1
  by_cases e : (L[j]).id = id <;> simp [e]
theorem outP_len (L : List PI) (id : Int) (j : Nat) : (outP (L.take j) id).length ≤ j := by
  unfold outP
  refine Nat.le_trans (List.length_filter_le _ _) ?_
  simp; omega

set_option maxHeartbeats 1000000 in
theorem polOut_spec (A : Option Addr) (c : Nat) (L : List PI) (id : Int) (w : World) (hL : RdP w.heap.size w A L) (hn : L.length ≤ 1048576) :
    Calls Tryz.prog 21 #[.slice A L.length c, .int .i64 id] w fun e w' => (∃ v, e = .returned v ∧ w'.ownsRow w.heap.size 35 2 v (outP L id).length (cellsP (outP L id))) ∧ Below w.heap.size w w' := by
  have HL : Hid (RdP w.heap.size w A L) := hL
  clear hL
  obtain ⟨i0, hi, hz0, hz1, hz2⟩ := info_parts infoP
  go_enter Tryz.func21, Tryz.ntmps21
  go_wp2
  go_loopw [5, 6] (fun v iv wr => ∃ (j : Nat) (M : List PI), j ≤ L.length ∧ iv = .int .i64 j ∧ Hid (M = outP (L.take j) id) ∧ M.length ≤ j ∧ wr.ownsRow w.heap.size 35 2 v M.length (cellsP M) ∧ Below w.heap.size w wr) (fun _ i _ => L.length - (intOf i).toNat)
  case atStart => exact ⟨0, [], Nat.zero_le _, rfl, rfl, Nat.le_refl _, World.ownsRow_lit w #[] 0 (Nat.le_refl _) (by unfold maxLen; omega) rfl, (Below.refl _ _).alloc (Nat.le_refl _) _⟩
  case round =>
    obtain ⟨j, M, hj, rfl, HM, hm, hown, hb⟩ := hrel
    have hsz := hb.size
    by_cases hlt : j < L.length
    · obtain ⟨b, o, rfl, hbl, c1, c2⟩ := (HL.out.below hb (Nat.le_refl _)) j hlt
      have est := outP_take L id j hlt
      rw [← HM.out] at est
      by_cases hid : (L[j]).id = id
      · rw [if_pos hid, List.append_nil] at est
        have HE : Hid (M = outP (L.take (j + 1)) id) := est.symm
        rw [hid] at c1
        generalize (L[j]).tx = t at *
        clear est hid HM
        go_wp2
        go_roundw
        case rel => exact ⟨j + 1, M, by omega, by go_num, HE, by omega, hown, hb⟩
        case measure => simp [intOf]; omega
      · rw [if_neg hid] at est
        have HE : Hid (M ++ [L[j]] = outP (L.take (j + 1)) id) := est.symm
        obtain ⟨x, hx⟩ : ∃ x, L[j] = x := ⟨_, rfl⟩
        rw [hx] at HE hid c1 c2
        obtain ⟨i, t⟩ := x
        have hne : (i != id) = true := by simpa using hid
        simp only at c1 c2
        clear est HM hx hid
        go_wp2_with (at_builtin; refine wpList_append_own _ rfl _ _ 23 rfl w.heap.size 35 i0 (.agg #[.int .i64 0, .string ByteArray.empty]) 2 24 Tryz.underlying23 hi hz0 hz1 hz2 rfl (by decide) _ _ _ rfl (hown.alloc _) ⟨wr.heap.size, 0, none⟩ 1 1 [.int .i64 i, .string t] rfl rfl (cells_new _ #[.int .i64 i, .string t] _) (fun u hu => by simp at hu; rcases hu with rfl | rfl <;> rfl) (by unfold maxLen; omega) (by omega) (by simp; omega) ?_; intro v' w3 hown' hgrow3 hnil3)
        go_roundw
        case rel =>
          refine ⟨j + 1, M ++ [⟨i, t⟩], by omega, by go_num, HE, by simp; omega, ?_, ?_⟩
          · rw [cellsP_snoc, List.length_append]; exact hown'
          · exact growOwn (hb.alloc (by omega) _) (by simp; omega) (hown.alloc _) hgrow3 (Nat.le_refl _)
        case measure => simp [intOf]; omega
    · go_wp2
      go_ret
      obtain rfl : j = L.length := by omega
      have e := HM.out
      rw [List.take_length] at e
      rw [e] at hown
      exact ⟨⟨_, rfl, hown⟩, hb⟩
set_option maxHeartbeats 1000000 in
theorem polOut_impl (A : Option Addr) (c : Nat) (L : List PI) (id : Int) (w : World) (hL : RdP w.heap.size w A L) (hn : L.length ≤ 1048576) :
    Calls Tryz.prog 20 #[.slice A L.length c, .int .i64 id] w fun e w' => (∃ v, e = .returned v ∧ w'.ownsRow w.heap.size 35 2 v (outP L id).length (cellsP (outP L id))) ∧ Below w.heap.size w w' := by
  have HL : Hid (RdP w.heap.size w A L) := hL
  clear hL
  obtain ⟨i0, hi, hz0, hz1, hz2⟩ := info_parts infoP
  go_enter Tryz.func20, Tryz.ntmps20
  go_wp2
  go_loopw [5, 10] (fun v iv wr => ∃ (j : Nat) (M : List PI), j ≤ L.length ∧ iv = .int .i64 j ∧ Hid (M = outP (L.take j) id) ∧ M.length ≤ j ∧ wr.ownsRow w.heap.size 35 2 v M.length (cellsP M) ∧ Below w.heap.size w wr) (fun _ i _ => L.length - (intOf i).toNat)
  case atStart => exact ⟨0, [], Nat.zero_le _, rfl, rfl, Nat.le_refl _, World.ownsRow_nil _ _ _ _, Below.refl _ _⟩
  case round =>
    obtain ⟨j, M, hj, rfl, HM, hm, hown, hb⟩ := hrel
    have hsz := hb.size
    by_cases hlt : j < L.length
    · obtain ⟨b, o, rfl, hbl, c1, c2⟩ := (HL.out.below hb (Nat.le_refl _)) j hlt
      have est := outP_take L id j hlt
      rw [← HM.out] at est
      by_cases hid : (L[j]).id = id
      · rw [if_pos hid, List.append_nil] at est
        have HE : Hid (M = outP (L.take (j + 1)) id) := est.symm
        rw [hid] at c1
        generalize (L[j]).tx = t at *
        clear est hid HM
        go_wp2
        go_roundw
        case rel => exact ⟨j + 1, M, by omega, by go_num, HE, by omega, hown.alloc _, hb.alloc (by omega) _⟩
        case measure => simp [intOf]; omega
      · rw [if_neg hid] at est
        have HE : Hid (M ++ [L[j]] = outP (L.take (j + 1)) id) := est.symm
        obtain ⟨x, hx⟩ : ∃ x, L[j] = x := ⟨_, rfl⟩
        rw [hx] at HE hid c1 c2
        obtain ⟨i, t⟩ := x
        have hne : (i != id) = true := by simpa using hid
        simp only at c1 c2
        clear est HM hx hid
        go_wp2_with (at_builtin; refine wpList_append_own _ rfl _ _ 23 rfl w.heap.size 35 i0 (.agg #[.int .i64 0, .string ByteArray.empty]) 2 24 Tryz.underlying23 hi hz0 hz1 hz2 rfl (by decide) _ _ _ rfl ((hown.alloc _).alloc _) ⟨wr.heap.size + 1, 0, none⟩ 1 1 [.int .i64 i, .string t] rfl rfl (cells_new' _ #[.int .i64 i, .string t] _ _ (by simp)) (fun u hu => by simp at hu; rcases hu with rfl | rfl <;> rfl) (by unfold maxLen; omega) (by omega) (by simp; omega) ?_; intro v' w3 hown' hgrow3 hnil3)
        go_roundw
        case rel =>
          refine ⟨j + 1, M ++ [⟨i, t⟩], by omega, by go_num, HE, by simp; omega, ?_, ?_⟩
          · rw [cellsP_snoc, List.length_append]; exact hown'
          · exact growOwn ((hb.alloc (by omega) _).alloc (by simp; omega) _) (by simp; omega) ((hown.alloc _).alloc _) hgrow3 (Nat.le_refl _)
        case measure => simp [intOf]; omega
    · go_wp2
      go_ret
      obtain rfl : j = L.length := by omega
      have e := HM.out
      rw [List.take_length] at e
      rw [e] at hown
      exact ⟨⟨_, rfl, hown⟩, hb⟩
theorem polOut_own {b : Nat} {e : TypeId} (v : Value) (L : List PI) (id : Int) (w : World) (h : w.ownsRow b e 2 v L.length (cellsP L)) (hn : L.length ≤ 1048576) :
    Calls Tryz.prog 20 #[v, .int .i64 id] w fun e w' => (∃ v, e = .returned v ∧ w'.ownsRow w.heap.size 35 2 v (outP L id).length (cellsP (outP L id))) ∧ Below w.heap.size w w' := by
  obtain ⟨A, c, rfl, rd⟩ := rdP_of_own h
  exact polOut_impl A c L id w rd hn
theorem polOutS_own {b : Nat} {e : TypeId} (v : Value) (L : List PI) (id : Int) (w : World) (h : w.ownsRow b e 2 v L.length (cellsP L)) (hn : L.length ≤ 1048576) :
    Calls Tryz.prog 21 #[v, .int .i64 id] w fun e w' => (∃ v, e = .returned v ∧ w'.ownsRow w.heap.size 35 2 v (outP L id).length (cellsP (outP L id))) ∧ Below w.heap.size w w' := by
  obtain ⟨A, c, rfl, rd⟩ := rdP_of_own h
  exact polOut_spec A c L id w rd hn
end Go.Proofs.YthfffpdkmoclbaaGreatDoor.W
namespace Go.Proofs.YthfffpdkmoclbaaGreatDoor.W
open Go.Proofs.YthfffpdkmoclbaaGreatDoor.M

/-- an item that a pool may hold -/
def okI (x : PI) : Prop := kd x.tx ≠ 0 ∧ x.id = (idOfN x.tx.data.toList : Int)
theorem okP_iff (L : List PI) : okP L = true ↔ L.length ≤ 700 ∧ (∀ x ∈ L, okI x) ∧ RiseP L := by
  constructor
  · intro h
    have hr := okP_rise L h
    refine ⟨hr.2.1, fun x hx => ?_, hr.1⟩
    obtain ⟨j, hj, rfl⟩ := List.getElem_of_mem hx
    refine ⟨?_, hr.2.2 j hj⟩
    unfold okP at h
    simp only [Bool.and_eq_true, decide_eq_true_eq, List.all_eq_true, List.mem_range] at h
    have := h.2 j hj
    unfold gP at this
    simp only [Bool.and_eq_true, decide_eq_true_eq] at this
    rw [txP_at L j hj] at this
    exact this.1
  · rintro ⟨h0, h1, h2⟩
    unfold okP
    simp only [Bool.and_eq_true, decide_eq_true_eq, List.all_eq_true, List.mem_range]
    refine ⟨h0, fun i hi => ?_⟩
    unfold gP
    simp only [Bool.and_eq_true, Bool.or_eq_true, decide_eq_true_eq]
    rw [txP_at L i hi, idP_at L i hi]
    obtain ⟨k1, k2⟩ := h1 L[i] (List.getElem_mem hi)
    refine ⟨k1, k2, ?_⟩
    rcases Nat.eq_zero_or_pos i with h | h
    · exact .inl h
    · refine .inr ?_
      rw [idP_at L (i - 1) (by omega)]
      unfold RiseP at h2
      rw [List.pairwise_iff_getElem] at h2
      exact h2 (i - 1) i (by omega) hi (by omega)
theorem outP_sub (L : List PI) (n : Int) : (outP L n).Sublist L := List.filter_sublist
theorem outP_rise (L : List PI) (n : Int) (h : RiseP L) : RiseP (outP L n) := List.Pairwise.sublist (outP_sub L n) h
theorem outP_ok (L : List PI) (n : Int) (h : okP L = true) : okP (outP L n) = true := by
  obtain ⟨h0, h1, h2⟩ := (okP_iff L).1 h
  exact (okP_iff _).2 ⟨Nat.le_trans (outP_sub L n).length_le h0, fun x hx => h1 x ((outP_sub L n).subset hx), outP_rise L n h2⟩
/-- what was taken out is not there -/
theorem outP_find (L : List PI) (n : Int) : findP (outP L n) n = none := (findP_none ..).2 fun x hx => by
  have := (List.mem_filter.1 hx).2
  simpa using this
theorem outP_same (L : List PI) (n : Int) (h : ∀ x ∈ L, x.id ≠ n) : outP L n = L := List.filter_eq_self.2 fun x hx => by simpa using h x hx
/-- as many and as much as what was there under the id is gone -/
theorem outP_count (L : List PI) (n : Int) (hr : RiseP L) : match findP L n with
    | some t => (outP L n).length + 1 = L.length ∧ szP (outP L n) + t.size = szP L
    | none => outP L n = L := by
  induction L with
  | nil => simp [findP, outP]
  | cons x l ih =>
    obtain ⟨h1, h2⟩ := List.pairwise_cons.1 hr
    by_cases hx : x.id = n
    · have hl : outP l n = l := outP_same l n fun y hy => by have := h1 y hy; omega
      have e : outP (x :: l) n = l := by
        unfold outP at hl ⊢
        rw [List.filter_cons_of_neg (by simp [hx]), hl]
      simp only [findP, if_pos hx, e]
      refine ⟨by simp, ?_⟩
      simp [szP]
      omega
    · have e : outP (x :: l) n = x :: outP l n := by
        unfold outP
        rw [List.filter_cons_of_pos (by simp [hx])]
      have := ih h2
      simp only [findP, if_neg hx]
      cases hf : findP l n with
      | none =>
        rw [hf] at this
        simp only at this ⊢
        rw [e, this]
      | some t =>
        rw [hf] at this
        simp only at this ⊢
        rw [e]
        obtain ⟨h3, h4⟩ := this
        refine ⟨by simp; omega, ?_⟩
        simp [szP] at h4 ⊢
        omega
/-- PolGet is what is found, where items rise -/
theorem getP_find (L : List PI) (n : Int) (hr : RiseP L) : getP L n = findP L n := by
  rw [findP_pl L n hr]
  rfl
end Go.Proofs.YthfffpdkmoclbaaGreatDoor.W
