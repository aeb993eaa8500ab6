
/-
  MdlNew of the specification: a house at its beginning. Rows of at most 1048576 numbers.
-/
import Derived.Test.YtknbmgdfcejlkaaSlotMN
import Derived.Test.YtknbmgdfcejlkaaMathAt
import Derived.Test.YtknbmgdfcejlkaaMathNew
namespace Go.Proofs.Ytknbmgdfcejlkaa.W
open Go.RowKit
set_option linter.unusedVariables false

def inB (n a b : Int) : Bool := decide (a ≤ n) && decide (n ≤ b)
theorem inB_t {n a b : Int} (h1 : a ≤ n) (h2 : n ≤ b) : inB n a b = true := by unfold inB; rw [decide_eq_true h1, decide_eq_true h2]; rfl
theorem inB_f {n a b : Int} (h : ¬ (a ≤ n ∧ n ≤ b)) : inB n a b = false := by
  unfold inB
  by_cases h1 : a ≤ n
  · rw [decide_eq_false (fun q => h ⟨h1, q⟩)]; simp
  · rw [decide_eq_false h1]; rfl
/-- keys and admins that may be -/
def newB (K A : List Int) : Bool := inB K.length 1 4 && (inB A.length 1 3 && (K.all (fun k => inB k 1 9999) && A.all (fun a => inB a 1 K.length)))
set_option maxHeartbeats 400000 in
theorem l1In_is (n a b : Int) (k : Bool) (w : World) (h : inB n a b = k) :
    Calls Try.prog 18 #[.int .i64 n, .int .i64 a, .int .i64 b] w fun e w' => e = .returned (.bool k) ∧ w = w' := by
  subst h
  by_cases h1 : a ≤ n
  · by_cases h2 : n ≤ b
    · rw [inB_t h1 h2]
      go_enter Try.func18, Try.ntmps18
      go_wp2
      go_ret
      exact ⟨ret_bool (by simp), rfl⟩
    · rw [inB_f (fun q => h2 q.2)]
      have h3 : b < n := by omega
      go_enter Try.func18, Try.ntmps18
      go_wp2
      go_ret
      exact ⟨ret_bool (by first | (simp; done) | (simp; omega)), rfl⟩
  · rw [inB_f (fun q => h1 q.1)]
    have h3 : n < a := by omega
    go_enter Try.func18, Try.ntmps18
    go_wp2
    go_ret
    exact ⟨rfl, rfl⟩

def zrs (n : Nat) : List Int := List.replicate n 0
/-- what a house at its beginning is: rows of its own, or nothing -/
def NewAns (b : Bool) (K A : List Int) (base : Nat) (e : Ending) (w' : World) : Prop :=
  (b = false ∧ e = .returned (.agg #[.slice none 0 0, .slice none 0 0, .slice none 0 0])) ∨
  (b = true ∧ ∃ vk vu vr, e = .returned (.agg #[vk, vu, vr]) ∧ w'.ownsRow base 3 1 vk K.length (cellsI K) ∧ w'.ownsRow base 3 1 vu K.length (cellsI (zrs K.length)) ∧ w'.ownsRow base 45 3 vr A.length (cellsM A) ∧ ∀ g, vk.ownBlock = some g → vu.ownBlock ≠ some g)
theorem own_slice {w : World} {b n z : Nat} {e : TypeId} {v : Value} {xs : List Value} (h : w.ownsRow b e z v n xs) : ∃ A c, v = .slice A n c := by
  rcases h.2 with ⟨rfl, rfl⟩ | ⟨g, cap, cur, rfl, _⟩
  · exact ⟨_, _, rfl⟩
  · exact ⟨_, _, rfl⟩
theorem ownsDown {w : World} {b b' n z : Nat} {e : TypeId} {v : Value} {xs : List Value} (h : w.ownsRow b e z v n xs) (hb : b' ≤ b) : w.ownsRow b' e z v n xs := by
  obtain ⟨h1, h2⟩ := h
  refine ⟨h1, h2.imp id ?_⟩
  rintro ⟨g, cap, cur, q1, q2, q3⟩
  exact ⟨g, cap, cur, q1, by omega, q3⟩
theorem own_hi {w : World} {b n z m : Nat} {e : TypeId} {v : Value} {xs : List Value} (h : w.ownsRow b e z v n xs) (hm : m < b) : v.ownBlock ≠ some m := fun q => by
  have := (h.lt m q).1; omega
theorem kept_other {w w' : World} {b n z : Nat} {e : TypeId} {v : Value} {xs : List Value} {r : Option Nat} (h : w.ownsRow b e z v n xs) (hg : w.grownBy w' r) (hne : ∀ g, v.ownBlock = some g → r ≠ some g) : w'.ownsRow b e z v n xs := by
  refine h.kept hg ?_
  cases q : v.ownBlock with
  | none => exact .inl rfl
  | some k => exact .inr fun e => hne k q e.symm
theorem kept_set {w : World} {b n z m k : Nat} {e : TypeId} {v u : Value} {xs : List Value} (h : w.ownsRow b e z v n xs) (hm : m < b) : (w.setCell ⟨m, k, none⟩ u).ownsRow b e z v n xs :=
  kept_other h (grownBy_set w m k u) (fun g q e => by cases e; exact own_hi h hm q)
theorem all_snoc {P : Int → Bool} {L : List Int} {j : Nat} (h : j < L.length) (h1 : (L.take j).all P = true) (h2 : P L[j] = true) : (L.take (j + 1)).all P = true := by
  rw [List.take_succ_eq_append_getElem h, List.all_append, h1]; simp [h2]
theorem all_bad {P : Int → Bool} {L : List Int} {j : Nat} (h : j < L.length) (h2 : P L[j] = false) : L.all P = false := by
  rw [List.all_eq_false]
  exact ⟨L[j], List.getElem_mem h, by rw [h2]; decide⟩
theorem cellsI_snoc (L : List Int) (x : Int) : cellsI (L ++ [x]) = cellsI L ++ [.int .i64 x] := by simp [cellsI]
theorem zrs_snoc (n : Nat) : zrs (n + 1) = zrs n ++ [0] := by unfold zrs; rw [List.replicate_succ']
abbrev N3 : Array Value := #[.slice none 0 0, .slice none 0 0, .slice none 0 0]

set_option maxRecDepth 100000 in
set_option maxHeartbeats 8000000 in
theorem mdlNew_spec (A0 A1 : Option Addr) (c0 d1 : Nat) (K A : List Int) (w : World) (hK : RdI w.heap.size w A0 K) (hA : RdI w.heap.size w A1 A) (hk : K.length ≤ 1048576) (ha : A.length ≤ 1048576) :
    Calls Try.prog 5 #[.slice A0 K.length c0, .slice A1 A.length d1] w fun e w' => NewAns (newB K A) K A w.heap.size e w' ∧ Below w.heap.size w w' := by
  have HK : Hid (RdI w.heap.size w A0 K) := hK
  have HA : Hid (RdI w.heap.size w A1 A) := hA
  clear hK hA
  by_cases h1 : 1 ≤ K.length ∧ K.length ≤ 4
  case neg =>
    have q1 : inB (K.length : Int) 1 4 = false := inB_f (by omega)
    have e0 : newB K A = false := by unfold newB; rw [q1]; rfl
    rw [e0]
    clear e0
    go_enter Try.func5, Try.ntmps5
    go_wp2_with (go_at_call 18; refine (l1In_is _ _ _ _ _ (by assumption)).mono ?_; rintro e w1 ⟨rfl, rfl⟩)
    refine bodyPost_ret (v := .agg #[.slice none 0 0, .slice none 0 0, .slice none 0 0]) (by simp [results, Try.results5, go_sem]) rfl ?_
    exact ⟨.inl ⟨rfl, rfl⟩, ((Below.refl _ _).alloc (Nat.le_refl _) _).alloc (by simp) _⟩
  have q1 : inB (K.length : Int) 1 4 = true := inB_t (by omega) (by omega)
  by_cases h2 : 1 ≤ A.length ∧ A.length ≤ 3
  case neg =>
    have q2 : inB (A.length : Int) 1 3 = false := inB_f (by omega)
    have e0 : newB K A = false := by unfold newB; rw [q1, q2]; rfl
    rw [e0]
    clear e0
    go_enter Try.func5, Try.ntmps5
    go_wp2_with (go_at_call 18; refine (l1In_is _ _ _ _ _ (by assumption)).mono ?_; rintro e w1 ⟨rfl, rfl⟩)
    refine bodyPost_ret (v := .agg #[.slice none 0 0, .slice none 0 0, .slice none 0 0]) (by simp [results, Try.results5, go_sem]) rfl ?_
    exact ⟨.inl ⟨rfl, rfl⟩, ((Below.refl _ _).alloc (Nat.le_refl _) _).alloc (by simp) _⟩
  have q2 : inB (A.length : Int) 1 3 = true := inB_t (by omega) (by omega)
  have e0 : newB K A = (K.all (fun k => inB k 1 9999) && A.all (fun a => inB a 1 K.length)) := by unfold newB; rw [q1, q2]; rfl
  rw [e0]
  clear e0
  go_enter Try.func5, Try.ntmps5
  go_wp2_with (go_at_call 18; refine (l1In_is _ _ _ _ _ (by assumption)).mono ?_; rintro e w1 ⟨rfl, rfl⟩)
  go_loopw [6] (fun iv wr => ∃ (j : Nat) (vk vu : Value), j ≤ K.length ∧ iv = .int .i64 j ∧ wr.heap[w.heap.size]? = some (.cells N3 25 (0, 0)) ∧ wr.heap[w.heap.size + 1]? = some (.cells #[vk, vu, .slice none 0 0] 25 (0, 0)) ∧
      Hid (wr.ownsRow (w.heap.size + 2) 3 1 vk j (cellsI (K.take j))) ∧ Hid (wr.ownsRow (w.heap.size + 2) 3 1 vu j (cellsI (zrs j))) ∧ Hid (∀ g, vk.ownBlock = some g → vu.ownBlock ≠ some g) ∧ Hid ((K.take j).all (fun k => inB k 1 9999) = true) ∧ Below w.heap.size w wr) (fun i _ => K.length - (intOf i).toNat)
  case atStart =>
    refine ⟨0, .slice none 0 0, .slice none 0 0, Nat.zero_le _, rfl, ?_, ?_, World.ownsRow_nil _ _ _ _, World.ownsRow_nil _ _ _ _, (fun g q => by cases q), rfl, ((Below.refl _ _).alloc (Nat.le_refl _) _).alloc (by simp) _⟩
    · exact hpBelow (hpNew w (.cells N3 25)) ((Below.refl _ _).alloc (Nat.le_refl _) _) (by simp)
    · have := hpNew (w.alloc (.cells N3 25)) (.cells N3 25)
      rw [World.size_alloc] at this
      exact this
  case round =>
    obtain ⟨j, vk, vu, hj, rfl, hR, hM, HO1, HO2, HD, HP, hb⟩ := hrel
    have hsz := hb.size
    have hlR : w.heap.size < wr.heap.size := (Array.getElem?_eq_some_iff.1 hR).1
    have hlM : w.heap.size + 1 < wr.heap.size := (Array.getElem?_eq_some_iff.1 hM).1
    by_cases hlt : j < K.length
    · obtain ⟨b, o, rfl, hbl, c1⟩ := (HK.out.below hb (Nat.le_refl _)) j hlt
      have hall := fun q => all_snoc (P := fun k => inB k 1 9999) hlt HP.out q
      have hbad := fun q => all_bad (P := fun k => inB k 1 9999) (L := K) hlt q
      have htk : K.take (j + 1) = K.take j ++ [K[j]] := List.take_succ_eq_append_getElem hlt
      generalize hx : K[j] = x at *
      cases q3 : inB x 1 9999
      · have hf := hbad q3
        have e0 : (K.all (fun k => inB k 1 9999) && A.all (fun a => inB a 1 K.length)) = false := by rw [hf]; rfl
        have r0 := hpCell (k := 0) hR rfl; have r1 := hpCell (k := 1) hR rfl; have r2 := hpCell (k := 2) hR rfl
        have f0 := hpFrozen (k := 0) hR; have f1 := hpFrozen (k := 1) hR; have f2 := hpFrozen (k := 2) hR
        have k0 := hpCell (k := 0) (hpSet (k := 2) (v := .slice none 0 0) (hpSet (k := 1) (v := .slice none 0 0) (hpSet (k := 0) (v := .slice none 0 0) hR))) rfl
        have k1 := hpCell (k := 1) (hpSet (k := 2) (v := .slice none 0 0) (hpSet (k := 1) (v := .slice none 0 0) (hpSet (k := 0) (v := .slice none 0 0) hR))) rfl
        have k2 := hpCell (k := 2) (hpSet (k := 2) (v := .slice none 0 0) (hpSet (k := 1) (v := .slice none 0 0) (hpSet (k := 0) (v := .slice none 0 0) hR))) rfl
        have E0 : Hid ((K.all (fun k => inB k 1 9999) && A.all (fun a => inB a 1 K.length)) = false) := e0
        clear hall hbad htk HP HO1 HO2 HD hR hM hf e0
        go_wp2_with (go_at_call 18; refine (l1In_is _ _ _ _ _ (by assumption)).mono ?_; rintro e w1 ⟨rfl, rfl⟩)
        refine bodyPost_ret (v := .agg #[.slice none 0 0, .slice none 0 0, .slice none 0 0]) (by simp [results, Try.results5, go_sem, k0, k1, k2]) rfl ?_
        refine ⟨.inl ⟨E0.out, rfl⟩, ?_⟩
        repeat (refine Below.setCell ?_ (by first | (simp; done) | omega) _)
        exact hb
      · have hall' := hall q3
        have HP' : Hid ((K.take (j + 1)).all (fun k => inB k 1 9999) = true) := hall'
        have HT : Hid (K.take (j + 1) = K.take j ++ [x]) := htk
        clear hall hbad htk HP hall'
        go_wp2_with (go_at_call 18; refine (l1In_is _ _ _ _ _ (by assumption)).mono ?_; rintro e w1 ⟨rfl, rfl⟩)
        rename_i KK hKK
        refine frontMK (m := w.heap.size + 1) (b := b) (o := o) (j := j) (c := c0) (len := K.length) (base := w.heap.size + 2) (n := j) (x := x) (v0 := vk) (u0 := vk) (u1 := vu) (u2 := .slice none 0 0) (xs := cellsI (K.take j)) (by kernel_rfl) rfl rfl rfl rfl rfl hlt (by omega) c1 hM rfl (by omega) (by omega) HO1.out (own_hi HO1.out (by omega)) ?_
        intro y w2 w3 v' hb2 hO' hg3 hbk
        have hz2 := hb2.size
        have hz3 := hg3.size
        have R2 := hpBelow hR hb2 hlR
        have M2 := hpBelow hM hb2 hlM
        have R3 := hpBy R2 hg3 (own_hi HO1.out (by omega))
        have M3 := hpBy M2 hg3 (own_hi HO1.out (by omega))
        have U2 := ownsUnder HO2.out hb2 (Nat.le_refl _)
        have U3 := kept_other U2 hg3 (fun g q e => HD.out g e q)
        have D3 : ∀ g, v'.ownBlock = some g → vu.ownBlock ≠ some g := fun g q e => by
          rcases hbk with h | h
          · exact HD.out g (h.symm.trans q) e
          · rw [h] at q; cases q; have := (U2.lt _ e).2; omega
        have B3 : Below w.heap.size w w3 := (hb.trans (hb2.mono hsz)).grown hg3 (by omega) (fun g q => by have := (HO1.out.lt g q).1; omega)
        have R4 := hpBy R3 (grownBy_set w3 (w.heap.size + 1) 0 v') (fun e => by have := Option.some.inj e; omega)
        have M4 := hpSet (k := 0) (v := v') M3
        have O4 := kept_set (m := w.heap.size + 1) (k := 0) (u := v') hO' (by omega)
        have U4 := kept_set (m := w.heap.size + 1) (k := 0) (u := v') U3 (by omega)
        have B4 := B3.setCell (p := ⟨w.heap.size + 1, 0, none⟩) (by show w.heap.size ≤ w.heap.size + 1; omega) v'
        refine hKK _ _ ?_
        clear hKK
        simp only [List.getElem?_toArray, List.getElem?_cons_succ, List.getElem?_cons_zero, Option.getD_some]
        generalize w3.setCell ⟨w.heap.size + 1, 0, none⟩ v' = w4 at *
        have M4' : w4.heap[w.heap.size + 1]? = some (.cells #[v', vu, .slice none 0 0] 25 (0, 0)) := M4
        have m1 := hpCell (k := 1) M4' rfl
        have hz4 := B4.size
        have hl4 : w.heap.size + 1 < w4.heap.size := (Array.getElem?_eq_some_iff.1 M4').1
        rw [← cellsI_snoc, ← HT.out] at O4
        have HO4 : Hid (w4.ownsRow (w.heap.size + 2) 3 1 v' (j + 1) (cellsI (K.take (j + 1)))) := O4
        have HU4 : Hid (w4.ownsRow (w.heap.size + 2) 3 1 vu j (cellsI (zrs j))) := U4
        have HD4 : Hid (∀ g, v'.ownBlock = some g → vu.ownBlock ≠ some g) := D3
        have HR4 : Hid (w4.heap[w.heap.size]? = some (.cells N3 25 (0, 0))) := R4
        have HM4 : Hid (w4.heap[w.heap.size + 1]? = some (.cells #[v', vu, .slice none 0 0] 25 (0, 0))) := M4'
        clear R2 M2 R3 M3 U2 U3 D3 B3 R4 M4 O4 U4 hO' hg3 hbk hb2 hz2 hz3 hR hM HO1 HO2 HD HT c1 M4'
        obtain ⟨i0, hi, hz0, hz1, hz2⟩ := info_parts infoInt
        go_wp2_with (at_builtin; refine wpList_append_own_at _ rfl _ _ 22 rfl (w.heap.size + 2) 3 i0 (.int .i64 0) 1 8 Try.underlying22 hi hz0 hz1 hz2 rfl (by decide) vu j (cellsI (zrs j)) rfl (HU4.out.alloc _) ⟨w4.heap.size, 0, none⟩ 1 1 [.int .i64 0] rfl rfl (cells_new _ #[.int .i64 0] _) (fun u hu => by simp at hu; subst hu; rfl) (by unfold maxLen; omega) (by omega) (by simp; omega) ?_; intro v5 w5 hO5 hg5 _ hbk5; obtain ⟨A5, c5, rfl⟩ := own_slice hO5; have hz5 := hg5.size; simp only [World.size_alloc] at hz5; have R5 := hpBy (hpBelow HR4.out ((Below.refl _ _).alloc (Nat.le_refl _) (.cells #[.int .i64 0] 3)) (by omega)) hg5 (own_hi HU4.out (by omega)); have M5 := hpBy (hpBelow HM4.out ((Below.refl _ _).alloc (Nat.le_refl _) (.cells #[.int .i64 0] 3)) (by omega)) hg5 (own_hi HU4.out (by omega)); have m5 := hpCell (k := 1) M5 rfl; have mf := hpFrozen (k := 1) M5)
        go_roundw
        case rel =>
          have K5 := kept_other (HO4.out.alloc (.cells #[.int .i64 0] 3)) hg5 (fun g q e => HD4.out g q e)
          have B5 : Below w.heap.size w w5 := (B4.alloc hz4 (.cells #[.int .i64 0] 3)).grown hg5 (by simp; omega) (fun g q => by have := (HU4.out.lt g q).1; omega)
          refine ⟨j + 1, v', .slice A5 (j + 1) c5, by omega, by go_num, hpBy R5 (grownBy_set w5 (w.heap.size + 1) 1 _) (fun e => by have := Option.some.inj e; omega), hpSet (k := 1) M5, kept_set K5 (by omega), ?_, (fun g q e => ?_), HP', B5.setCell (p := ⟨w.heap.size + 1, 1, none⟩) (by show w.heap.size ≤ w.heap.size + 1; omega) _⟩
          · rw [zrs_snoc, cellsI_snoc]; exact kept_set hO5 (by omega)
          · rcases hbk5 with h | h
            · exact HD4.out g q (h.symm.trans e)
            · rw [h] at e
              have e' := Option.some.inj e
              have := (HO4.out.lt _ q).2
              rw [World.size_alloc] at e'
              omega
        case measure => simp [intOf]; omega
    · obtain rfl : j = K.length := by omega
      have tl : K.take K.length = K := List.take_length
      rw [tl] at HO1 HP
      go_wp2
      go_loopw [7] (fun iv wr => ∃ (j : Nat) (vr : Value), j ≤ A.length ∧ iv = .int .i64 j ∧ wr.heap[w.heap.size]? = some (.cells N3 25 (0, 0)) ∧ wr.heap[w.heap.size + 1]? = some (.cells #[vk, vu, vr] 25 (0, 0)) ∧
          Hid (wr.ownsRow (w.heap.size + 2) 3 1 vk K.length (cellsI K)) ∧ Hid (wr.ownsRow (w.heap.size + 2) 3 1 vu K.length (cellsI (zrs K.length))) ∧ Hid (wr.ownsRow (w.heap.size + 2) 45 3 vr j (cellsM (A.take j))) ∧ Hid (∀ g, vr.ownBlock = some g → vk.ownBlock ≠ some g ∧ vu.ownBlock ≠ some g) ∧ Hid ((A.take j).all (fun a => inB a 1 K.length) = true) ∧ Below w.heap.size w wr) (fun i _ => A.length - (intOf i).toNat)
      case atStart => exact ⟨0, .slice none 0 0, Nat.zero_le _, rfl, hR, hM, HO1, HO2, World.ownsRow_nil _ _ _ _, (fun g q => by cases q), rfl, hb⟩
      case round =>
        clear hR hM HO1 HO2 hb hsz hlR hlM
        obtain ⟨j, vr, hj2, rfl, hR, hM, HO1, HO2, HO3, HE, HQ, hb⟩ := hrel
        have hsz := hb.size
        have hlR : w.heap.size < wr.heap.size := (Array.getElem?_eq_some_iff.1 hR).1
        have hlM : w.heap.size + 1 < wr.heap.size := (Array.getElem?_eq_some_iff.1 hM).1
        by_cases hlt : j < A.length
        · obtain ⟨b, o, rfl, hbl, c1⟩ := (HA.out.below hb (Nat.le_refl _)) j hlt
          have hall := fun q => all_snoc (P := fun a => inB a 1 K.length) hlt HQ.out q
          have hbad := fun q => all_bad (P := fun a => inB a 1 K.length) (L := A) hlt q
          have htk : A.take (j + 1) = A.take j ++ [A[j]] := List.take_succ_eq_append_getElem hlt
          generalize hx : A[j] = x at *
          cases q3 : inB x 1 K.length
          · have hf := hbad q3
            have e0 : (K.all (fun k => inB k 1 9999) && A.all (fun a => inB a 1 K.length)) = false := by rw [hf]; simp
            have E0 : Hid ((K.all (fun k => inB k 1 9999) && A.all (fun a => inB a 1 K.length)) = false) := e0
            have r0 := hpCell (k := 0) hR rfl; have r1 := hpCell (k := 1) hR rfl; have r2 := hpCell (k := 2) hR rfl
            have f0 := hpFrozen (k := 0) hR; have f1 := hpFrozen (k := 1) hR; have f2 := hpFrozen (k := 2) hR
            have k0 := hpCell (k := 0) (hpSet (k := 2) (v := .slice none 0 0) (hpSet (k := 1) (v := .slice none 0 0) (hpSet (k := 0) (v := .slice none 0 0) hR))) rfl
            have k1 := hpCell (k := 1) (hpSet (k := 2) (v := .slice none 0 0) (hpSet (k := 1) (v := .slice none 0 0) (hpSet (k := 0) (v := .slice none 0 0) hR))) rfl
            have k2 := hpCell (k := 2) (hpSet (k := 2) (v := .slice none 0 0) (hpSet (k := 1) (v := .slice none 0 0) (hpSet (k := 0) (v := .slice none 0 0) hR))) rfl
            clear hall hbad htk HQ HO1 HO2 HO3 HE HD hR hM hf e0
            go_wp2_with (go_at_call 18; refine (l1In_is _ _ _ _ _ (by assumption)).mono ?_; rintro e w1 ⟨rfl, rfl⟩)
            refine bodyPost_ret (v := .agg #[.slice none 0 0, .slice none 0 0, .slice none 0 0]) (by simp [results, Try.results5, go_sem, k0, k1, k2]) rfl ?_
            refine ⟨.inl ⟨E0.out, rfl⟩, ?_⟩
            repeat (refine Below.setCell ?_ (by first | (simp; done) | omega) _)
            exact hb
          · have hall' := hall q3
            have HQ' : Hid ((A.take (j + 1)).all (fun a => inB a 1 K.length) = true) := hall'
            have HT : Hid (A.take (j + 1) = A.take j ++ [x]) := htk
            clear hall hbad htk HQ hall'
            go_wp2_with (go_at_call 18; refine (l1In_is _ _ _ _ _ (by assumption)).mono ?_; rintro e w1 ⟨rfl, rfl⟩)
            rename_i KK hKK
            refine frontMR (m := w.heap.size + 1) (b := b) (o := o) (j := j) (c := d1) (len := A.length) (base := w.heap.size + 2) (n := j) (x := x) (v0 := vr) (u0 := vk) (u1 := vu) (u2 := vr) (xs := cellsM (A.take j)) (by kernel_rfl) rfl rfl rfl rfl rfl hlt (by omega) c1 hM rfl (by omega) (by omega) HO3.out (own_hi HO3.out (by omega)) ?_
            intro y w2 w3 v' hb2 hO' hg3 hbk
            have hz2 := hb2.size
            have hz3 := hg3.size
            have R3 := hpBy (hpBelow hR hb2 hlR) hg3 (own_hi HO3.out (by omega))
            have M3 := hpBy (hpBelow hM hb2 hlM) hg3 (own_hi HO3.out (by omega))
            have P2 := ownsUnder HO1.out hb2 (Nat.le_refl _)
            have U2 := ownsUnder HO2.out hb2 (Nat.le_refl _)
            have P3 := kept_other P2 hg3 (fun g q e => (HE.out g e).1 q)
            have U3 := kept_other U2 hg3 (fun g q e => (HE.out g e).2 q)
            have E3 : ∀ g, v'.ownBlock = some g → vk.ownBlock ≠ some g ∧ vu.ownBlock ≠ some g := fun g q => by
              rcases hbk with h | h
              · exact HE.out g (h.symm.trans q)
              · rw [h] at q
                cases q
                exact ⟨fun e => by have := (P2.lt _ e).2; omega, fun e => by have := (U2.lt _ e).2; omega⟩
            have B3 : Below w.heap.size w w3 := (hb.trans (hb2.mono hsz)).grown hg3 (by omega) (fun g q => by have := (HO3.out.lt g q).1; omega)
            have R4 := hpBy R3 (grownBy_set w3 (w.heap.size + 1) 2 v') (fun e => by have := Option.some.inj e; omega)
            have M4 := hpSet (k := 2) (v := v') M3
            have O4 := kept_set (m := w.heap.size + 1) (k := 2) (u := v') hO' (by omega)
            have P4 := kept_set (m := w.heap.size + 1) (k := 2) (u := v') P3 (by omega)
            have U4 := kept_set (m := w.heap.size + 1) (k := 2) (u := v') U3 (by omega)
            have B4 := B3.setCell (p := ⟨w.heap.size + 1, 2, none⟩) (by show w.heap.size ≤ w.heap.size + 1; omega) v'
            refine hKK _ _ ?_
            clear hKK
            simp only [List.getElem?_toArray, List.getElem?_cons_succ, List.getElem?_cons_zero, Option.getD_some]
            rw [← cellsM_snoc, ← HT.out] at O4
            generalize w3.setCell ⟨w.heap.size + 1, 2, none⟩ v' = w4 at *
            go_wp2
            go_roundw
            case rel => exact ⟨j + 1, v', by omega, by go_num, R4, M4, P4, U4, O4, E3, HQ', B4⟩
            case measure => simp [intOf]; omega
        · obtain rfl : j = A.length := by omega
          have tl2 : A.take A.length = A := List.take_length
          rw [tl2] at HO3 HQ
          have e1 : (K.all (fun k => inB k 1 9999) && A.all (fun a => inB a 1 K.length)) = true := by rw [HP.out, HQ.out]; rfl
          have E1 : Hid ((K.all (fun k => inB k 1 9999) && A.all (fun a => inB a 1 K.length)) = true) := e1
          obtain ⟨Ak, ck, rfl⟩ := own_slice HO1.out
          obtain ⟨Au, cu, rfl⟩ := own_slice HO2.out
          obtain ⟨Ar, cr, rfl⟩ := own_slice HO3.out
          have m0 := hpCell (k := 0) hM rfl; have m1 := hpCell (k := 1) hM rfl; have m2 := hpCell (k := 2) hM rfl
          have r0 := hpCell (k := 0) hR rfl; have r1 := hpCell (k := 1) hR rfl; have r2 := hpCell (k := 2) hR rfl
          have f0 := hpFrozen (k := 0) hR; have f1 := hpFrozen (k := 1) hR; have f2 := hpFrozen (k := 2) hR
          have k0 := hpCell (k := 0) (hpSet (k := 2) (v := .slice Ar A.length cr) (hpSet (k := 1) (v := .slice Au K.length cu) (hpSet (k := 0) (v := .slice Ak K.length ck) hR))) rfl
          have k1 := hpCell (k := 1) (hpSet (k := 2) (v := .slice Ar A.length cr) (hpSet (k := 1) (v := .slice Au K.length cu) (hpSet (k := 0) (v := .slice Ak K.length ck) hR))) rfl
          have k2 := hpCell (k := 2) (hpSet (k := 2) (v := .slice Ar A.length cr) (hpSet (k := 1) (v := .slice Au K.length cu) (hpSet (k := 0) (v := .slice Ak K.length ck) hR))) rfl
          have G1 := kept_set (m := w.heap.size) (k := 2) (u := .slice Ar A.length cr) (kept_set (m := w.heap.size) (k := 1) (u := .slice Au K.length cu) (kept_set (m := w.heap.size) (k := 0) (u := .slice Ak K.length ck) HO1.out (by omega)) (by omega)) (by omega)
          have G2 := kept_set (m := w.heap.size) (k := 2) (u := .slice Ar A.length cr) (kept_set (m := w.heap.size) (k := 1) (u := .slice Au K.length cu) (kept_set (m := w.heap.size) (k := 0) (u := .slice Ak K.length ck) HO2.out (by omega)) (by omega)) (by omega)
          have G3 := kept_set (m := w.heap.size) (k := 2) (u := .slice Ar A.length cr) (kept_set (m := w.heap.size) (k := 1) (u := .slice Au K.length cu) (kept_set (m := w.heap.size) (k := 0) (u := .slice Ak K.length ck) HO3.out (by omega)) (by omega)) (by omega)
          have HG1 : Hid (_) := G1
          have HG2 : Hid (_) := G2
          have HG3 : Hid (_) := G3
          clear G1 G2 G3 e1 HO1 HO2 HO3 hR hM
          go_wp2
          refine bodyPost_ret (v := .agg #[.slice Ak K.length ck, .slice Au K.length cu, .slice Ar A.length cr]) (by simp [results, Try.results5, go_sem, k0, k1, k2]) rfl ?_
          refine ⟨.inr ⟨E1.out, _, _, _, rfl, ownsDown HG1.out (by omega), ownsDown HG2.out (by omega), ownsDown HG3.out (by omega), HD.out⟩, ?_⟩
          repeat (refine Below.setCell ?_ (by first | (simp; done) | omega) _)
          exact hb
end Go.Proofs.Ytknbmgdfcejlkaa.W
