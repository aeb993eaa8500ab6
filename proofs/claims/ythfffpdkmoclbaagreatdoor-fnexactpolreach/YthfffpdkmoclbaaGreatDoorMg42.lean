/-
  What the law on PolReach asks of ids that some lead to. No condition.
  The specification's l3Has, l3Add, l3Reach. Pools of at most 700 items, ids of at most 700.
-/
import Derived.Test.YthfffpdkmoclbaaGreatDoorMg41
import Derived.Test.YthfffpdkmoclbaaGreatDoorMg40
import Derived.Test.YthfffpdkmoclbaaGreatDoorMg38
import Derived.Test.YthfffpdkmoclbaaGreatDoorMg33
import Derived.Test.YthfffpdkmoclbaaGreatDoorMg20
namespace Go.Proofs.YthfffpdkmoclbaaGreatDoor.W
open Go.Proofs.YthfffpdkmoclbaaGreatDoor.M Go.RowKit

/-- a queue reads as its numbers -/
theorem Que.rd {B : Nat} {w : World} {v : Value} {T : List Int} (h : Que B w v T) : ∃ A c, v = .slice A T.length c ∧ RdI w.heap.size w A T := by
  obtain ⟨g, off, cap, cur, rfl, q1, q2, q3, q4, q5, q6, q7⟩ := h
  exact ⟨_, _, rfl, fun j hj => ⟨g, off, rfl, q2, by rw [cell_of_row w g (off + j) cur _ (0, 0) q3]; exact q7 j hj⟩⟩
/-- the ids, and what the first j that were found name -/
def InIs (L : List PI) (R N : List Int) (j : Nat) (M : List Int) : Prop := ∀ m, m ∈ M ↔ m ∈ R ∨ ∃ k, ∃ h : k < N.length, k < j ∧ ∃ t, findP L N[k] = some t ∧ m ∈ kidsN t
theorem InIs.start (L : List PI) (R N : List Int) : InIs L R N 0 R := fun m => ⟨.inl, fun h => by
  rcases h with h | ⟨k, _, h, _⟩
  · exact h
  · omega⟩
theorem InIs.next {L : List PI} {R N M : List Int} {j : Nat} (h : InIs L R N j M) (hj : j < N.length) {t : ByteArray} (hf : findP L N[j] = some t) : InIs L R N (j + 1) (M ++ kidsN t) := fun m => by
  rw [List.mem_append, h m]
  constructor
  · rintro ((h1 | ⟨k, hk, h2, h3⟩) | h1)
    · exact .inl h1
    · exact .inr ⟨k, hk, by omega, h3⟩
    · exact .inr ⟨j, hj, by omega, t, hf, h1⟩
  · rintro (h1 | ⟨k, hk, h2, t', h3, h4⟩)
    · exact .inl (.inl h1)
    · rcases Nat.lt_or_eq_of_le (Nat.le_of_lt_succ h2) with h5 | rfl
      · exact .inl (.inr ⟨k, hk, h5, t', h3, h4⟩)
      · rw [hf] at h3; cases h3
        exact .inr h4
theorem IsLed.found {L : List PI} {R N : List Int} {al : Bool} (h : IsLed L R N al) (j : Nat) (hj : j < N.length) : ∃ t, findP L N[j] = some t :=
  Option.isSome_iff_exists.1 ((h.mem N[j]).1 (List.getElem_mem hj)).2
theorem InIs.led {L : List PI} {R N M : List Int} {al : Bool} (h : IsLed L R N al) (hM : InIs L R N N.length M) : ∀ m ∈ M, Led L R m := fun m hm => by
  rcases (hM m).1 hm with h1 | ⟨k, hk, _, t, h2, h3⟩
  · exact .here m h1
  · exact .kid N[k] m t ((h.mem _).1 (List.getElem_mem hk)).1 h2 h3
theorem InIs.there {L : List PI} {R N M : List Int} {al : Bool} (h : IsLed L R N al) (hM : InIs L R N N.length M) (m : Int) (hm : m ∈ M) : decide (m ∈ N) = (findP L m).isSome := by
  cases hf : (findP L m).isSome
  · rw [decide_eq_false_iff_not]
    intro hn
    have := ((h.mem m).1 hn).2
    rw [hf] at this; cases this
  · rw [decide_eq_true_eq]
    exact (h.mem m).2 ⟨hM.led h m hm, hf⟩
theorem InIs.all {L : List PI} {R N M : List Int} {al : Bool} (h : IsLed L R N al) (hM : InIs L R N N.length M) (d : Bool) (hd : d = true ↔ ∃ k, ∃ hk : k < M.length, findP L M[k] = none) : (al == !d) = true := by
  have key : al = true ↔ ∀ m ∈ M, (findP L m).isSome = true := by
    rw [h.all]
    constructor
    · intro h1 m hm
      exact h1 m (hM.led h m hm)
    · intro h1 n hn
      induction hn with
      | here n hr => exact h1 n ((hM n).2 (.inl hr))
      | kid m n t hm hf hk ih =>
        have hmN : m ∈ N := (h.mem m).2 ⟨hm, by rw [hf]; rfl⟩
        obtain ⟨k, hk2, rfl⟩ := List.getElem_of_mem hmN
        exact h1 n ((hM n).2 (.inr ⟨k, hk2, hk2, t, hf, hk⟩))
  cases d
  · have : al = true := key.2 fun m hm => by
      obtain ⟨k, hk, rfl⟩ := List.getElem_of_mem hm
      cases hf : findP L M[k] with
      | some t => rfl
      | none => have := hd.2 ⟨k, hk, hf⟩; cases this
    rw [this]; rfl
  · obtain ⟨k, hk, hf⟩ := hd.1 rfl
    have : al = false := by
      cases al
      · rfl
      · have := key.1 rfl M[k] (List.getElem_mem hk)
        rw [hf] at this; cases this
    rw [this]; rfl
theorem IsLed.inI {L : List PI} {R N : List Int} {al : Bool} (hk : okP L = true) (h : IsLed L R N al) : ∀ n ∈ N, inI n := fun n hn => by
  obtain ⟨_, h2, _⟩ := (okP_iff L).1 hk
  obtain ⟨t, ht⟩ := Option.isSome_iff_exists.1 ((h.mem n).1 hn).2
  have := (h2 _ (findP_in L n t ht)).2
  simp only at this
  have hb := idOfN_bd t.data.toList
  exact ⟨by omega, by omega⟩
theorem ReachIs.led {L : List PI} {ids N : List Int} {a : Bool} (h : ReachIs L ids N a) (hk : okP L = true) (hi : ids.length ≤ 700) : IsLed L ids N a := by
  rcases h with ⟨_, _, h⟩ | ⟨h1, _⟩
  · exact h
  · rcases h1 with h1 | h1
    · rw [hk] at h1; cases h1
    · omega
theorem ReachIs.none {L : List PI} {ids N : List Int} {a : Bool} (h : ReachIs L ids N a) (hk : okP L = false) : N = [] ∧ a = false := by
  rcases h with ⟨h1, _⟩ | ⟨_, h2, h3⟩
  · rw [hk] at h1; cases h1
  · exact ⟨h2, h3⟩
end Go.Proofs.YthfffpdkmoclbaaGreatDoor.W
namespace Go.Proofs.YthfffpdkmoclbaaGreatDoor.W
open Go.RowKit Go.Proofs.YthfffpdkmoclbaaGreatDoor.M
set_option linter.unusedVariables false

set_option maxHeartbeats 1000000 in
theorem l3Has_any (A : Option Addr) (c : Nat) (L : List Int) (n : Int) (w : World) (hL : RdI w.heap.size w A L) (hn : L.length ≤ 1048576) :
    Calls Tryz.prog 91 #[.slice A L.length c, .int .i64 n] w fun e w' => e = .returned (.bool (decide (n ∈ L))) ∧ w = w' := by
  have HL : Hid (RdI w.heap.size w A L) := hL
  clear hL
  go_enter Tryz.func91, Tryz.ntmps91
  go_wp2
  go_loopw [5] (fun iv wr => ∃ j : Nat, j ≤ L.length ∧ iv = .int .i64 j ∧ Hid (∀ k (h : k < L.length), k < j → L[k] ≠ n) ∧ w = wr) (fun i _ => L.length - (intOf i).toNat)
  case atStart => exact ⟨0, Nat.zero_le _, rfl, (fun k h hk => by omega), rfl⟩
  case round =>
    obtain ⟨j, hj, rfl, HN, rfl⟩ := hrel
    by_cases hlt : j < L.length
    · obtain ⟨b, o, rfl, hbl, c1⟩ := HL.out j hlt
      by_cases he : L[j] = n
      · have hm : decide (n ∈ L) = true := by rw [← he]; simp
        rw [he] at c1
        clear he
        go_wp2
        go_ret
        exact ⟨ret_bool hm.symm, rfl⟩
      · have HE : Hid (L[j] ≠ n) := he
        obtain ⟨x, hx⟩ : ∃ x, L[j] = x := ⟨_, rfl⟩
        rw [hx] at c1 he
        clear hx
        go_wp2
        go_roundw
        case rel => exact ⟨j + 1, by omega, by go_num, (fun k h hk => by
          rcases Nat.lt_or_eq_of_le (Nat.le_of_lt_succ hk) with h1 | rfl
          · exact HN.out k h h1
          · exact HE.out), by first | exact rfl | exact trivial⟩
        case measure => simp [intOf]; omega
    · have hm : decide (n ∈ L) = false := by
        rw [decide_eq_false_iff_not]
        intro hm
        obtain ⟨k, hk, e⟩ := List.getElem_of_mem hm
        exact HN.out k hk (by omega) e
      go_wp2
      go_ret
      exact ⟨ret_bool hm.symm, rfl⟩
set_option maxHeartbeats 4000000 in
set_option maxRecDepth 100000 in
theorem l3Add_any (A : Option Addr) (c : Nat) (L : List Int) (n : Int) (w : World) (hL : RdI w.heap.size w A L) (hn : L.length ≤ 1000) (hm : n ∉ L) :
    Calls Tryz.prog 93 #[.slice A L.length c, .int .i64 n] w fun e w' => (∃ v, e = .returned v ∧ w'.ownsRow w.heap.size 3 1 v (insI L n).length (cellsI (insI L n))) ∧ Below w.heap.size w w' := by
  have HL : Hid (RdI w.heap.size w A L) := hL
  have HH := l3Has_any A c L n w hL (by omega)
  have hmd : decide (n ∈ L) = false := by simpa using hm
  rw [hmd] at HH
  clear hL hm hmd
  obtain ⟨i0, hi, hz0, hz1, hz2⟩ := info_parts infoI
  go_enter Tryz.func93, Tryz.ntmps93
  go_wp2_with (go_at_call 91; refine HH.mono ?_; rintro e w' ⟨rfl, rfl⟩; clear HH)
  go_loopw [5, 6, 7] (fun v dv iv wr => ∃ (j : Nat) (d : Bool) (M : List Int), j ≤ L.length ∧ iv = .int .i64 j ∧ dv = .bool d ∧ Hid ((d = false ∧ M = L.take j ∧ ∀ y ∈ L.take j, ¬ n < y) ∨ (d = true ∧ M = insI (L.take j) n ∧ ∃ y ∈ L.take j, n < y)) ∧ M.length ≤ 2 * j + 1 ∧ wr.ownsRow w.heap.size 3 1 v M.length (cellsI M) ∧ Below w.heap.size w wr) (fun _ _ i _ => L.length - (intOf i).toNat)
  case atStart => exact ⟨0, false, [], Nat.zero_le _, rfl, rfl, .inl ⟨rfl, by simp, by simp⟩, by simp, World.ownsRow_lit w #[] 0 (Nat.le_refl _) (by unfold maxLen; omega) rfl, (Below.refl _ _).alloc (Nat.le_refl _) _⟩
  case round =>
    obtain ⟨j, d, M, hj, rfl, rfl, HR, hMl, hown, hb⟩ := hrel
    have hsz := hb.size
    have snocI : ∀ (M : List Int) (x : Int), cellsI (M ++ [x]) = cellsI M ++ [.int .i64 x] := fun M x => by simp [cellsI]
    by_cases hlt : j < L.length
    · obtain ⟨b, o, rfl, hbl, c1⟩ := (HL.out.below hb (Nat.le_refl _)) j hlt
      have HT : Hid (L.take (j + 1) = L.take j ++ [L[j]]) := List.take_succ_eq_append_getElem hlt
      obtain ⟨x, hx⟩ : ∃ x, L[j] = x := ⟨_, rfl⟩
      rw [hx] at c1 HT
      clear hx
      cases d with
      | true =>
        have HR2 : Hid ((true = false ∧ M ++ [x] = L.take (j + 1) ∧ ∀ y ∈ L.take (j + 1), ¬ n < y) ∨ (true = true ∧ M ++ [x] = insI (L.take (j + 1)) n ∧ ∃ y ∈ L.take (j + 1), n < y)) := (show _ ∨ _ by
          rcases HR.out with ⟨h, _⟩ | ⟨_, h1, y, h2, h3⟩
          · cases h
          · refine .inr ⟨rfl, ?_, y, by rw [HT.out]; exact List.mem_append_left _ h2, h3⟩
            rw [HT.out, insI_done _ _ _ ⟨y, h2, h3⟩, h1])
        go_wp2_with (at_builtin; refine wpList_append_own _ rfl _ _ 41 rfl w.heap.size 3 i0 (.int .i64 0) 1 8 Tryz.underlying41 hi hz0 hz1 hz2 rfl (by decide) _ _ _ rfl (hown.alloc _) ⟨wr.heap.size, 0, none⟩ 1 1 [.int .i64 x] rfl rfl (cells_new _ #[.int .i64 x] _) (fun u hu => by simp at hu; subst hu; rfl) (by unfold maxLen; omega) (by omega) (by simp; omega) ?_; intro v' w3 hown' hgrow3 hnil3)
        go_roundw
        case rel => exact ⟨j + 1, true, M ++ [x], by omega, by go_num, rfl, HR2, by simp; omega, by rw [List.length_append, snocI]; exact hown', growOwn (hb.alloc (by omega) _) (by simp; omega) (hown.alloc _) hgrow3 (Nat.le_refl _)⟩
        case measure => simp [intOf]; omega
      | false =>
        have hf : M = L.take j ∧ ∀ y ∈ L.take j, ¬ n < y := by
          rcases HR.out with ⟨_, h1, h2⟩ | ⟨h, _⟩
          · exact ⟨h1, h2⟩
          · cases h
        by_cases hnx : n < x
        · have HR2 : Hid ((true = false ∧ M ++ [n] ++ [x] = L.take (j + 1) ∧ ∀ y ∈ L.take (j + 1), ¬ n < y) ∨ (true = true ∧ M ++ [n] ++ [x] = insI (L.take (j + 1)) n ∧ ∃ y ∈ L.take (j + 1), n < y)) := (show _ ∨ _ by
            refine .inr ⟨rfl, ?_, x, by rw [HT.out]; simp, hnx⟩
            rw [HT.out, insI_here _ _ _ hf.2 hnx, hf.1])
          clear hf
          go_wp2_with (first
            | (at_builtin; refine wpList_append_own _ rfl _ _ 41 rfl w.heap.size 3 i0 (.int .i64 0) 1 8 Tryz.underlying41 hi hz0 hz1 hz2 rfl (by decide) _ _ _ rfl (hown.alloc _) ⟨wr.heap.size, 0, none⟩ 1 1 [.int .i64 n] rfl rfl (cells_new _ #[.int .i64 n] _) (fun u hu => by simp at hu; subst hu; rfl) (by unfold maxLen; omega) (by omega) (by simp; omega) ?_; intro v' w3 hown' hgrow3 hnil3; have hb3 := growOwn (hb.alloc (by omega) _) (by simp; omega) (hown.alloc _) hgrow3 (Nat.le_refl _); have hs3 := hb3.size; have c3 := (hb3.cell (p := ⟨b, _, none⟩) hbl).trans ((hb.cell (p := ⟨b, _, none⟩) hbl).symm.trans c1); clear hown)
            | (at_builtin; refine wpList_append_own _ rfl _ _ 41 rfl w.heap.size 3 i0 (.int .i64 0) 1 8 Tryz.underlying41 hi hz0 hz1 hz2 rfl (by decide) _ _ _ rfl (hown'.alloc _) ⟨w3.heap.size, 0, none⟩ 1 1 [.int .i64 x] rfl rfl (cells_new _ #[.int .i64 x] _) (fun u hu => by simp at hu; subst hu; rfl) (by unfold maxLen; omega) (by omega) (by simp; omega) ?_; intro v4 w4 hown4 hgrow4 hnil4; have hb4 := growOwn (hb3.alloc hs3 _) (by simp; omega) (hown'.alloc _) hgrow4 (Nat.le_refl _)))
          go_roundw
          case rel => exact ⟨j + 1, true, M ++ [n] ++ [x], by omega, by go_num, rfl, HR2, by simp; omega, by rw [List.length_append, List.length_append, snocI, snocI]; exact hown4, hb4⟩
          case measure => simp [intOf]; omega
        · have HR2 : Hid ((false = false ∧ M ++ [x] = L.take (j + 1) ∧ ∀ y ∈ L.take (j + 1), ¬ n < y) ∨ (false = true ∧ M ++ [x] = insI (L.take (j + 1)) n ∧ ∃ y ∈ L.take (j + 1), n < y)) := (show _ ∨ _ by
            refine .inl ⟨rfl, by rw [HT.out, hf.1], fun y hy => ?_⟩
            rw [HT.out] at hy
            rcases List.mem_append.1 hy with hy | hy
            · exact hf.2 y hy
            · rw [List.mem_singleton] at hy; rw [hy]; exact hnx)
          clear hf
          go_wp2_with (at_builtin; refine wpList_append_own _ rfl _ _ 41 rfl w.heap.size 3 i0 (.int .i64 0) 1 8 Tryz.underlying41 hi hz0 hz1 hz2 rfl (by decide) _ _ _ rfl (hown.alloc _) ⟨wr.heap.size, 0, none⟩ 1 1 [.int .i64 x] rfl rfl (cells_new _ #[.int .i64 x] _) (fun u hu => by simp at hu; subst hu; rfl) (by unfold maxLen; omega) (by omega) (by simp; omega) ?_; intro v' w3 hown' hgrow3 hnil3)
          go_roundw
          case rel => exact ⟨j + 1, false, M ++ [x], by omega, by go_num, rfl, HR2, by simp; omega, by rw [List.length_append, snocI]; exact hown', growOwn (hb.alloc (by omega) _) (by simp; omega) (hown.alloc _) hgrow3 (Nat.le_refl _)⟩
          case measure => simp [intOf]; omega
    · obtain rfl : j = L.length := by omega
      rw [List.take_length] at HR
      cases d with
      | true =>
        have e9 : M = insI L n := by
          rcases HR.out with ⟨h, _⟩ | ⟨_, h1, _⟩
          · cases h
          · exact h1
        subst e9
        go_wp2
        go_ret
        exact ⟨⟨_, rfl, hown⟩, hb⟩
      | false =>
        have hf : M = L ∧ ∀ y ∈ L, ¬ n < y := by
          rcases HR.out with ⟨_, h1, h2⟩ | ⟨h, _⟩
          · exact ⟨h1, h2⟩
          · cases h
        have e9 : Hid (insI L n = M ++ [n]) := (show _ = _ by rw [insI_none L n hf.2, hf.1])
        clear hf
        go_wp2_with (at_builtin; refine wpList_append_own _ rfl _ _ 41 rfl w.heap.size 3 i0 (.int .i64 0) 1 8 Tryz.underlying41 hi hz0 hz1 hz2 rfl (by decide) _ _ _ rfl (hown.alloc _) ⟨wr.heap.size, 0, none⟩ 1 1 [.int .i64 n] rfl rfl (cells_new _ #[.int .i64 n] _) (fun u hu => by simp at hu; subst hu; rfl) (by unfold maxLen; omega) (by omega) (by simp; omega) ?_; intro v' w3 hown' hgrow3 hnil3)
        go_ret
        rw [e9.out, List.length_append, snocI]
        exact ⟨⟨_, rfl, hown'⟩, growOwn (hb.alloc (by omega) _) (by simp; omega) (hown.alloc _) hgrow3 (Nat.le_refl _)⟩
theorem sepMove {w : World} {b n z : Nat} {e : TypeId} {v q q' : Value} {xs : List Value} (h : w.ownsRow b e z v n xs) (hs : v.ownBlock = none ∨ v.ownBlock ≠ q.ownBlock) (hq : q'.ownBlock = q.ownBlock ∨ ∃ k, q'.ownBlock = some k ∧ w.heap.size ≤ k) : v.ownBlock = none ∨ v.ownBlock ≠ q'.ownBlock := by
  rcases hq with hq | ⟨k, hk, hw⟩
  · rw [hq]; exact hs
  · cases hv : v.ownBlock with
    | none => exact .inl rfl
    | some g =>
      refine .inr ?_
      rw [hk]
      intro e9
      have h1 := (h.lt g hv).2
      have h2 : g = k := Option.some.inj e9
      omega
theorem sep0 {m k0 : Nat} {q v3 : Value} (hq : q.ownBlock = some (m + 1)) (hw : m + 1 ≤ k0) (d : v3.ownBlock = q.ownBlock ∨ ∃ k, v3.ownBlock = some k ∧ k0 ≤ k) : (Value.slice (some ⟨m, 0, none⟩) 0 0).ownBlock = none ∨ (Value.slice (some ⟨m, 0, none⟩) 0 0).ownBlock ≠ v3.ownBlock := by
  refine .inr ?_
  rcases d with h | ⟨k, h, h2⟩
  · rw [h, hq]; simp [Value.ownBlock]
  · rw [h]; simp [Value.ownBlock]; omega
theorem Que.lt {B : Nat} {w : World} {v : Value} {T : List Int} (h : Que B w v T) : ∃ g, v.ownBlock = some g ∧ g < w.heap.size ∧ B ≤ g := by
  obtain ⟨g, off, cap, cur, rfl, q1, q2, _⟩ := h
  exact ⟨g, rfl, q2, q1⟩
theorem sepNew {w : World} {B b n z : Nat} {e : TypeId} {v q : Value} {xs : List Value} {w' : World} {T : List Int} (h : w'.ownsRow b e z v n xs) (hb : w.heap.size ≤ b) (hq : Que B w q T) : v.ownBlock = none ∨ v.ownBlock ≠ q.ownBlock := by
  obtain ⟨g, e1, h1, _⟩ := hq.lt
  cases hv : v.ownBlock with
  | none => exact .inl rfl
  | some k =>
    refine .inr ?_
    rw [e1]
    intro e9
    have h2 := (h.lt k hv).1
    have h3 : k = g := Option.some.inj e9
    omega
theorem queAt {B : Nat} {w : World} {v : Value} {T : List Int} (h : Que B w v T) : ∀ k, v.ownBlock = some k → B ≤ k := fun k e => by
  obtain ⟨k2, e2, _, h2⟩ := h.lt
  have := e2.symm.trans e
  cases this
  exact h2
theorem getV_f (L : List PI) (n : Int) (hr : RiseP L) : getV L n = match findP L n with
    | some t => .tuple #[.string t, .bool true]
    | none => .tuple #[.string ByteArray.empty, .bool false] := by
  unfold getV
  rw [getP_find L n hr]
  cases findP L n <;> rfl
set_option maxHeartbeats 8000000 in
set_option maxRecDepth 100000 in
theorem l3Reach_any (A : Option Addr) (c : Nat) (L : List PI) (A2 : Option Addr) (c2 : Nat) (ids : List Int) (w : World) (hL : RdP w.heap.size w A L) (hI : RdI w.heap.size w A2 ids) (hk : okP L = true) (hids : ids.length ≤ 700) (ht : ∀ j (h : j < L.length), (L[j]).tx.size ≤ 1048576) :
    Calls Tryz.prog 63 #[.slice A L.length c, .slice A2 ids.length c2] w fun e w' => (∃ v N al, e = .returned (.tuple #[v, .bool al]) ∧ IsLed L ids N al ∧ N.length ≤ 700 ∧ w'.ownsRow w.heap.size 3 1 v N.length (cellsI N)) ∧ Below w.heap.size w w' := by
  obtain ⟨h7, _, hr⟩ := (okP_iff L).1 hk
  have HL : Hid (RdP w.heap.size w A L) := hL
  have HI : Hid (RdI w.heap.size w A2 ids) := hI
  have HT : Hid (∀ n t, findP L n = some t → t.size ≤ 1048576) := (show ∀ n t, _ → _ from fun n t hf => by
    have hm := findP_in L n t hf
    obtain ⟨j, hj, e⟩ := List.getElem_of_mem hm
    have := ht j hj
    rw [e] at this; exact this)
  have HV : Hid (∀ n, getV L n = match findP L n with
    | some t => .tuple #[.string t, .bool true]
    | none => .tuple #[.string ByteArray.empty, .bool false]) := (show ∀ n, _ from fun n => getV_f L n hr)
  clear hL hI hk hr ht
  obtain ⟨i0, hi, hz0, hz1, hz2⟩ := info_parts infoI
  have o1 : (w.alloc (.cells #[] 3)).ownsRow w.heap.size 3 1 (.slice (some ⟨w.heap.size, 0, none⟩) 0 0) 0 [] := World.ownsRow_lit w #[] 0 (Nat.le_refl _) (by unfold maxLen; omega) rfl
  have o2 : ((w.alloc (.cells #[] 3)).alloc (.cells #[] 3)).ownsRow (w.heap.size + 1) 3 1 (.slice (some ⟨w.heap.size + 1, 0, none⟩) 0 0) ([] : List Int).length (cellsI []) := by
    have := World.ownsRow_lit (base := w.heap.size + 1) (e := 3) (size := 1) (w.alloc (.cells #[] 3)) #[] 0 (by simp) (by unfold maxLen; omega) rfl
    simpa [cellsI] using this
  have B2 : Below w.heap.size w ((w.alloc (.cells #[] 3)).alloc (.cells #[] 3)) := ((Below.refl _ _).alloc (Nat.le_refl _) _).alloc (by simp) _
  have z2 := B2.size
  have q2 := (Que.of_own o2).up (show w.heap.size ≤ w.heap.size + 1 by omega)
  have o1' := o1.alloc (.cells #[] 3)
  have I2 := (HI.out.below B2 (Nat.le_refl _)).mono z2
  have l2 : ([] : List Int).length + ids.length ≤ 1000000 := by simp; omega
  clear o1 o2
  go_enter Tryz.func63, Tryz.ntmps63
  have z3 : w.heap.size + 1 ≤ ((w.alloc (.cells #[] 3)).alloc (.cells #[] 3)).heap.size := by simp
  have a2 : (Value.slice (some ⟨w.heap.size, 0, none⟩) 0 0).ownBlock = none ∨ (Value.slice (some ⟨w.heap.size, 0, none⟩) 0 0).ownBlock ≠ (Value.slice (some ⟨w.heap.size + 1, 0, none⟩) ([] : List Int).length 0).ownBlock := .inr (by simp [Value.ownBlock])
  have b2 : ∀ k, (Value.slice (some ⟨w.heap.size + 1, 0, none⟩) ([] : List Int).length 0).ownBlock = some k → w.heap.size ≤ k := fun k e => by simp [Value.ownBlock] at e; omega
  go_wp2_with (at_builtin; refine wpList_append_que _ rfl _ _ 41 rfl w.heap.size i0 Tryz.underlying41 hi hz0 hz1 hz2 _ _ rfl q2 A2 c2 ids rfl I2 l2 z2 ?_; intro v3 w3 q3 g3 d3; have o3 := o1'.kept g3 a2; have B3 := B2.grown g3 z2 b2; have s3 := sep0 rfl z3 d3; rw [List.nil_append] at q3; clear q2 g3 d3 B2 z2 I2 a2 b2)
  clear o1'
  go_loopw [6, 7, 8] (fun ov tv av wr => ∃ (O T : List Int) (al : Bool), av = .bool al ∧ Hid (RiseI O) ∧ Hid (Looks L ids O T al) ∧ wr.ownsRow w.heap.size 3 1 ov O.length (cellsI O) ∧ Que w.heap.size wr tv T ∧ Hid (ov.ownBlock = none ∨ ov.ownBlock ≠ tv.ownBlock) ∧ T.length ≤ 700 + 60 * O.length ∧ O.length ≤ L.length ∧ Below w.heap.size w wr) (fun ov tv _ _ => (L.length - lenOfV ov) * 61 + lenOfV tv)
  case atStart => exact ⟨[], ids, true, rfl, List.Pairwise.nil, Looks.start L ids, o3, q3, s3, by simp; omega, by simp, B3⟩
  case round =>
    obtain ⟨O, T, al, rfl, HR, HK, own, que, HS, hT, hO, hb⟩ := hrel
    have hsz := hb.size
    clear o3 q3 s3 B3
    obtain ⟨AO, cO, rfl, rdO⟩ := rdI_of_own own
    cases T with
    | nil =>
      have hN := HK.out.ends O HR.out (fun n => Iff.rfl)
      obtain ⟨g, off, cap, cur, e9, _⟩ := que
      simp only [List.length_nil] at e9
      subst e9
      go_wp2
      go_ret2
      exact ⟨⟨_, O, al, rfl, hN, by omega, own⟩, hb⟩
    | cons x T =>
      obtain ⟨g, off, cap, rfl, hc1, hc2, hg1, hg2, hcell, q4⟩ := que.front
      have hTl : T.length + 1 ≤ 700 + 60 * O.length := hT
      by_cases hcap : cap = 1
      · subst hcap
        obtain rfl : T = [] := List.eq_nil_of_length_eq_zero (by omega)
        replace q4 : Que w.heap.size wr (.slice (some ⟨g, off, none⟩) 0 0) [] := by
          obtain ⟨g', off', cap', cur, e9, r1, r2, r3, r4, r5, r6, r7⟩ := q4
          cases e9
          exact ⟨g, off, 0, cur, rfl, r1, r2, r3, by simp, by unfold maxLen; omega, by omega, fun j hj => by simp at hj⟩
        have HS4 : Hid ((Value.slice AO O.length cO).ownBlock = none ∨ (Value.slice AO O.length cO).ownBlock ≠ (Value.slice (some ⟨g, off, none⟩) 0 0).ownBlock) := HS
        have HX : Hid (∀ m, m ∈ [x] ↔ m = x ∨ m ∈ ([] : List Int)) := (show ∀ m, _ from fun m => List.mem_cons)
        clear que HS
        cases hm : decide (x ∈ O)
        · have hmn : x ∉ O := by simpa using hm
          have HM : Hid (decide (x ∈ O) = false) := hm
          have hv := HV.out x
          clear hm
          cases hf : findP L x with
          | none =>
            rw [hf] at hv
            have HVx : Hid (getV L x = .tuple #[.string ByteArray.empty, .bool false]) := hv
            have HF : Hid (findP L x = none) := hf
            clear hv hf
            go_wp2_with (first
              | (go_at_call 91; refine (l3Has_any AO cO O x wr rdO (by omega)).mono ?_; rw [HM.out]; rintro e w' ⟨rfl, rfl⟩)
              | (go_at_call 92; refine (polGet_spec A c L x wr ((HL.out.below hb (Nat.le_refl _)).mono hsz) (by omega)).mono ?_; rw [HVx.out]; rintro e w' ⟨rfl, rfl⟩))
            go_roundw
            case rel => exact ⟨O, [], false, rfl, HR, HK.out.lack HX.out HF.out, own, q4, HS4, by omega, hO, hb⟩
            case measure => simp [lenOfV]
          | some t =>
            rw [hf] at hv
            have HVx : Hid (getV L x = .tuple #[.string t, .bool true]) := hv
            have HF : Hid (findP L x = some t) := hf
            have hts := HT.out x t hf
            have HRX : Hid (RiseI (insI O x)) := rise_insI O x HR.out hmn
            have HLE : (insI O x).length ≤ L.length := found_le L _ (RiseI.nodup HRX.out) (fun n hn => by
              rcases (mem_insI ..).1 hn with rfl | hn
              · rw [hf]; rfl
              · exact (HK.out.there n hn).2)
            have hIl := len_insI O x
            have hUl := kidsN_len t
            have HKs : Hid (∀ U2, (∀ m, m ∈ U2 ↔ m ∈ ([] : List Int) ∨ m ∈ kidsN t) → Looks L ids (insI O x) U2 al) := (show ∀ U2, _ → _ from fun U2 h => HK.out.find HX.out hf (fun m => mem_insI O x m) h)
            obtain ⟨O2, hO2⟩ : ∃ O2, insI O x = O2 := ⟨_, rfl⟩
            obtain ⟨U, hU⟩ : ∃ U, kidsN t = U := ⟨_, rfl⟩
            have HA : Hid (Calls Tryz.prog 93 #[.slice AO O.length cO, .int .i64 x] wr fun e w' => (∃ v, e = .returned v ∧ w'.ownsRow wr.heap.size 3 1 v O2.length (cellsI O2)) ∧ Below wr.heap.size wr w') := (show Calls _ _ _ _ _ from hO2 ▸ l3Add_any AO cO O x wr rdO (by omega) hmn)
            have HU : Hid (∀ W, Calls Tryz.prog 94 #[.string t] W fun e w' => (∃ v, e = .returned v ∧ w'.ownsRow W.heap.size 3 1 v U.length (cellsI U)) ∧ Below W.heap.size W w') := (show ∀ W, Calls _ _ _ _ _ from fun W => hU ▸ kids_spec t W hts)
            rw [hO2] at HRX HLE hIl
            rw [hU] at hUl
            have HKs2 : Hid (Looks L ids O2 ([] ++ U) al) := (show Looks _ _ _ _ _ from by
              have := HKs.out ([] ++ U) (fun m => by rw [List.mem_append, hU])
              rwa [hO2] at this)
            clear hv hf HKs hO2 hU HR HK hmn
            go_wp2_with (first
              | (go_at_call 91; refine (l3Has_any AO cO O x wr rdO (by omega)).mono ?_; rw [HM.out]; rintro e w' ⟨rfl, rfl⟩)
              | (go_at_call 92; refine (polGet_spec A c L x wr ((HL.out.below hb (Nat.le_refl _)).mono hsz) (by omega)).mono ?_; rw [HVx.out]; rintro e w' ⟨rfl, rfl⟩)
              | (go_at_call 93; refine HA.out.mono ?_; rintro e w5 ⟨⟨v5, rfl, o5⟩, hb5⟩; have z5 := hb5.size; have q5 := q4.below hb5)
              | (go_at_call 94; refine (HU.out w5).mono ?_; rintro e w6 ⟨⟨v6, rfl, o6⟩, hb6⟩; have z6 := hb6.size; obtain ⟨A6, c6, rfl, rd6⟩ := rdI_of_own o6; have q6 := q5.below hb6; have o5' := ownsUnder o5 hb6 (Nat.le_refl _); have hb56 := hb5.trans (hb6.mono z5); have hbw6 := hb.trans (hb56.mono hsz); have z6' := hbw6.size)
              | (at_builtin; refine wpList_append_que _ rfl _ _ 41 rfl w.heap.size i0 Tryz.underlying41 hi hz0 hz1 hz2 _ _ rfl q6 A6 c6 U rfl rd6 (by first | omega | (simp; omega)) z6' ?_; intro v7 w7 q7 g7 d7; have s6 := sepNew o5' (Nat.le_refl _) q4; have o7 := o5'.kept g7 s6; have s7 := sepMove o5' s6 d7; have hb7 := hbw6.grown g7 z6' (queAt q6)))
            go_roundw
            case rel => exact ⟨O2, [] ++ U, al, rfl, HRX, HKs2, ownsUpP o7 hsz, q7, s7, by simp; omega, HLE, hb7⟩
            case measure =>
              obtain ⟨A9, c9, rfl, _⟩ := rdI_of_own o7
              obtain ⟨g9, of9, cp9, cu9, rfl, _⟩ := q7
              simp [lenOfV]; omega
        · have HM : Hid (decide (x ∈ O) = true) := hm
          have hmm : x ∈ O := by simpa using hm
          clear hm
          go_wp2_with (go_at_call 91; refine (l3Has_any AO cO O x wr rdO (by omega)).mono ?_; rw [HM.out]; rintro e w' ⟨rfl, rfl⟩)
          go_roundw
          case rel => exact ⟨O, [], al, rfl, HR, HK.out.seen HX.out hmm, own, q4, HS4, by omega, hO, hb⟩
          case measure => simp [lenOfV]
      · have HS4 : Hid ((Value.slice AO O.length cO).ownBlock = none ∨ (Value.slice AO O.length cO).ownBlock ≠ (Value.slice (some ⟨g, off + 1, none⟩) T.length (cap - 1)).ownBlock) := HS
        have HX : Hid (∀ m, m ∈ x :: T ↔ m = x ∨ m ∈ T) := (show ∀ m, _ from fun m => List.mem_cons)
        clear que HS
        cases hm : decide (x ∈ O)
        · have hmn : x ∉ O := by simpa using hm
          have HM : Hid (decide (x ∈ O) = false) := hm
          have hv := HV.out x
          clear hm
          cases hf : findP L x with
          | none =>
            rw [hf] at hv
            have HVx : Hid (getV L x = .tuple #[.string ByteArray.empty, .bool false]) := hv
            have HF : Hid (findP L x = none) := hf
            clear hv hf
            go_wp2_with (first
              | (go_at_call 91; refine (l3Has_any AO cO O x wr rdO (by omega)).mono ?_; rw [HM.out]; rintro e w' ⟨rfl, rfl⟩)
              | (go_at_call 92; refine (polGet_spec A c L x wr ((HL.out.below hb (Nat.le_refl _)).mono hsz) (by omega)).mono ?_; rw [HVx.out]; rintro e w' ⟨rfl, rfl⟩))
            go_roundw
            case rel => exact ⟨O, T, false, rfl, HR, HK.out.lack HX.out HF.out, own, q4, HS4, by omega, hO, hb⟩
            case measure => simp [lenOfV]
          | some t =>
            rw [hf] at hv
            have HVx : Hid (getV L x = .tuple #[.string t, .bool true]) := hv
            have HF : Hid (findP L x = some t) := hf
            have hts := HT.out x t hf
            have HRX : Hid (RiseI (insI O x)) := rise_insI O x HR.out hmn
            have HLE : (insI O x).length ≤ L.length := found_le L _ (RiseI.nodup HRX.out) (fun n hn => by
              rcases (mem_insI ..).1 hn with rfl | hn
              · rw [hf]; rfl
              · exact (HK.out.there n hn).2)
            have hIl := len_insI O x
            have hUl := kidsN_len t
            have HKs : Hid (∀ U2, (∀ m, m ∈ U2 ↔ m ∈ T ∨ m ∈ kidsN t) → Looks L ids (insI O x) U2 al) := (show ∀ U2, _ → _ from fun U2 h => HK.out.find HX.out hf (fun m => mem_insI O x m) h)
            obtain ⟨O2, hO2⟩ : ∃ O2, insI O x = O2 := ⟨_, rfl⟩
            obtain ⟨U, hU⟩ : ∃ U, kidsN t = U := ⟨_, rfl⟩
            have HA : Hid (Calls Tryz.prog 93 #[.slice AO O.length cO, .int .i64 x] wr fun e w' => (∃ v, e = .returned v ∧ w'.ownsRow wr.heap.size 3 1 v O2.length (cellsI O2)) ∧ Below wr.heap.size wr w') := (show Calls _ _ _ _ _ from hO2 ▸ l3Add_any AO cO O x wr rdO (by omega) hmn)
            have HU : Hid (∀ W, Calls Tryz.prog 94 #[.string t] W fun e w' => (∃ v, e = .returned v ∧ w'.ownsRow W.heap.size 3 1 v U.length (cellsI U)) ∧ Below W.heap.size W w') := (show ∀ W, Calls _ _ _ _ _ from fun W => hU ▸ kids_spec t W hts)
            rw [hO2] at HRX HLE hIl
            rw [hU] at hUl
            have HKs2 : Hid (Looks L ids O2 (T ++ U) al) := (show Looks _ _ _ _ _ from by
              have := HKs.out (T ++ U) (fun m => by rw [List.mem_append, hU])
              rwa [hO2] at this)
            clear hv hf HKs hO2 hU HR HK hmn
            go_wp2_with (first
              | (go_at_call 91; refine (l3Has_any AO cO O x wr rdO (by omega)).mono ?_; rw [HM.out]; rintro e w' ⟨rfl, rfl⟩)
              | (go_at_call 92; refine (polGet_spec A c L x wr ((HL.out.below hb (Nat.le_refl _)).mono hsz) (by omega)).mono ?_; rw [HVx.out]; rintro e w' ⟨rfl, rfl⟩)
              | (go_at_call 93; refine HA.out.mono ?_; rintro e w5 ⟨⟨v5, rfl, o5⟩, hb5⟩; have z5 := hb5.size; have q5 := q4.below hb5)
              | (go_at_call 94; refine (HU.out w5).mono ?_; rintro e w6 ⟨⟨v6, rfl, o6⟩, hb6⟩; have z6 := hb6.size; obtain ⟨A6, c6, rfl, rd6⟩ := rdI_of_own o6; have q6 := q5.below hb6; have o5' := ownsUnder o5 hb6 (Nat.le_refl _); have hb56 := hb5.trans (hb6.mono z5); have hbw6 := hb.trans (hb56.mono hsz); have z6' := hbw6.size)
              | (at_builtin; refine wpList_append_que _ rfl _ _ 41 rfl w.heap.size i0 Tryz.underlying41 hi hz0 hz1 hz2 _ _ rfl q6 A6 c6 U rfl rd6 (by first | omega | (simp; omega)) z6' ?_; intro v7 w7 q7 g7 d7; have s6 := sepNew o5' (Nat.le_refl _) q4; have o7 := o5'.kept g7 s6; have s7 := sepMove o5' s6 d7; have hb7 := hbw6.grown g7 z6' (queAt q6)))
            go_roundw
            case rel => exact ⟨O2, T ++ U, al, rfl, HRX, HKs2, ownsUpP o7 hsz, q7, s7, by simp; omega, HLE, hb7⟩
            case measure =>
              obtain ⟨A9, c9, rfl, _⟩ := rdI_of_own o7
              obtain ⟨g9, of9, cp9, cu9, rfl, _⟩ := q7
              simp [lenOfV]; omega
        · have HM : Hid (decide (x ∈ O) = true) := hm
          have hmm : x ∈ O := by simpa using hm
          clear hm
          go_wp2_with (go_at_call 91; refine (l3Has_any AO cO O x wr rdO (by omega)).mono ?_; rw [HM.out]; rintro e w' ⟨rfl, rfl⟩)
          go_roundw
          case rel => exact ⟨O, T, al, rfl, HR, HK.out.seen HX.out hmm, own, q4, HS4, by omega, hO, hb⟩
          case measure => simp [lenOfV]
set_option maxHeartbeats 4000000 in
set_option maxRecDepth 100000 in
theorem polReach_spec (A : Option Addr) (c : Nat) (L : List PI) (A2 : Option Addr) (c2 : Nat) (ids : List Int) (w : World) (hL : RdP w.heap.size w A L) (hI : RdI w.heap.size w A2 ids) (hn : L.length ≤ 1048576) (hi : ids.length ≤ 1048576) (ht : ∀ j (h : j < L.length), (L[j]).tx.size ≤ 1048576) :
    Calls Tryz.prog 29 #[.slice A L.length c, .slice A2 ids.length c2] w fun e w' => (∃ v N al, e = .returned (.tuple #[v, .bool al]) ∧ ReachIs L ids N al ∧ w'.ownsRow w.heap.size 3 1 v N.length (cellsI N)) ∧ Below w.heap.size w w' := by
  have hok := polOk_spec A c L w hL hn ht
  have HI : Hid (RdI w.heap.size w A2 ids) := hI
  have HLr : Hid (RdP w.heap.size w A L) := hL
  have HT : Hid (∀ j (h : j < L.length), (L[j]).tx.size ≤ 1048576) := ht
  clear hL ht hI
  cases hk : okP L
  · rw [hk] at hok
    have HK : Hid (okP L = false) := hk
    clear hk
    go_enter Tryz.func29, Tryz.ntmps29
    go_wp2_with (go_at_call 13; refine hok.mono ?_; rintro e w1 ⟨rfl, hb1⟩; clear hok)
    go_ret2
    exact ⟨⟨_, [], false, rfl, .inr ⟨.inl HK.out, rfl, rfl⟩, World.ownsRow_lit w1 #[] 0 hb1.size (by unfold maxLen; omega) rfl⟩, hb1.alloc hb1.size _⟩
  · rw [hk] at hok
    have HK : Hid (okP L = true) := hk
    clear hk
    by_cases h7 : 700 < ids.length
    · have h7' : (700 : Int) < ((ids.length : Nat) : Int) := by omega
      go_enter Tryz.func29, Tryz.ntmps29
      go_wp2_with (go_at_call 13; refine hok.mono ?_; rintro e w1 ⟨rfl, hb1⟩; clear hok)
      go_ret2
      exact ⟨⟨_, [], false, rfl, .inr ⟨.inr h7, rfl, rfl⟩, World.ownsRow_lit w1 #[] 0 hb1.size (by unfold maxLen; omega) rfl⟩, hb1.alloc hb1.size _⟩
    · have h7' : ¬ (700 : Int) < ((ids.length : Nat) : Int) := by omega
      go_enter Tryz.func29, Tryz.ntmps29
      go_wp2_with (first
        | (go_at_call 13; refine hok.mono ?_; rintro e w1 ⟨rfl, hb1⟩; clear hok; have hs1 := hb1.size)
        | (go_at_call 63; refine (l3Reach_any A c L A2 c2 ids w1 (HLr.out.up hb1) (HI.out.up hb1) HK.out (by omega) HT.out).mono ?_; rintro e w2 ⟨⟨v, N, al, rfl, hN, hNl, o2⟩, hb2⟩; have HN : Hid (IsLed L ids N al) := hN; clear hN))
      go_ret2
      exact ⟨⟨_, N, al, rfl, .inl ⟨HK.out, by omega, HN.out⟩, ownsUpP o2 hs1⟩, hb1.trans (hb2.mono hs1)⟩
end Go.Proofs.YthfffpdkmoclbaaGreatDoor.W
