
/-
  MdlOk of the program at a house without rules and refs, whose users have laid nothing down; slices.Clone of numbers. Rows of at most 1048576 numbers.
-/
import Derived.Test.YtknbmgdfcejlkaaWalkMdlN
import Derived.Lib.SliceRun
namespace Go.Proofs.Ytknbmgdfcejlkaa.W
open Go.RowKit
set_option linter.unusedVariables false

set_option maxRecDepth 100000 in
set_option maxHeartbeats 1000000 in
theorem clone_own {b : Nat} (v : Value) (K : List Int) (w : World) (h : w.ownsRow b 3 1 v K.length (cellsI K)) (hn : K.length ≤ 1048576) :
    Calls Try.prog 19 #[v] w fun e w' => ∃ v', e = .returned v' ∧ w'.ownsRow w.heap.size 3 1 v' K.length (cellsI K) ∧ Below w.heap.size w w' := by
  obtain ⟨i0, hi, hz0, hz1, hz2⟩ := info_parts infoInt
  have keq := fun (w : World) (a : Option Addr) (n c : Nat) => Lib.run_eql_slice_nil (P := Try.prog) w 22 3 a n c 0 0 Try.underlying22
  rcases h.2 with ⟨rfl, hn0⟩ | ⟨g, cap, cur, rfl, hg⟩
  · go_enter Try.func19, Try.ntmps19
    go_wp2
    go_ret
    rw [List.length_eq_zero_iff.1 hn0]
    exact ⟨_, rfl, World.ownsRow_nil _ _ _ _, Below.refl _ _⟩
  · have hcell : ∀ j u, (cellsI K)[j]? = some u → w.cell? ⟨g, j, none⟩ = some u := fun j u hu => by
      have hj : j < (cellsI K).length := (List.getElem?_eq_some_iff.1 hu).1
      have hl : (cellsI K).length = K.length := by simp [cellsI]
      rw [h.cellAt j (by omega)]; exact hu
    have hlt := (h.lt g rfl).2
    have HC : Hid (∀ j u, (cellsI K)[j]? = some u → w.cell? ⟨g, j, none⟩ = some u) := hcell
    clear hcell hg
    go_enter Try.func19, Try.ntmps19
    go_wp2_with (at_builtin; refine wpList_append_own _ rfl _ _ 22 rfl w.heap.size 3 i0 (.int .i64 0) 1 8 Try.underlying22 hi hz0 hz1 hz2 rfl (by decide) _ 0 [] rfl (World.ownsRow_lit w #[] 0 (Nat.le_refl _) (by unfold maxLen; omega) rfl) ⟨g, 0, none⟩ K.length cap (cellsI K) rfl (by simp [cellsI]) ?_ (fun u hu => by unfold cellsI at hu; obtain ⟨x, _, rfl⟩ := List.mem_map.1 hu; rfl) (by unfold maxLen; omega) (by omega) (by simp) ?_; rotate_left; intro v' w3 hown' hgrow3 hnil3)
    · go_ret
      rw [Nat.zero_add, List.nil_append] at hown'
      exact ⟨_, rfl, hown', ((Below.refl _ _).alloc (Nat.le_refl _) _).grown hgrow3 (by simp) (fun q hq => by cases hq; exact Nat.le_refl _)⟩
    · intro j u hu
      have e : (⟨g, 0, none⟩ : Addr).add j = ⟨g, j, none⟩ := by unfold Addr.add; split <;> simp_all
      rw [e]
      exact (((Below.refl _ w).alloc (Nat.le_refl _) _).cell (p := ⟨g, _, none⟩) hlt).trans (HC.out j u hu)

set_option maxHeartbeats 400000 in
theorem within_zero (w : World) : Calls Try.prog 55 #[.int .i64 0, .int .i64 200] w fun e w' => e = .returned (.bool true) ∧ w = w' := by
  go_enter Try.func55, Try.ntmps55
  go_wp2
  go_ret
  exact ⟨rfl, rfl⟩
set_option maxHeartbeats 400000 in
theorem rulListOk_nil (w : World) : Calls Try.prog 56 #[.slice none 0 0] w fun e w' => e = .returned (.bool true) ∧ w = w' := by
  go_enter Try.func56, Try.ntmps56
  go_wp2
  refine wp_loop_rounds 1 ?_
  rw [rounds_succ]
  go_wp2
  go_ret
  exact ⟨rfl, rfl⟩
set_option maxRecDepth 100000 in
set_option maxHeartbeats 1000000 in
theorem usersOk_any (A0 A1 : Option Addr) (c0 d1 : Nat) (K : List Int) (w : World) (hK : RdI w.heap.size w A0 K) (hU : RdI w.heap.size w A1 (zrs K.length)) (hk : K.length ≤ 1048576) :
    Calls Try.prog 37 #[.slice A0 K.length c0, .slice A1 K.length d1] w fun e w' => e = .returned (.bool (inB K.length 1 4 && K.all (fun k => inB k 1 9999))) ∧ w = w' := by
  have HK : Hid (RdI w.heap.size w A0 K) := hK
  have HU : Hid (RdI w.heap.size w A1 (zrs K.length)) := hU
  clear hK hU
  by_cases h1 : 1 ≤ K.length
  case neg =>
    have q1 : inB (K.length : Int) 1 4 = false := inB_f (by omega)
    rw [q1]
    have h1' : (K.length : Int) < 1 := by omega
    go_enter Try.func37, Try.ntmps37
    go_wp2
    go_ret
    exact ⟨rfl, rfl⟩
  by_cases h2 : K.length ≤ 4
  case neg =>
    have q1 : inB (K.length : Int) 1 4 = false := inB_f (by omega)
    rw [q1]
    have h1' : ¬ (K.length : Int) < 1 := by omega
    have h2' : (4 : Int) < (K.length : Int) := by omega
    go_enter Try.func37, Try.ntmps37
    go_wp2
    go_ret
    exact ⟨rfl, rfl⟩
  have q1 : inB (K.length : Int) 1 4 = true := inB_t (by omega) (by omega)
  rw [q1, Bool.true_and]
  have h1' : ¬ (K.length : Int) < 1 := by omega
  have h2' : ¬ (4 : Int) < (K.length : Int) := by omega
  go_enter Try.func37, Try.ntmps37
  go_wp2
  go_loopw [24] (fun iv wr => ∃ j : Nat, j ≤ K.length ∧ iv = .int .i64 j ∧ Hid ((K.take j).all (fun k => inB k 1 9999) = true) ∧ wr = w) (fun i _ => K.length - (intOf i).toNat)
  case atStart => exact ⟨0, Nat.zero_le _, rfl, rfl, rfl⟩
  case round =>
    obtain ⟨j, hj, rfl, HP, rfl⟩ := hrel
    by_cases hlt : j < K.length
    · obtain ⟨b, o, rfl, hbl, c1⟩ := HK.out j hlt
      obtain ⟨b', o', rfl, hbl', c2⟩ := HU.out j (by simpa [zrs] using hlt)
      have ez : (zrs K.length)[j]'(by simpa [zrs] using hlt) = 0 := by simp [zrs]
      rw [ez] at c2
      have hall := fun q => all_snoc (P := fun k => inB k 1 9999) hlt HP.out q
      have hbad := fun q => all_bad (P := fun k => inB k 1 9999) (L := K) hlt q
      generalize K[j] = x at *
      by_cases g1 : 1 ≤ x ∧ x ≤ 9999
      · have g1a : ¬ x < 1 := by omega
        have g1b : ¬ 9999 < x := by omega
        have HP' : Hid ((K.take (j + 1)).all (fun k => inB k 1 9999) = true) := hall (inB_t g1.1 g1.2)
        clear hall hbad HP
        go_wp2_with (go_at_call 55; refine (within_zero _).mono ?_; rintro e w1 ⟨rfl, rfl⟩)
        go_roundw
        case rel => exact ⟨j + 1, by omega, by go_num, HP', by first | rfl | trivial⟩
        case measure => simp [intOf]; omega
      · have E : Hid (K.all (fun k => inB k 1 9999) = false) := hbad (inB_f g1)
        have g2 : x < 1 ∨ (¬ x < 1 ∧ 9999 < x) := by omega
        clear hall hbad HP g1
        rcases g2 with g2 | ⟨g2, g3⟩
        all_goals
          go_wp2
          go_ret
          exact ⟨by rw [E.out]; rfl, by first | rfl | trivial⟩
    · obtain rfl : j = K.length := by omega
      have tl : K.take K.length = K := List.take_length
      rw [tl] at HP
      go_wp2
      go_ret
      exact ⟨by rw [HP.out]; rfl, by first | rfl | trivial⟩
set_option maxRecDepth 100000 in
set_option maxHeartbeats 1000000 in
theorem repoOk_any (x n : Int) (k : Bool) (w : World) (h : inB x 1 n = k) :
    Calls Try.prog 38 #[.agg #[.int .i64 x, .slice none 0 0, .slice none 0 0], .int .i64 n] w fun e w' => e = .returned (.bool k) ∧ Below w.heap.size w w' := by
  subst h
  by_cases g1 : 1 ≤ x ∧ x ≤ n
  · have g1a : ¬ x < 1 := by omega
    have g1b : ¬ n < x := by omega
    rw [inB_t g1.1 g1.2]
    go_enter Try.func38, Try.ntmps38
    go_wp2_with (go_at_call 56; refine (rulListOk_nil _).mono ?_; rintro e w1 ⟨rfl, rfl⟩)
    refine wp_loop_rounds 1 ?_
    rw [rounds_succ]
    go_wp2
    go_ret
    exact ⟨rfl, (Below.refl _ _).alloc (Nat.le_refl _) _⟩
  · rw [inB_f g1]
    have g2 : x < 1 ∨ (¬ x < 1 ∧ n < x) := by omega
    rcases g2 with g2 | ⟨g2, g3⟩
    all_goals
      go_enter Try.func38, Try.ntmps38
      go_wp2
      go_ret
      exact ⟨rfl, (Below.refl _ _).alloc (Nat.le_refl _) _⟩
theorem newB_parts (K A : List Int) : newB K A = ((inB K.length 1 4 && K.all (fun k => inB k 1 9999)) && (inB A.length 1 3 && A.all (fun a => inB a 1 K.length))) := by
  unfold newB
  cases inB (K.length : Int) 1 4 <;> cases inB (A.length : Int) 1 3 <;> cases K.all (fun k => inB k 1 9999) <;> rfl
set_option maxHeartbeats 2000000 in
theorem mdlOk_new (Ak Au Ar : Option Addr) (ck cu cr : Nat) (K A : List Int) (w : World) (hK : RdI w.heap.size w Ak K) (hU : RdI w.heap.size w Au (zrs K.length)) (hR : RdM w.heap.size w Ar A) (hk : K.length ≤ 1048576) (ha : A.length ≤ 1048576) :
    Calls Try.prog 20 #[.agg #[.slice Ak K.length ck, .slice Au K.length cu, .slice Ar A.length cr]] w fun e w' => e = .returned (.bool (newB K A)) ∧ Below w.heap.size w w' := by
  rw [newB_parts]
  have hbA := (Below.refl w.heap.size w).alloc (Nat.le_refl _) (.cells #[.slice Ak K.length ck, .slice Au K.length cu, .slice Ar A.length cr] 25)
  have HK1 : Hid (RdI (w.alloc (.cells #[.slice Ak K.length ck, .slice Au K.length cu, .slice Ar A.length cr] 25)).heap.size (w.alloc (.cells #[.slice Ak K.length ck, .slice Au K.length cu, .slice Ar A.length cr] 25)) Ak K) := hK.up hbA
  have HU1 : Hid (RdI (w.alloc (.cells #[.slice Ak K.length ck, .slice Au K.length cu, .slice Ar A.length cr] 25)).heap.size (w.alloc (.cells #[.slice Ak K.length ck, .slice Au K.length cu, .slice Ar A.length cr] 25)) Au (zrs K.length)) := hU.up hbA
  have HR : Hid (RdM w.heap.size w Ar A) := hR
  clear hK hU hR hbA
  cases q1 : (inB K.length 1 4 && K.all (fun k => inB k 1 9999))
  · rw [Bool.false_and]
    go_enter Try.func20, Try.ntmps20
    go_wp2_with (go_at_call 37; refine (usersOk_any Ak Au ck cu K _ HK1.out HU1.out hk).mono ?_; rw [q1]; rintro e w1 ⟨rfl, rfl⟩)
    go_ret
    exact ⟨rfl, (Below.refl _ _).alloc (Nat.le_refl _) _⟩
  rw [Bool.true_and]
  by_cases h1 : 1 ≤ A.length
  case neg =>
    have q2 : inB (A.length : Int) 1 3 = false := inB_f (by omega)
    rw [q2, Bool.false_and]
    have h1' : (A.length : Int) < 1 := by omega
    go_enter Try.func20, Try.ntmps20
    go_wp2_with (go_at_call 37; refine (usersOk_any Ak Au ck cu K _ HK1.out HU1.out hk).mono ?_; rw [q1]; rintro e w1 ⟨rfl, rfl⟩)
    go_ret
    exact ⟨rfl, (Below.refl _ _).alloc (Nat.le_refl _) _⟩
  have h1' : ¬ (A.length : Int) < 1 := by omega
  by_cases h2 : A.length ≤ 3
  case neg =>
    have q2 : inB (A.length : Int) 1 3 = false := inB_f (by omega)
    rw [q2, Bool.false_and]
    have h2' : (3 : Int) < (A.length : Int) := by omega
    go_enter Try.func20, Try.ntmps20
    go_wp2_with (go_at_call 37; refine (usersOk_any Ak Au ck cu K _ HK1.out HU1.out hk).mono ?_; rw [q1]; rintro e w1 ⟨rfl, rfl⟩)
    go_ret
    exact ⟨rfl, (Below.refl _ _).alloc (Nat.le_refl _) _⟩
  have h2' : ¬ (3 : Int) < (A.length : Int) := by omega
  have q2 : inB (A.length : Int) 1 3 = true := inB_t (by omega) (by omega)
  rw [q2, Bool.true_and]
  go_enter Try.func20, Try.ntmps20
  go_wp2_with (go_at_call 37; refine (usersOk_any Ak Au ck cu K _ HK1.out HU1.out hk).mono ?_; rw [q1]; rintro e w1 ⟨rfl, rfl⟩)
  clear HK1 HU1
  go_loopw [26] (fun iv wr => ∃ j : Nat, j ≤ A.length ∧ iv = .int .i64 j ∧ Hid ((A.take j).all (fun a => inB a 1 K.length) = true) ∧ Below (w.heap.size + 1) (w.alloc (.cells #[.slice Ak K.length ck, .slice Au K.length cu, .slice Ar A.length cr] 25)) wr) (fun i _ => A.length - (intOf i).toNat)
  case atStart => exact ⟨0, Nat.zero_le _, rfl, rfl, Below.refl _ _⟩
  case round =>
    obtain ⟨j, hj, rfl, HP, hb⟩ := hrel
    have hsz := hb.size
    simp only [World.size_alloc] at hsz
    have hbw : Below w.heap.size w wr := ((Below.refl _ w).alloc (Nat.le_refl _) _).trans (hb.mono (by omega))
    have hlw : w.heap.size < wr.heap.size := by omega
    have HB : Hid (Below (w.heap.size + 1) (w.alloc (.cells #[.slice Ak K.length ck, .slice Au K.length cu, .slice Ar A.length cr] 25)) wr) := hb
    have HBw : Hid (Below w.heap.size w wr) := hbw
    by_cases hlt : j < A.length
    · obtain ⟨b, o, rfl, hbl, c1, c2, c3⟩ := (HR.out.below hbw (Nat.le_refl _)) j hlt
      have m0 : wr.cell? ⟨w.heap.size, 0, none⟩ = some (.slice Ak K.length ck) := (hb.cell (p := ⟨w.heap.size, 0, none⟩) (by show w.heap.size < _; omega)).trans (by simp)
      have hall := fun q => all_snoc (P := fun a => inB a 1 K.length) hlt HP.out q
      have hbad := fun q => all_bad (P := fun a => inB a 1 K.length) (L := A) hlt q
      generalize A[j] = x at *
      cases q3 : inB x 1 K.length
      · have E : Hid (A.all (fun a => inB a 1 K.length) = false) := hbad q3
        clear hall hbad HP hb hbw HB
        go_wp2_with (go_at_call 38; refine (repoOk_any x _ false _ q3).mono ?_; rintro e w2 ⟨rfl, hb2⟩)
        go_ret
        exact ⟨by rw [E.out]; rfl, (HBw.out.alloc (by omega) _).trans (hb2.mono (by simp; omega))⟩
      · have HP' : Hid ((A.take (j + 1)).all (fun a => inB a 1 K.length) = true) := hall q3
        clear hall hbad HP hb hbw
        go_wp2_with (go_at_call 38; refine (repoOk_any x _ true _ q3).mono ?_; rintro e w2 ⟨rfl, hb2⟩)
        go_roundw
        case rel => exact ⟨j + 1, by omega, by go_num, HP', (HB.out.alloc (by omega) _).trans (hb2.mono (by simp; omega))⟩
        case measure => simp [intOf]; omega
    · obtain rfl : j = A.length := by omega
      have tl : A.take A.length = A := List.take_length
      rw [tl] at HP
      go_wp2
      go_ret
      exact ⟨by rw [HP.out]; rfl, hbw⟩
end Go.Proofs.Ytknbmgdfcejlkaa.W
