
/-
  The walks of the program's oneFits, at the tests of seeing and at those of reaching. At most 1048576 rules, texts of at most 1048576 bytes.
-/
import Derived.Test.YtmjmkgigopinbaaWalkRulM
import Derived.Test.YtmjmkgigopinbaaWalkRul2
import Derived.WalkMore
namespace Go.Proofs.Ytmjmkgigopinbaa.W
open Go.RowKit Go.Proofs.Ytmjmkgigopinbaa.M

theorem any_step {α : Type} (L : List α) (P : α → Bool) (j : Nat) (h : j < L.length) : (L.drop j).any P = (P L[j] || (L.drop (j + 1)).any P) := by
  rw [List.drop_eq_getElem_cons h]; rfl
/-- what is asked lies in a block -/
def AtK (w : World) (b : Nat) (k : AK) : Prop := w.cell? ⟨b, 0, none⟩ = some (.int .i64 k.user) ∧ w.cell? ⟨b, 1, none⟩ = some (.string k.ref) ∧ w.cell? ⟨b, 2, none⟩ = some (.string k.path) ∧ w.cell? ⟨b, 3, none⟩ = some (.bool k.write)
theorem AtK.below {w w' : World} {b B : Nat} {x : AK} (h : AtK w b x) (hb : Below B w w') (hB : b < B) : AtK w' b x :=
  ⟨(hb.cell (p := ⟨b, _, none⟩) hB).trans h.1, (hb.cell (p := ⟨b, _, none⟩) hB).trans h.2.1, (hb.cell (p := ⟨b, _, none⟩) hB).trans h.2.2.1, (hb.cell (p := ⟨b, _, none⟩) hB).trans h.2.2.2⟩
theorem AtK.lt {w : World} {b : Nat} {x : AK} (h : AtK w b x) : b < w.heap.size := World.block_lt_of_cell? _ _ h.1
theorem atK_new (w : World) (x : AK) (t : TypeId) : AtK (w.alloc (.cells #[.int .i64 x.user, .string x.ref, .string x.path, .bool x.write] t)) w.heap.size x := by simp [AtK]

def Tst3 (w : World) (g : Nat) : Prop := w.cell? ⟨g, 0, none⟩ = some (.func (.func 51) #[] #[]) ∧ w.cell? ⟨g, 1, none⟩ = some (.func (.func 52) #[] #[]) ∧ w.cell? ⟨g, 2, none⟩ = some (.func (.func 53) #[] #[])
theorem Tst3.below {w w' : World} {g B : Nat} (h : Tst3 w g) (hb : Below B w w') (hB : g < B) : Tst3 w' g := ⟨(hb.cell (p := ⟨g, _, none⟩) hB).trans h.1, (hb.cell (p := ⟨g, _, none⟩) hB).trans h.2.1, (hb.cell (p := ⟨g, _, none⟩) hB).trans h.2.2⟩
theorem Tst3.lt {w : World} {g : Nat} (h : Tst3 w g) : g < w.heap.size := World.block_lt_of_cell? _ _ h.1

set_option maxHeartbeats 4000000 in
theorem oneFits3 (A : Option Addr) (c g cap : Nat) (L : List RR) (k : AK) (w : World) (hL : RdR w.heap.size w A L) (hn : L.length ≤ 1048576) (ht : ∀ j (h : j < L.length), (L[j]).ref.size ≤ 1048576 ∧ (L[j]).path.size ≤ 1048576) (hT : Tst3 w g) :
    Calls Try.prog 31 #[.slice A L.length c, .agg #[.int .i64 k.user, .string k.ref, .string k.path, .bool k.write], .slice (some ⟨g, 0, none⟩) 3 cap] w fun e w' => e = .returned (.bool (L.any fun x => seesB x k.user k.ref)) ∧ Below w.heap.size w w' := by
  have HL : Hid (RdR w.heap.size w A L) := hL
  have HT : Hid (∀ j (h : j < L.length), (L[j]).ref.size ≤ 1048576 ∧ (L[j]).path.size ≤ 1048576) := ht
  have HG : Hid (Tst3 w g) := hT
  have hg := hT.lt
  generalize hres : (L.any fun x => seesB x k.user k.ref) = res
  have HR : Hid ((L.any fun x => seesB x k.user k.ref) = res) := hres
  clear hL ht hT hres
  go_enter Try.func31, Try.ntmps31
  go_wp2
  go_step3
  go_wp2
  go_step3
  go_wp2
  go_loopw [7, 14] (fun fv iv wr => ∃ j : Nat, j ≤ L.length ∧ fv = .bool false ∧ iv = .int .i64 j ∧ Hid (res = (L.drop j).any fun x => seesB x k.user k.ref) ∧ Below (w.heap.size + 1) (w.alloc (.cells #[.int .i64 k.user, .string k.ref, .string k.path, .bool k.write] 52)) wr) (fun _ i _ => L.length - (intOf i).toNat)
  case atStart => exact ⟨0, Nat.zero_le _, rfl, rfl, HR.out.symm, Below.refl _ _⟩
  case round =>
    obtain ⟨j, hj, rfl, rfl, HS, hb⟩ := hrel
    have hsz := hb.size
    simp only [World.size_alloc] at hsz
    have HB : Hid (Below (w.heap.size + 1) (w.alloc (.cells #[.int .i64 k.user, .string k.ref, .string k.path, .bool k.write] 52)) wr) := hb
    have hbw : Hid (Below w.heap.size w wr) := ((Below.refl _ w).alloc (Nat.le_refl _) _).trans (hb.mono (by omega))
    clear hb
    by_cases hlt : j < L.length
    · obtain ⟨b, o, rfl, hbl, c1, c2, c3, c4⟩ := (HL.out.below hbw.out (Nat.le_refl _)) j hlt
      obtain ⟨hxr, hxp⟩ := HT.out j hlt
      have est := HS.out.trans (any_step L _ j hlt)
      obtain ⟨x, hx⟩ : ∃ x, L[j] = x := ⟨_, rfl⟩
      rw [hx] at est c1 c2 c3 c4 hxr hxp
      clear hx HS HR
      have D' := (atK_new w k 52).below HB.out (Nat.lt_succ_self _)
      have G' := HG.out.below hbw.out hg
      have D := D'.below ((Below.refl wr.heap.size wr).alloc (Nat.le_refl _) (.cells #[.int .i64 x.user, .string x.ref, .string x.path, .bool x.write] 32)) D'.lt
      have G := G'.below ((Below.refl wr.heap.size wr).alloc (Nat.le_refl _) (.cells #[.int .i64 x.user, .string x.ref, .string x.path, .bool x.write] 32)) G'.lt
      clear D' G'
      have e0 := atR_new wr x 32
      obtain ⟨d0, d1, d2, d3⟩ := id D
      obtain ⟨t0, t1, t2⟩ := id G
      by_cases q0 : rulB x = true
      case neg =>
        have q0' : rulB x = false := by simpa using q0
        have hv : (seesB x k.user k.ref) = false := by unfold seesB; rw [q0']; simp
        have HX : Hid (res = (L.drop (j + 1)).any fun x => seesB x k.user k.ref) := by have := est; rwa [hv, Bool.false_or] at this
        have E0 : Hid (rulB x = false) := q0'
        clear est hv q0 q0' e0
        go_wp2
        refine wp_loop_rounds 1 ?_
        rw [rounds_succ]
        go_wp2_with (go_at_call 51; refine (isOk_any x k _ hxr hxp).mono ?_; rw [E0.out]; rintro e w1 ⟨rfl, hb1⟩; have R1 := (atR_new wr x 32).up hb1; have D1 := D.below hb1 D.lt; have G1 := G.below hb1 G.lt; clear d0 d1 d2 d3 t0 t1 t2; obtain ⟨a0, a1, a2, a3⟩ := id R1; obtain ⟨d0, d1, d2, d3⟩ := id D1; obtain ⟨t0, t1, t2⟩ := id G1; have Z1 := hb1)
        go_roundw
        case rel => exact ⟨j + 1, by omega, rfl, by go_num, HX, HB.out.trans (((Below.refl _ wr).alloc (Nat.le_refl _) _).trans (Z1.mono (by simp)) |>.mono (by omega))⟩
        case measure => simp [intOf]; omega
      have E0 : Hid (rulB x = true) := q0
      by_cases q1 : forU x k.user = true
      case neg =>
        have q1' : forU x k.user = false := by simpa using q1
        have hv : (seesB x k.user k.ref) = false := by unfold seesB; rw [q1']; simp
        have HX : Hid (res = (L.drop (j + 1)).any fun x => seesB x k.user k.ref) := by have := est; rwa [hv, Bool.false_or] at this
        have E1 : Hid (forU x k.user = false) := q1'
        clear est hv q1 q1' e0
        go_wp2
        refine wp_loop_rounds 2 ?_
        rw [rounds_succ]
        go_wp2_with (go_at_call 51; refine (isOk_any x k _ hxr hxp).mono ?_; rw [E0.out]; rintro e w1 ⟨rfl, hb1⟩; have R1 := (atR_new wr x 32).up hb1; have D1 := D.below hb1 D.lt; have G1 := G.below hb1 G.lt; clear d0 d1 d2 d3 t0 t1 t2; obtain ⟨a0, a1, a2, a3⟩ := id R1; obtain ⟨d0, d1, d2, d3⟩ := id D1; obtain ⟨t0, t1, t2⟩ := id G1; have Z1 := hb1)
        rw [rounds_succ]
        go_wp2_with (go_at_call 52; refine (isForUser_any x k _).mono ?_; rw [E1.out]; rintro e w2 ⟨rfl, hb2⟩; have R2 := R1.up hb2; have D2 := D1.below hb2 D1.lt; have G2 := G1.below hb2 G1.lt; clear d0 d1 d2 d3 t0 t1 t2 a0 a1 a2 a3; obtain ⟨a0, a1, a2, a3⟩ := id R2; obtain ⟨d0, d1, d2, d3⟩ := id D2; obtain ⟨t0, t1, t2⟩ := id G2; have Z2 := Z1.trans (hb2.mono Z1.size))
        go_roundw
        case rel => exact ⟨j + 1, by omega, rfl, by go_num, HX, HB.out.trans (((Below.refl _ wr).alloc (Nat.le_refl _) _).trans (Z2.mono (by simp)) |>.mono (by omega))⟩
        case measure => simp [intOf]; omega
      have E1 : Hid (forU x k.user = true) := q1
      by_cases q2 : forR x k.ref = true
      case neg =>
        have q2' : forR x k.ref = false := by simpa using q2
        have hv : (seesB x k.user k.ref) = false := by unfold seesB; rw [q2']; simp
        have HX : Hid (res = (L.drop (j + 1)).any fun x => seesB x k.user k.ref) := by have := est; rwa [hv, Bool.false_or] at this
        have E2 : Hid (forR x k.ref = false) := q2'
        clear est hv q2 q2' e0
        go_wp2
        refine wp_loop_rounds 3 ?_
        rw [rounds_succ]
        go_wp2_with (go_at_call 51; refine (isOk_any x k _ hxr hxp).mono ?_; rw [E0.out]; rintro e w1 ⟨rfl, hb1⟩; have R1 := (atR_new wr x 32).up hb1; have D1 := D.below hb1 D.lt; have G1 := G.below hb1 G.lt; clear d0 d1 d2 d3 t0 t1 t2; obtain ⟨a0, a1, a2, a3⟩ := id R1; obtain ⟨d0, d1, d2, d3⟩ := id D1; obtain ⟨t0, t1, t2⟩ := id G1; have Z1 := hb1)
        rw [rounds_succ]
        go_wp2_with (go_at_call 52; refine (isForUser_any x k _).mono ?_; rw [E1.out]; rintro e w2 ⟨rfl, hb2⟩; have R2 := R1.up hb2; have D2 := D1.below hb2 D1.lt; have G2 := G1.below hb2 G1.lt; clear d0 d1 d2 d3 t0 t1 t2 a0 a1 a2 a3; obtain ⟨a0, a1, a2, a3⟩ := id R2; obtain ⟨d0, d1, d2, d3⟩ := id D2; obtain ⟨t0, t1, t2⟩ := id G2; have Z2 := Z1.trans (hb2.mono Z1.size))
        rw [rounds_succ]
        go_wp2_with (go_at_call 53; refine (isForRef_any x k _).mono ?_; rw [E2.out]; rintro e w3 ⟨rfl, hb3⟩; have R3 := R2.up hb3; have D3 := D2.below hb3 D2.lt; have G3 := G2.below hb3 G2.lt; clear d0 d1 d2 d3 t0 t1 t2 a0 a1 a2 a3; obtain ⟨a0, a1, a2, a3⟩ := id R3; obtain ⟨d0, d1, d2, d3⟩ := id D3; obtain ⟨t0, t1, t2⟩ := id G3; have Z3 := Z2.trans (hb3.mono Z2.size))
        go_roundw
        case rel => exact ⟨j + 1, by omega, rfl, by go_num, HX, HB.out.trans (((Below.refl _ wr).alloc (Nat.le_refl _) _).trans (Z3.mono (by simp)) |>.mono (by omega))⟩
        case measure => simp [intOf]; omega
      have E2 : Hid (forR x k.ref = true) := q2
      have HX : Hid (res = true) := by have := est; rw [show (seesB x k.user k.ref) = true by unfold seesB; simp [q0, q1, q2], Bool.true_or] at this; exact this
      clear est q0 q1 q2 e0
      go_wp2
      refine wp_loop_rounds 4 ?_
      rw [rounds_succ]
      go_wp2_with (go_at_call 51; refine (isOk_any x k _ hxr hxp).mono ?_; rw [E0.out]; rintro e w1 ⟨rfl, hb1⟩; have R1 := (atR_new wr x 32).up hb1; have D1 := D.below hb1 D.lt; have G1 := G.below hb1 G.lt; clear d0 d1 d2 d3 t0 t1 t2; obtain ⟨a0, a1, a2, a3⟩ := id R1; obtain ⟨d0, d1, d2, d3⟩ := id D1; obtain ⟨t0, t1, t2⟩ := id G1; have Z1 := hb1)
      rw [rounds_succ]
      go_wp2_with (go_at_call 52; refine (isForUser_any x k _).mono ?_; rw [E1.out]; rintro e w2 ⟨rfl, hb2⟩; have R2 := R1.up hb2; have D2 := D1.below hb2 D1.lt; have G2 := G1.below hb2 G1.lt; clear d0 d1 d2 d3 t0 t1 t2 a0 a1 a2 a3; obtain ⟨a0, a1, a2, a3⟩ := id R2; obtain ⟨d0, d1, d2, d3⟩ := id D2; obtain ⟨t0, t1, t2⟩ := id G2; have Z2 := Z1.trans (hb2.mono Z1.size))
      rw [rounds_succ]
      go_wp2_with (go_at_call 53; refine (isForRef_any x k _).mono ?_; rw [E2.out]; rintro e w3 ⟨rfl, hb3⟩; have R3 := R2.up hb3; have D3 := D2.below hb3 D2.lt; have G3 := G2.below hb3 G2.lt; clear d0 d1 d2 d3 t0 t1 t2 a0 a1 a2 a3; obtain ⟨a0, a1, a2, a3⟩ := id R3; obtain ⟨d0, d1, d2, d3⟩ := id D3; obtain ⟨t0, t1, t2⟩ := id G3; have Z3 := Z2.trans (hb3.mono Z2.size))
      rw [rounds_succ]
      go_wp2
      try rw [Exit.noGoto_ret]
      go_ret
      exact ⟨ret_bool HX.out.symm, hbw.out.trans (((Below.refl _ wr).alloc (Nat.le_refl _) _).trans (Z3.mono (by simp)) |>.mono (by omega))⟩
    · go_wp2
      try rw [Exit.noGoto_ret]
      go_ret
      obtain rfl : j = L.length := by omega
      have e := HS.out
      rw [List.drop_length] at e
      exact ⟨ret_bool e.symm, hbw.out⟩

def Tst5 (w : World) (g : Nat) : Prop := w.cell? ⟨g, 0, none⟩ = some (.func (.func 51) #[] #[]) ∧ w.cell? ⟨g, 1, none⟩ = some (.func (.func 52) #[] #[]) ∧ w.cell? ⟨g, 2, none⟩ = some (.func (.func 53) #[] #[]) ∧ w.cell? ⟨g, 3, none⟩ = some (.func (.func 46) #[] #[]) ∧ w.cell? ⟨g, 4, none⟩ = some (.func (.func 47) #[] #[])
theorem Tst5.below {w w' : World} {g B : Nat} (h : Tst5 w g) (hb : Below B w w') (hB : g < B) : Tst5 w' g := ⟨(hb.cell (p := ⟨g, _, none⟩) hB).trans h.1, (hb.cell (p := ⟨g, _, none⟩) hB).trans h.2.1, (hb.cell (p := ⟨g, _, none⟩) hB).trans h.2.2.1, (hb.cell (p := ⟨g, _, none⟩) hB).trans h.2.2.2.1, (hb.cell (p := ⟨g, _, none⟩) hB).trans h.2.2.2.2⟩
theorem Tst5.lt {w : World} {g : Nat} (h : Tst5 w g) : g < w.heap.size := World.block_lt_of_cell? _ _ h.1

set_option maxHeartbeats 4000000 in
theorem oneFits5 (A : Option Addr) (c g cap : Nat) (L : List RR) (k : AK) (w : World) (hL : RdR w.heap.size w A L) (hn : L.length ≤ 1048576) (ht : ∀ j (h : j < L.length), (L[j]).ref.size ≤ 1048576 ∧ (L[j]).path.size ≤ 1048576) (hkp : k.path.size ≤ 1048576) (hT : Tst5 w g) :
    Calls Try.prog 31 #[.slice A L.length c, .agg #[.int .i64 k.user, .string k.ref, .string k.path, .bool k.write], .slice (some ⟨g, 0, none⟩) 5 cap] w fun e w' => e = .returned (.bool (L.any fun x => mayB x k.user k.ref k.path k.write)) ∧ Below w.heap.size w w' := by
  have HL : Hid (RdR w.heap.size w A L) := hL
  have HT : Hid (∀ j (h : j < L.length), (L[j]).ref.size ≤ 1048576 ∧ (L[j]).path.size ≤ 1048576) := ht
  have HG : Hid (Tst5 w g) := hT
  have hg := hT.lt
  generalize hres : (L.any fun x => mayB x k.user k.ref k.path k.write) = res
  have HR : Hid ((L.any fun x => mayB x k.user k.ref k.path k.write) = res) := hres
  clear hL ht hT hres
  go_enter Try.func31, Try.ntmps31
  go_wp2
  go_step3
  go_wp2
  go_step3
  go_wp2
  go_loopw [7, 14] (fun fv iv wr => ∃ j : Nat, j ≤ L.length ∧ fv = .bool false ∧ iv = .int .i64 j ∧ Hid (res = (L.drop j).any fun x => mayB x k.user k.ref k.path k.write) ∧ Below (w.heap.size + 1) (w.alloc (.cells #[.int .i64 k.user, .string k.ref, .string k.path, .bool k.write] 52)) wr) (fun _ i _ => L.length - (intOf i).toNat)
  case atStart => exact ⟨0, Nat.zero_le _, rfl, rfl, HR.out.symm, Below.refl _ _⟩
  case round =>
    obtain ⟨j, hj, rfl, rfl, HS, hb⟩ := hrel
    have hsz := hb.size
    simp only [World.size_alloc] at hsz
    have HB : Hid (Below (w.heap.size + 1) (w.alloc (.cells #[.int .i64 k.user, .string k.ref, .string k.path, .bool k.write] 52)) wr) := hb
    have hbw : Hid (Below w.heap.size w wr) := ((Below.refl _ w).alloc (Nat.le_refl _) _).trans (hb.mono (by omega))
    clear hb
    by_cases hlt : j < L.length
    · obtain ⟨b, o, rfl, hbl, c1, c2, c3, c4⟩ := (HL.out.below hbw.out (Nat.le_refl _)) j hlt
      obtain ⟨hxr, hxp⟩ := HT.out j hlt
      have est := HS.out.trans (any_step L _ j hlt)
      obtain ⟨x, hx⟩ : ∃ x, L[j] = x := ⟨_, rfl⟩
      rw [hx] at est c1 c2 c3 c4 hxr hxp
      clear hx HS HR
      have D' := (atK_new w k 52).below HB.out (Nat.lt_succ_self _)
      have G' := HG.out.below hbw.out hg
      have D := D'.below ((Below.refl wr.heap.size wr).alloc (Nat.le_refl _) (.cells #[.int .i64 x.user, .string x.ref, .string x.path, .bool x.write] 32)) D'.lt
      have G := G'.below ((Below.refl wr.heap.size wr).alloc (Nat.le_refl _) (.cells #[.int .i64 x.user, .string x.ref, .string x.path, .bool x.write] 32)) G'.lt
      clear D' G'
      have e0 := atR_new wr x 32
      obtain ⟨d0, d1, d2, d3⟩ := id D
      obtain ⟨t0, t1, t2, t3, t4⟩ := id G
      by_cases q0 : rulB x = true
      case neg =>
        have q0' : rulB x = false := by simpa using q0
        have hv : (mayB x k.user k.ref k.path k.write) = false := by unfold mayB seesB; rw [q0']; simp
        have HX : Hid (res = (L.drop (j + 1)).any fun x => mayB x k.user k.ref k.path k.write) := by have := est; rwa [hv, Bool.false_or] at this
        have E0 : Hid (rulB x = false) := q0'
        clear est hv q0 q0' e0
        go_wp2
        refine wp_loop_rounds 1 ?_
        rw [rounds_succ]
        go_wp2_with (go_at_call 51; refine (isOk_any x k _ hxr hxp).mono ?_; rw [E0.out]; rintro e w1 ⟨rfl, hb1⟩; have R1 := (atR_new wr x 32).up hb1; have D1 := D.below hb1 D.lt; have G1 := G.below hb1 G.lt; clear d0 d1 d2 d3 t0 t1 t2 t3 t4; obtain ⟨a0, a1, a2, a3⟩ := id R1; obtain ⟨d0, d1, d2, d3⟩ := id D1; obtain ⟨t0, t1, t2, t3, t4⟩ := id G1; have Z1 := hb1)
        go_roundw
        case rel => exact ⟨j + 1, by omega, rfl, by go_num, HX, HB.out.trans (((Below.refl _ wr).alloc (Nat.le_refl _) _).trans (Z1.mono (by simp)) |>.mono (by omega))⟩
        case measure => simp [intOf]; omega
      have E0 : Hid (rulB x = true) := q0
      by_cases q1 : forU x k.user = true
      case neg =>
        have q1' : forU x k.user = false := by simpa using q1
        have hv : (mayB x k.user k.ref k.path k.write) = false := by unfold mayB seesB; rw [q1']; simp
        have HX : Hid (res = (L.drop (j + 1)).any fun x => mayB x k.user k.ref k.path k.write) := by have := est; rwa [hv, Bool.false_or] at this
        have E1 : Hid (forU x k.user = false) := q1'
        clear est hv q1 q1' e0
        go_wp2
        refine wp_loop_rounds 2 ?_
        rw [rounds_succ]
        go_wp2_with (go_at_call 51; refine (isOk_any x k _ hxr hxp).mono ?_; rw [E0.out]; rintro e w1 ⟨rfl, hb1⟩; have R1 := (atR_new wr x 32).up hb1; have D1 := D.below hb1 D.lt; have G1 := G.below hb1 G.lt; clear d0 d1 d2 d3 t0 t1 t2 t3 t4; obtain ⟨a0, a1, a2, a3⟩ := id R1; obtain ⟨d0, d1, d2, d3⟩ := id D1; obtain ⟨t0, t1, t2, t3, t4⟩ := id G1; have Z1 := hb1)
        rw [rounds_succ]
        go_wp2_with (go_at_call 52; refine (isForUser_any x k _).mono ?_; rw [E1.out]; rintro e w2 ⟨rfl, hb2⟩; have R2 := R1.up hb2; have D2 := D1.below hb2 D1.lt; have G2 := G1.below hb2 G1.lt; clear d0 d1 d2 d3 t0 t1 t2 t3 t4 a0 a1 a2 a3; obtain ⟨a0, a1, a2, a3⟩ := id R2; obtain ⟨d0, d1, d2, d3⟩ := id D2; obtain ⟨t0, t1, t2, t3, t4⟩ := id G2; have Z2 := Z1.trans (hb2.mono Z1.size))
        go_roundw
        case rel => exact ⟨j + 1, by omega, rfl, by go_num, HX, HB.out.trans (((Below.refl _ wr).alloc (Nat.le_refl _) _).trans (Z2.mono (by simp)) |>.mono (by omega))⟩
        case measure => simp [intOf]; omega
      have E1 : Hid (forU x k.user = true) := q1
      by_cases q2 : forR x k.ref = true
      case neg =>
        have q2' : forR x k.ref = false := by simpa using q2
        have hv : (mayB x k.user k.ref k.path k.write) = false := by unfold mayB seesB; rw [q2']; simp
        have HX : Hid (res = (L.drop (j + 1)).any fun x => mayB x k.user k.ref k.path k.write) := by have := est; rwa [hv, Bool.false_or] at this
        have E2 : Hid (forR x k.ref = false) := q2'
        clear est hv q2 q2' e0
        go_wp2
        refine wp_loop_rounds 3 ?_
        rw [rounds_succ]
        go_wp2_with (go_at_call 51; refine (isOk_any x k _ hxr hxp).mono ?_; rw [E0.out]; rintro e w1 ⟨rfl, hb1⟩; have R1 := (atR_new wr x 32).up hb1; have D1 := D.below hb1 D.lt; have G1 := G.below hb1 G.lt; clear d0 d1 d2 d3 t0 t1 t2 t3 t4; obtain ⟨a0, a1, a2, a3⟩ := id R1; obtain ⟨d0, d1, d2, d3⟩ := id D1; obtain ⟨t0, t1, t2, t3, t4⟩ := id G1; have Z1 := hb1)
        rw [rounds_succ]
        go_wp2_with (go_at_call 52; refine (isForUser_any x k _).mono ?_; rw [E1.out]; rintro e w2 ⟨rfl, hb2⟩; have R2 := R1.up hb2; have D2 := D1.below hb2 D1.lt; have G2 := G1.below hb2 G1.lt; clear d0 d1 d2 d3 t0 t1 t2 t3 t4 a0 a1 a2 a3; obtain ⟨a0, a1, a2, a3⟩ := id R2; obtain ⟨d0, d1, d2, d3⟩ := id D2; obtain ⟨t0, t1, t2, t3, t4⟩ := id G2; have Z2 := Z1.trans (hb2.mono Z1.size))
        rw [rounds_succ]
        go_wp2_with (go_at_call 53; refine (isForRef_any x k _).mono ?_; rw [E2.out]; rintro e w3 ⟨rfl, hb3⟩; have R3 := R2.up hb3; have D3 := D2.below hb3 D2.lt; have G3 := G2.below hb3 G2.lt; clear d0 d1 d2 d3 t0 t1 t2 t3 t4 a0 a1 a2 a3; obtain ⟨a0, a1, a2, a3⟩ := id R3; obtain ⟨d0, d1, d2, d3⟩ := id D3; obtain ⟨t0, t1, t2, t3, t4⟩ := id G3; have Z3 := Z2.trans (hb3.mono Z2.size))
        go_roundw
        case rel => exact ⟨j + 1, by omega, rfl, by go_num, HX, HB.out.trans (((Below.refl _ wr).alloc (Nat.le_refl _) _).trans (Z3.mono (by simp)) |>.mono (by omega))⟩
        case measure => simp [intOf]; omega
      have E2 : Hid (forR x k.ref = true) := q2
      by_cases q3 : undB x.path.data.toList k.path.data.toList = true
      case neg =>
        have q3' : undB x.path.data.toList k.path.data.toList = false := by simpa using q3
        have hv : (mayB x k.user k.ref k.path k.write) = false := by unfold mayB seesB; rw [q3']; simp
        have HX : Hid (res = (L.drop (j + 1)).any fun x => mayB x k.user k.ref k.path k.write) := by have := est; rwa [hv, Bool.false_or] at this
        have E3 : Hid (undB x.path.data.toList k.path.data.toList = false) := q3'
        clear est hv q3 q3' e0
        go_wp2
        refine wp_loop_rounds 4 ?_
        rw [rounds_succ]
        go_wp2_with (go_at_call 51; refine (isOk_any x k _ hxr hxp).mono ?_; rw [E0.out]; rintro e w1 ⟨rfl, hb1⟩; have R1 := (atR_new wr x 32).up hb1; have D1 := D.below hb1 D.lt; have G1 := G.below hb1 G.lt; clear d0 d1 d2 d3 t0 t1 t2 t3 t4; obtain ⟨a0, a1, a2, a3⟩ := id R1; obtain ⟨d0, d1, d2, d3⟩ := id D1; obtain ⟨t0, t1, t2, t3, t4⟩ := id G1; have Z1 := hb1)
        rw [rounds_succ]
        go_wp2_with (go_at_call 52; refine (isForUser_any x k _).mono ?_; rw [E1.out]; rintro e w2 ⟨rfl, hb2⟩; have R2 := R1.up hb2; have D2 := D1.below hb2 D1.lt; have G2 := G1.below hb2 G1.lt; clear d0 d1 d2 d3 t0 t1 t2 t3 t4 a0 a1 a2 a3; obtain ⟨a0, a1, a2, a3⟩ := id R2; obtain ⟨d0, d1, d2, d3⟩ := id D2; obtain ⟨t0, t1, t2, t3, t4⟩ := id G2; have Z2 := Z1.trans (hb2.mono Z1.size))
        rw [rounds_succ]
        go_wp2_with (go_at_call 53; refine (isForRef_any x k _).mono ?_; rw [E2.out]; rintro e w3 ⟨rfl, hb3⟩; have R3 := R2.up hb3; have D3 := D2.below hb3 D2.lt; have G3 := G2.below hb3 G2.lt; clear d0 d1 d2 d3 t0 t1 t2 t3 t4 a0 a1 a2 a3; obtain ⟨a0, a1, a2, a3⟩ := id R3; obtain ⟨d0, d1, d2, d3⟩ := id D3; obtain ⟨t0, t1, t2, t3, t4⟩ := id G3; have Z3 := Z2.trans (hb3.mono Z2.size))
        rw [rounds_succ]
        go_wp2_with (go_at_call 46; refine (isAbove_any x k _ hxp hkp).mono ?_; rw [E3.out]; rintro e w4 ⟨rfl, hb4⟩; have R4 := R3.up hb4; have D4 := D3.below hb4 D3.lt; have G4 := G3.below hb4 G3.lt; clear d0 d1 d2 d3 t0 t1 t2 t3 t4 a0 a1 a2 a3; obtain ⟨a0, a1, a2, a3⟩ := id R4; obtain ⟨d0, d1, d2, d3⟩ := id D4; obtain ⟨t0, t1, t2, t3, t4⟩ := id G4; have Z4 := Z3.trans (hb4.mono Z3.size))
        go_roundw
        case rel => exact ⟨j + 1, by omega, rfl, by go_num, HX, HB.out.trans (((Below.refl _ wr).alloc (Nat.le_refl _) _).trans (Z4.mono (by simp)) |>.mono (by omega))⟩
        case measure => simp [intOf]; omega
      have E3 : Hid (undB x.path.data.toList k.path.data.toList = true) := q3
      by_cases q4 : (x.write || !k.write) = true
      case neg =>
        have q4' : (x.write || !k.write) = false := by simpa using q4
        have hv : (mayB x k.user k.ref k.path k.write) = false := by unfold mayB seesB; rw [q4']; simp
        have HX : Hid (res = (L.drop (j + 1)).any fun x => mayB x k.user k.ref k.path k.write) := by have := est; rwa [hv, Bool.false_or] at this
        have E4 : Hid ((x.write || !k.write) = false) := q4'
        clear est hv q4 q4' e0
        go_wp2
        refine wp_loop_rounds 5 ?_
        rw [rounds_succ]
        go_wp2_with (go_at_call 51; refine (isOk_any x k _ hxr hxp).mono ?_; rw [E0.out]; rintro e w1 ⟨rfl, hb1⟩; have R1 := (atR_new wr x 32).up hb1; have D1 := D.below hb1 D.lt; have G1 := G.below hb1 G.lt; clear d0 d1 d2 d3 t0 t1 t2 t3 t4; obtain ⟨a0, a1, a2, a3⟩ := id R1; obtain ⟨d0, d1, d2, d3⟩ := id D1; obtain ⟨t0, t1, t2, t3, t4⟩ := id G1; have Z1 := hb1)
        rw [rounds_succ]
        go_wp2_with (go_at_call 52; refine (isForUser_any x k _).mono ?_; rw [E1.out]; rintro e w2 ⟨rfl, hb2⟩; have R2 := R1.up hb2; have D2 := D1.below hb2 D1.lt; have G2 := G1.below hb2 G1.lt; clear d0 d1 d2 d3 t0 t1 t2 t3 t4 a0 a1 a2 a3; obtain ⟨a0, a1, a2, a3⟩ := id R2; obtain ⟨d0, d1, d2, d3⟩ := id D2; obtain ⟨t0, t1, t2, t3, t4⟩ := id G2; have Z2 := Z1.trans (hb2.mono Z1.size))
        rw [rounds_succ]
        go_wp2_with (go_at_call 53; refine (isForRef_any x k _).mono ?_; rw [E2.out]; rintro e w3 ⟨rfl, hb3⟩; have R3 := R2.up hb3; have D3 := D2.below hb3 D2.lt; have G3 := G2.below hb3 G2.lt; clear d0 d1 d2 d3 t0 t1 t2 t3 t4 a0 a1 a2 a3; obtain ⟨a0, a1, a2, a3⟩ := id R3; obtain ⟨d0, d1, d2, d3⟩ := id D3; obtain ⟨t0, t1, t2, t3, t4⟩ := id G3; have Z3 := Z2.trans (hb3.mono Z2.size))
        rw [rounds_succ]
        go_wp2_with (go_at_call 46; refine (isAbove_any x k _ hxp hkp).mono ?_; rw [E3.out]; rintro e w4 ⟨rfl, hb4⟩; have R4 := R3.up hb4; have D4 := D3.below hb4 D3.lt; have G4 := G3.below hb4 G3.lt; clear d0 d1 d2 d3 t0 t1 t2 t3 t4 a0 a1 a2 a3; obtain ⟨a0, a1, a2, a3⟩ := id R4; obtain ⟨d0, d1, d2, d3⟩ := id D4; obtain ⟨t0, t1, t2, t3, t4⟩ := id G4; have Z4 := Z3.trans (hb4.mono Z3.size))
        rw [rounds_succ]
        go_wp2_with (go_at_call 47; refine (isEnough_any x k _).mono ?_; rw [E4.out]; rintro e w5 ⟨rfl, hb5⟩; have R5 := R4.up hb5; have D5 := D4.below hb5 D4.lt; have G5 := G4.below hb5 G4.lt; clear d0 d1 d2 d3 t0 t1 t2 t3 t4 a0 a1 a2 a3; obtain ⟨a0, a1, a2, a3⟩ := id R5; obtain ⟨d0, d1, d2, d3⟩ := id D5; obtain ⟨t0, t1, t2, t3, t4⟩ := id G5; have Z5 := Z4.trans (hb5.mono Z4.size))
        go_roundw
        case rel => exact ⟨j + 1, by omega, rfl, by go_num, HX, HB.out.trans (((Below.refl _ wr).alloc (Nat.le_refl _) _).trans (Z5.mono (by simp)) |>.mono (by omega))⟩
        case measure => simp [intOf]; omega
      have E4 : Hid ((x.write || !k.write) = true) := q4
      have HX : Hid (res = true) := by have := est; rw [show (mayB x k.user k.ref k.path k.write) = true by unfold mayB seesB; simp [q0, q1, q2, q3, q4], Bool.true_or] at this; exact this
      clear est q0 q1 q2 q3 q4 e0
      go_wp2
      refine wp_loop_rounds 6 ?_
      rw [rounds_succ]
      go_wp2_with (go_at_call 51; refine (isOk_any x k _ hxr hxp).mono ?_; rw [E0.out]; rintro e w1 ⟨rfl, hb1⟩; have R1 := (atR_new wr x 32).up hb1; have D1 := D.below hb1 D.lt; have G1 := G.below hb1 G.lt; clear d0 d1 d2 d3 t0 t1 t2 t3 t4; obtain ⟨a0, a1, a2, a3⟩ := id R1; obtain ⟨d0, d1, d2, d3⟩ := id D1; obtain ⟨t0, t1, t2, t3, t4⟩ := id G1; have Z1 := hb1)
      rw [rounds_succ]
      go_wp2_with (go_at_call 52; refine (isForUser_any x k _).mono ?_; rw [E1.out]; rintro e w2 ⟨rfl, hb2⟩; have R2 := R1.up hb2; have D2 := D1.below hb2 D1.lt; have G2 := G1.below hb2 G1.lt; clear d0 d1 d2 d3 t0 t1 t2 t3 t4 a0 a1 a2 a3; obtain ⟨a0, a1, a2, a3⟩ := id R2; obtain ⟨d0, d1, d2, d3⟩ := id D2; obtain ⟨t0, t1, t2, t3, t4⟩ := id G2; have Z2 := Z1.trans (hb2.mono Z1.size))
      rw [rounds_succ]
      go_wp2_with (go_at_call 53; refine (isForRef_any x k _).mono ?_; rw [E2.out]; rintro e w3 ⟨rfl, hb3⟩; have R3 := R2.up hb3; have D3 := D2.below hb3 D2.lt; have G3 := G2.below hb3 G2.lt; clear d0 d1 d2 d3 t0 t1 t2 t3 t4 a0 a1 a2 a3; obtain ⟨a0, a1, a2, a3⟩ := id R3; obtain ⟨d0, d1, d2, d3⟩ := id D3; obtain ⟨t0, t1, t2, t3, t4⟩ := id G3; have Z3 := Z2.trans (hb3.mono Z2.size))
      rw [rounds_succ]
      go_wp2_with (go_at_call 46; refine (isAbove_any x k _ hxp hkp).mono ?_; rw [E3.out]; rintro e w4 ⟨rfl, hb4⟩; have R4 := R3.up hb4; have D4 := D3.below hb4 D3.lt; have G4 := G3.below hb4 G3.lt; clear d0 d1 d2 d3 t0 t1 t2 t3 t4 a0 a1 a2 a3; obtain ⟨a0, a1, a2, a3⟩ := id R4; obtain ⟨d0, d1, d2, d3⟩ := id D4; obtain ⟨t0, t1, t2, t3, t4⟩ := id G4; have Z4 := Z3.trans (hb4.mono Z3.size))
      rw [rounds_succ]
      go_wp2_with (go_at_call 47; refine (isEnough_any x k _).mono ?_; rw [E4.out]; rintro e w5 ⟨rfl, hb5⟩; have R5 := R4.up hb5; have D5 := D4.below hb5 D4.lt; have G5 := G4.below hb5 G4.lt; clear d0 d1 d2 d3 t0 t1 t2 t3 t4 a0 a1 a2 a3; obtain ⟨a0, a1, a2, a3⟩ := id R5; obtain ⟨d0, d1, d2, d3⟩ := id D5; obtain ⟨t0, t1, t2, t3, t4⟩ := id G5; have Z5 := Z4.trans (hb5.mono Z4.size))
      rw [rounds_succ]
      go_wp2
      try rw [Exit.noGoto_ret]
      go_ret
      exact ⟨ret_bool HX.out.symm, hbw.out.trans (((Below.refl _ wr).alloc (Nat.le_refl _) _).trans (Z5.mono (by simp)) |>.mono (by omega))⟩
    · go_wp2
      try rw [Exit.noGoto_ret]
      go_ret
      obtain rfl : j = L.length := by omega
      have e := HS.out
      rw [List.drop_length] at e
      exact ⟨ret_bool e.symm, hbw.out⟩
end Go.Proofs.Ytmjmkgigopinbaa.W
