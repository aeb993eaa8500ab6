
/-
  Whether two rules are the same, as the model asks it; the walks of the specification's l5Same and of slices.Index and slices.Contains at rules. At most 1048576 rules.
-/
import Derived.Test.YtmjmkgigopinbaaWalkRul2
import Derived.Test.YtmjmkgigopinbaaMathExt
import Derived.Test.YtmjmkgigopinbaaMathTxt
import Derived.Laws.StructEq
namespace Go.Proofs.Ytmjmkgigopinbaa.W
open Go.RowKit

/-- two rules are the same -/
def eqR (x y : RR) : Bool := (x.user == y.user) && ((x.ref.toList == y.ref.toList) && ((x.path.toList == y.path.toList) && (x.write == y.write)))
theorem eqR_iff (x y : RR) : eqR x y = true ↔ x = y := by
  obtain ⟨a, b, c, d⟩ := x
  obtain ⟨a', b', c', d'⟩ := y
  unfold eqR
  have e : ∀ p q : ByteArray, p.toList = q.toList ↔ p = q := fun p q => by
    rw [ByteArray.toList_eq, ByteArray.toList_eq]
    constructor
    · intro h; apply ByteArray.ext; exact Array.ext' (by simpa using h)
    · intro h; rw [h]
  simp [e]
theorem eqR_self (x : RR) : eqR x x = true := (eqR_iff x x).2 rfl
theorem eqR_comm (x y : RR) : eqR x y = eqR y x := by
  rw [Bool.eq_iff_iff, eqR_iff, eqR_iff]; exact eq_comm
theorem run_eqR (w : World) (x y : RR) : (binOp .eql 32 (.agg #[.int .i64 x.user, .string x.ref, .string x.path, .bool x.write]) (.agg #[.int .i64 y.user, .string y.ref, .string y.path, .bool y.write])).run Try.prog w = .ok (.bool (eqR x y)) w := by
  have u1 := Try.underlying3
  have a1 := Try.isAgg3
  have z1 := Try.sizeOf3
  have u2 := Try.underlying9
  have a2 := Try.isAgg9
  have z2 := Try.sizeOf9
  have u3 := Try.underlying4
  have a3 := Try.isAgg4
  have z3 := Try.sizeOf4
  have hS : Try.prog.underlying 32 = some (.struct (Try.prog.fieldsOf 32)) := by kernel_rfl
  have hp : Try.prog.stoodInHeld 32 = false := by kernel_rfl
  rw [run_eql_struct, show (10000 : Nat) = 9999 + 1 from rfl, run_equalIn_agg w 9999 32 _ _ hS hp]
  simp only [Program.fieldsOf, Try.underlying32]
  go_simp
  unfold eqR
  cases h1 : (x.user == y.user) <;> cases h2 : (x.ref.toList == y.ref.toList) <;> cases h3 : (x.path.toList == y.path.toList) <;> cases h4 : x.write <;> cases h5 : y.write <;> simp_all
theorem run_neR (w : World) (x y : RR) : (binOp .neq 32 (.agg #[.int .i64 x.user, .string x.ref, .string x.path, .bool x.write]) (.agg #[.int .i64 y.user, .string y.ref, .string y.path, .bool y.write])).run Try.prog w = .ok (.bool (!eqR x y)) w := by
  have h := run_eqR w x y
  rw [run_eql_struct] at h
  rw [run_neq_struct]
  revert h
  generalize (Op.equalIn 10000 32 (.agg #[.int .i64 x.user, .string x.ref, .string x.path, .bool x.write]) (.agg #[.int .i64 y.user, .string y.ref, .string y.path, .bool y.write])).run Try.prog w = r
  intro h
  cases r with
  | ok b w' => simp at h ⊢; exact ⟨by rw [h.1], h.2⟩
  | halt x w' => simp [Result.andThen] at h
theorem guardR : Try.prog.eqGuardType Try.prog.depth 32 = false := by kernel_rfl

theorem any_stepE {α : Type} (L : List α) (P : α → Bool) (j : Nat) (h : j < L.length) : (L.drop j).any P = (P L[j] || (L.drop (j + 1)).any P) := by
  rw [List.drop_eq_getElem_cons h]; rfl

set_option maxHeartbeats 1000000 in
theorem l5Same_any (A : Option Addr) (c : Nat) (L : List RR) (r : RR) (w : World) (hL : RdR w.heap.size w A L) (hn : L.length ≤ 1048576) :
    Calls Try.prog 41 #[.slice A L.length c, .agg #[.int .i64 r.user, .string r.ref, .string r.path, .bool r.write]] w fun e w' => e = .returned (.bool (L.any fun x => eqR x r)) ∧ Below w.heap.size w w' := by
  have HL : Hid (RdR w.heap.size w A L) := hL
  generalize hres : (L.any fun x => eqR x r) = res
  have HR : Hid ((L.any fun x => eqR x r) = res) := hres
  have gR := guardR
  clear hL hres
  go_enter Try.func41, Try.ntmps41
  go_wp2
  go_loopw [5] (fun iv wr => ∃ j : Nat, j ≤ L.length ∧ iv = .int .i64 j ∧ Hid (res = (L.drop j).any fun x => eqR x r) ∧ Below (w.heap.size + 1) (w.alloc (.cells #[.int .i64 r.user, .string r.ref, .string r.path, .bool r.write] 32)) wr) (fun i _ => L.length - (intOf i).toNat)
  case atStart => exact ⟨0, Nat.zero_le _, rfl, HR.out.symm, Below.refl _ _⟩
  case round =>
    obtain ⟨j, hj, rfl, HS, hb⟩ := hrel
    have hsz := hb.size
    simp only [World.size_alloc] at hsz
    have hbw : Below w.heap.size w wr := ((Below.refl _ w).alloc (Nat.le_refl _) _).trans (hb.mono (by omega))
    have HB : Hid (Below (w.heap.size + 1) (w.alloc (.cells #[.int .i64 r.user, .string r.ref, .string r.path, .bool r.write] 32)) wr) := hb
    have HW : Hid (Below w.heap.size w wr) := hbw
    by_cases hlt : j < L.length
    · obtain ⟨b, o, rfl, hbl, c1, c2, c3, c4⟩ := (HL.out.below hbw (Nat.le_refl _)) j hlt
      have est := HS.out.trans (any_stepE L _ j hlt)
      obtain ⟨d1, d2, d3, d4⟩ := (atR_new w r 32).below hb (Nat.lt_succ_self _)
      obtain ⟨x, hx⟩ : ∃ x, L[j] = x := ⟨_, rfl⟩
      rw [hx] at est c1 c2 c3 c4
      clear hx HS HR hb hbw
      have x1 : ∀ y : Ext wr, y.world.cell? ⟨b, o + j * 4, none⟩ = some (.int .i64 x.user) := fun y => y.cell c1
      have x2 : ∀ y : Ext wr, y.world.cell? ⟨b, o + j * 4 + 1, none⟩ = some (.string x.ref) := fun y => y.cell c2
      have x3 : ∀ y : Ext wr, y.world.cell? ⟨b, o + j * 4 + 2, none⟩ = some (.string x.path) := fun y => y.cell c3
      have x4 : ∀ y : Ext wr, y.world.cell? ⟨b, o + j * 4 + 3, none⟩ = some (.bool x.write) := fun y => y.cell c4
      have y1 : ∀ y : Ext wr, y.world.cell? ⟨w.heap.size, 0, none⟩ = some (.int .i64 r.user) := fun y => y.cell d1
      have y2 : ∀ y : Ext wr, y.world.cell? ⟨w.heap.size, 1, none⟩ = some (.string r.ref) := fun y => y.cell d2
      have y3 : ∀ y : Ext wr, y.world.cell? ⟨w.heap.size, 2, none⟩ = some (.string r.path) := fun y => y.cell d3
      have y4 : ∀ y : Ext wr, y.world.cell? ⟨w.heap.size, 3, none⟩ = some (.bool r.write) := fun y => y.cell d4
      have hne : Nonempty (Ext wr) := ⟨⟨wr, Below.refl _ _⟩⟩
      have req := fun v => run_eqR v x r
      clear c1 c2 c3 c4 d1 d2 d3 d4
      cases q0 : eqR x r
      · have HX : Hid (res = (L.drop (j + 1)).any fun x => eqR x r) := by have := est; rwa [q0, Bool.false_or] at this
        rw [q0] at req
        clear est q0
        go_wp2
        refine region_ext (by kernel_rfl) (by kernel_rfl) ?_
        repeat (go_big_quiet_step (fail))
        refine wpQuiet_nil ?_
        rintro _ ⟨y, rfl⟩
        have hb1 := y.below
        go_wp2
        go_roundw
        case rel => exact ⟨j + 1, by omega, by go_num, HX, HB.out.trans (hb1.mono (by omega))⟩
        case measure => simp [intOf]; omega
      · have HX : Hid (res = true) := by have := est; rwa [q0, Bool.true_or] at this
        rw [q0] at req
        clear est q0
        go_wp2
        refine region_ext (by kernel_rfl) (by kernel_rfl) ?_
        repeat (go_big_quiet_step (fail))
        refine wpQuiet_nil ?_
        rintro _ ⟨y, rfl⟩
        have hb1 := y.below
        go_wp2
        go_ret
        exact ⟨ret_bool HX.out.symm, HW.out.trans (hb1.mono (by omega))⟩
    · go_wp2
      go_ret
      obtain rfl : j = L.length := by omega
      have e := HS.out
      rw [List.drop_length] at e
      exact ⟨ret_bool e.symm, HW.out⟩
set_option maxHeartbeats 1000000 in
theorem indexR_any (A : Option Addr) (c : Nat) (L : List RR) (r : RR) (w : World) (hL : RdR w.heap.size w A L) (hn : L.length ≤ 1048576) :
    Calls Try.prog 58 #[.slice A L.length c, .agg #[.int .i64 r.user, .string r.ref, .string r.path, .bool r.write]] w fun e w' => (∃ i : Int, e = .returned (.int .i64 i) ∧ decide (0 ≤ i) = (L.any fun x => eqR x r)) ∧ Below w.heap.size w w' := by
  have HL : Hid (RdR w.heap.size w A L) := hL
  generalize hres : (L.any fun x => eqR x r) = res
  have HR : Hid ((L.any fun x => eqR x r) = res) := hres
  have gR := guardR
  clear hL hres
  go_enter Try.func58, Try.ntmps58
  go_wp2
  go_loopw [8] (fun iv wr => ∃ j : Nat, j ≤ L.length ∧ iv = .int .i64 j ∧ Hid (res = (L.drop j).any fun x => eqR x r) ∧ Below (w.heap.size + 1) (w.alloc (.cells #[.int .i64 r.user, .string r.ref, .string r.path, .bool r.write] 32)) wr) (fun i _ => L.length - (intOf i).toNat)
  case atStart => exact ⟨0, Nat.zero_le _, rfl, HR.out.symm, Below.refl _ _⟩
  case round =>
    obtain ⟨j, hj, rfl, HS, hb⟩ := hrel
    have hsz := hb.size
    simp only [World.size_alloc] at hsz
    have hbw : Below w.heap.size w wr := ((Below.refl _ w).alloc (Nat.le_refl _) _).trans (hb.mono (by omega))
    have HB : Hid (Below (w.heap.size + 1) (w.alloc (.cells #[.int .i64 r.user, .string r.ref, .string r.path, .bool r.write] 32)) wr) := hb
    have HW : Hid (Below w.heap.size w wr) := hbw
    by_cases hlt : j < L.length
    · obtain ⟨b, o, rfl, hbl, c1, c2, c3, c4⟩ := (HL.out.below hbw (Nat.le_refl _)) j hlt
      have est := HS.out.trans (any_stepE L _ j hlt)
      obtain ⟨d1, d2, d3, d4⟩ := (atR_new w r 32).below hb (Nat.lt_succ_self _)
      obtain ⟨x, hx⟩ : ∃ x, L[j] = x := ⟨_, rfl⟩
      rw [hx] at est c1 c2 c3 c4
      clear hx HS HR hb hbw
      have x1 : ∀ y : Ext wr, y.world.cell? ⟨b, o + j * 4, none⟩ = some (.int .i64 x.user) := fun y => y.cell c1
      have x2 : ∀ y : Ext wr, y.world.cell? ⟨b, o + j * 4 + 1, none⟩ = some (.string x.ref) := fun y => y.cell c2
      have x3 : ∀ y : Ext wr, y.world.cell? ⟨b, o + j * 4 + 2, none⟩ = some (.string x.path) := fun y => y.cell c3
      have x4 : ∀ y : Ext wr, y.world.cell? ⟨b, o + j * 4 + 3, none⟩ = some (.bool x.write) := fun y => y.cell c4
      have y1 : ∀ y : Ext wr, y.world.cell? ⟨w.heap.size, 0, none⟩ = some (.int .i64 r.user) := fun y => y.cell d1
      have y2 : ∀ y : Ext wr, y.world.cell? ⟨w.heap.size, 1, none⟩ = some (.string r.ref) := fun y => y.cell d2
      have y3 : ∀ y : Ext wr, y.world.cell? ⟨w.heap.size, 2, none⟩ = some (.string r.path) := fun y => y.cell d3
      have y4 : ∀ y : Ext wr, y.world.cell? ⟨w.heap.size, 3, none⟩ = some (.bool r.write) := fun y => y.cell d4
      have hne : Nonempty (Ext wr) := ⟨⟨wr, Below.refl _ _⟩⟩
      have req := fun v => run_eqR v r x
      rw [eqR_comm r x] at req
      clear c1 c2 c3 c4 d1 d2 d3 d4
      cases q0 : eqR x r
      · have HX : Hid (res = (L.drop (j + 1)).any fun x => eqR x r) := by have := est; rwa [q0, Bool.false_or] at this
        rw [q0] at req
        clear est q0
        go_wp2
        refine region_ext (by kernel_rfl) (by kernel_rfl) ?_
        repeat (go_big_quiet_step (fail))
        refine wpQuiet_nil ?_
        rintro _ ⟨y, rfl⟩
        have hb1 := y.below
        go_wp2
        go_roundw
        case rel => exact ⟨j + 1, by omega, by go_num, HX, HB.out.trans (hb1.mono (by omega))⟩
        case measure => simp [intOf]; omega
      · have HX : Hid (res = true) := by have := est; rwa [q0, Bool.true_or] at this
        rw [q0] at req
        clear est q0
        go_wp2
        refine region_ext (by kernel_rfl) (by kernel_rfl) ?_
        repeat (go_big_quiet_step (fail))
        refine wpQuiet_nil ?_
        rintro _ ⟨y, rfl⟩
        have hb1 := y.below
        go_wp2
        go_ret
        exact ⟨⟨_, rfl, by rw [HX.out]; simp⟩, HW.out.trans (hb1.mono (by omega))⟩
    · go_wp2
      go_ret
      obtain rfl : j = L.length := by omega
      have e := HS.out
      rw [List.drop_length] at e
      exact ⟨⟨_, rfl, by rw [e]; rfl⟩, HW.out⟩

set_option maxHeartbeats 1000000 in
theorem containsR_any (A : Option Addr) (c : Nat) (L : List RR) (r : RR) (w : World) (hL : RdR w.heap.size w A L) (hn : L.length ≤ 1048576) :
    Calls Try.prog 43 #[.slice A L.length c, .agg #[.int .i64 r.user, .string r.ref, .string r.path, .bool r.write]] w fun e w' => e = .returned (.bool (L.any fun x => eqR x r)) ∧ Below w.heap.size w w' := by
  have HL : Hid (RdR w.heap.size w A L) := hL
  generalize hres : (L.any fun x => eqR x r) = res
  have HR : Hid ((L.any fun x => eqR x r) = res) := hres
  clear hL hres
  go_enter Try.func43, Try.ntmps43
  go_wp2_with (go_at_call 58; refine (indexR_any A c L r _ ((HL.out.below ((Below.refl _ w).alloc (Nat.le_refl _) _) (Nat.le_refl _)).mono (by simp)) hn).mono ?_; rw [HR.out]; rintro e w1 ⟨⟨i, rfl, hi⟩, hb1⟩; have HI : Hid (decide (0 ≤ i) = res) := hi; clear hi)
  go_ret
  exact ⟨ret_bool HI.out, ((Below.refl _ _).alloc (Nat.le_refl _) _).trans (hb1.mono (by simp))⟩
end Go.Proofs.Ytmjmkgigopinbaa.W
