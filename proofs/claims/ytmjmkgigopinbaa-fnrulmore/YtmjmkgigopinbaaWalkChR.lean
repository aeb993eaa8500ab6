
/-
  Rules without one are as ok as they were, and stand in their order; two lists that read the same are told to be the same. At most 1048576 rules.
-/
import Derived.Test.YtmjmkgigopinbaaWalkRulQ
namespace Go.Proofs.Ytmjmkgigopinbaa.W
open Go.RowKit Go.Proofs.Ytmjmkgigopinbaa.M

theorem okR_iff (L : List RR) : okR L = true ↔ L.length ≤ 6 ∧ (∀ x ∈ L, rulB x = true) ∧ L.Pairwise fun a b => eqR a b = false := by
  have key : (∀ i, i < L.length → gR L i = true) ↔ (∀ x ∈ L, rulB x = true) ∧ L.Pairwise fun a b => eqR a b = false := by
    rw [List.pairwise_iff_getElem]
    constructor
    · intro h
      refine ⟨fun x hx => ?_, fun i j hi hj hij => ?_⟩
      · obtain ⟨i, hi, rfl⟩ := List.mem_iff_getElem.1 hx
        have := h i hi
        rw [gR_at L i hi, Bool.and_eq_true] at this
        exact this.1
      · have := h j hj
        rw [gR_at L j hj, Bool.and_eq_true, Bool.not_eq_true'] at this
        have h2 := List.any_eq_false.1 this.2 L[i] (List.mem_iff_getElem.2 ⟨i, by simp; omega, by simp⟩)
        simpa using h2
    · rintro ⟨h1, h2⟩ j hj
      rw [gR_at L j hj, Bool.and_eq_true, Bool.not_eq_true']
      refine ⟨h1 _ (List.getElem_mem hj), List.any_eq_false.2 fun y hy => ?_⟩
      obtain ⟨i, hi, rfl⟩ := List.mem_iff_getElem.1 hy
      rw [List.length_take] at hi
      rw [List.getElem_take, h2 i j (by omega) hj (by omega)]
      decide
  rw [← key]
  unfold okR
  rw [Bool.and_eq_true, decide_eq_true_eq, List.all_eq_true]
  constructor
  · rintro ⟨h1, h2⟩; exact ⟨h1, fun i hi => h2 i (List.mem_range.2 hi)⟩
  · rintro ⟨h1, h2⟩; exact ⟨h1, fun i hi => h2 i (List.mem_range.1 hi)⟩
theorem okR_out (L : List RR) (r : RR) (h : okR L = true) : okR (outR L r) = true := by
  obtain ⟨h1, h2, h3⟩ := (okR_iff L).1 h
  exact (okR_iff _).2 ⟨Nat.le_trans (List.length_filter_le _ _) h1, fun x hx => h2 x ((List.mem_filter.1 hx).1), h3.filter _⟩
theorem outR_le (L : List RR) (r : RR) : (outR L r).length ≤ L.length := List.length_filter_le _ _
theorem outR_mem {L : List RR} {r x : RR} (h : x ∈ outR L r) : x ∈ L := (List.mem_filter.1 h).1
/-- the next rule that stays stands behind those that stayed -/
theorem outR_at (L : List RR) (r : RR) (j : Nat) (h : j < L.length) (hq : eqR L[j] r = false) : ∃ hd : (outR (L.take j) r).length < (outR L r).length, (outR L r)[(outR (L.take j) r).length] = L[j] := by
  have e : outR L r = outR (L.take j) r ++ (L[j] :: outR (L.drop (j + 1)) r) := by
    conv => lhs; rw [← List.take_append_drop j L, List.drop_eq_getElem_cons h]
    unfold outR
    rw [List.filter_append, List.filter_cons, if_pos (by rw [hq]; rfl)]
  refine ⟨by rw [e]; simp, ?_⟩
  simp only [e]
  simp
theorem outR_snoc (L : List RR) (r : RR) (h : (L.any fun x => eqR x r) = false) : outR (L ++ [r]) r = L := by
  unfold outR
  rw [List.filter_append, List.filter_cons, if_neg (by rw [eqR_self]; decide)]
  simp only [List.filter_nil, List.append_nil]
  rw [List.filter_eq_self]
  intro x hx
  have := List.any_eq_false.1 h x hx
  cases h2 : eqR x r
  · rfl
  · exact absurd h2 this

set_option maxHeartbeats 1000000 in
theorem chRules_same (A1 A2 : Option Addr) (c1 c2 : Nat) (L : List RR) (w : World) (hL : RdR w.heap.size w A1 L) (hM : RdR w.heap.size w A2 L) (hn : L.length ≤ 1048576) :
    Calls Try.prog 17 #[.slice A1 L.length c1, .slice A2 L.length c2] w fun e w' => e = .returned (.bool true) ∧ Below w.heap.size w w' := by
  have HL : Hid (RdR w.heap.size w A1 L) := hL
  have HM : Hid (RdR w.heap.size w A2 L) := hM
  clear hL hM
  have gR := guardR
  go_enter Try.func17, Try.ntmps17
  go_wp2
  go_loopw [5] (fun iv wr => ∃ j : Nat, j ≤ L.length ∧ iv = .int .i64 j ∧ Below w.heap.size w wr) (fun i _ => L.length - (intOf i).toNat)
  case atStart => exact ⟨0, Nat.zero_le _, rfl, Below.refl _ _⟩
  case round =>
    obtain ⟨j, hj, rfl, hb⟩ := hrel
    have hsz := hb.size
    by_cases hlt : j < L.length
    · obtain ⟨b, o, rfl, hbl, p1, p2, p3, p4⟩ := (HL.out.below hb (Nat.le_refl _)) j hlt
      obtain ⟨b', o', rfl, hbl', q1, q2, q3, q4⟩ := (HM.out.below hb (Nat.le_refl _)) j hlt
      obtain ⟨x, hx⟩ : ∃ x, L[j] = x := ⟨_, rfl⟩
      rw [hx] at p1 p2 p3 p4 q1 q2 q3 q4
      clear hx
      have x1 : ∀ y : Ext wr, y.world.cell? ⟨b, o + j * 4, none⟩ = some (.int .i64 x.user) := fun y => y.cell p1
      have x2 : ∀ y : Ext wr, y.world.cell? ⟨b, o + j * 4 + 1, none⟩ = some (.string x.ref) := fun y => y.cell p2
      have x3 : ∀ y : Ext wr, y.world.cell? ⟨b, o + j * 4 + 2, none⟩ = some (.string x.path) := fun y => y.cell p3
      have x4 : ∀ y : Ext wr, y.world.cell? ⟨b, o + j * 4 + 3, none⟩ = some (.bool x.write) := fun y => y.cell p4
      have y1 : ∀ y : Ext wr, y.world.cell? ⟨b', o' + j * 4, none⟩ = some (.int .i64 x.user) := fun y => y.cell q1
      have y2 : ∀ y : Ext wr, y.world.cell? ⟨b', o' + j * 4 + 1, none⟩ = some (.string x.ref) := fun y => y.cell q2
      have y3 : ∀ y : Ext wr, y.world.cell? ⟨b', o' + j * 4 + 2, none⟩ = some (.string x.path) := fun y => y.cell q3
      have y4 : ∀ y : Ext wr, y.world.cell? ⟨b', o' + j * 4 + 3, none⟩ = some (.bool x.write) := fun y => y.cell q4
      have hne : Nonempty (Ext wr) := ⟨⟨wr, Below.refl _ _⟩⟩
      have req := fun v => run_neR v x x
      rw [eqR_self] at req
      clear p1 p2 p3 p4 q1 q2 q3 q4
      go_wp2
      refine region_ext (by kernel_rfl) (by kernel_rfl) ?_
      repeat (go_big_quiet_step (fail))
      refine wpQuiet_nil ?_
      rintro _ ⟨y, rfl⟩
      have hb1 := y.below
      go_wp2
      go_roundw
      case rel => exact ⟨j + 1, by omega, by go_num, hb.trans (hb1.mono (by omega))⟩
      case measure => simp [intOf]; omega
    · go_wp2
      go_ret
      exact ⟨rfl, hb⟩
end Go.Proofs.Ytmjmkgigopinbaa.W
