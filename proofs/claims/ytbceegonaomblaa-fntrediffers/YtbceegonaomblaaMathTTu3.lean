/-
  DrawTreUnder of the specification: few files, a short text.
  What a turned tree holds, by the places of the edits. (For the law on TreTurn.)
-/
import Derived.Test.YtbceegonaomblaaWalkDrawF
import Derived.Test.YtbceegonaomblaaMathTTu2
namespace Go.Proofs.Ytbceegonaomblaa.W
open Go.RowKit Go.Proofs.Ytbceegonaomblaa.M
set_option linter.unusedVariables false

set_option maxHeartbeats 4000000 in
set_option maxRecDepth 100000 in
theorem drawTreUnder_any (w : World) (a : Option Addr) (len cap : Nat) (zs : Nat → Int) (h : Src w a len cap zs) :
    Calls Try.prog 5 #[.slice a len cap] w fun e w' => (∃ (v : Value) (L : List TF) (p : ByteArray), e = .returned (.tuple #[v, .string p]) ∧ L.length ≤ 61 ∧ shortF L ∧ p.size ≤ 64 ∧ w'.ownsRow w.heap.size 51 2 v L.length (cellsF L)) ∧ Below w.heap.size w w' := by
  go_enter Try.func5, Try.ntmps5
  go_wp2_with (first
    | (go_at_call 22; refine (open_any _ a len cap zs h).mono ?_; rintro e w1 ⟨a', len', cap', rfl, hR1, hl1, hg1⟩)
    | (go_at_call 23; refine (anyFiles_any w1 w.heap.size 0 12 a' len' cap' zs hR1 (by omega) hl1 (by omega) (by omega)).mono ?_; rintro e w2 ⟨⟨v, L, rfl, hL, hS, O2⟩, g2, p2, hp2, R2⟩; have z2 := g2.size; have HS : Hid (shortF L) := hS; clear hS)
    | (go_at_call 24; refine (anyPath_any w2 w.heap.size p2 9 a' len' cap' zs R2 (by omega) (by omega) (by omega) (by omega)).mono ?_; rintro e w3 ⟨s, p3, rfl, hs, hp3, R3, g3⟩; have z3 := g3.size; have O3 := O2.kept g3 (ownNot O2 (by omega)); have G3 := gtrans g2 g3; clear O2 g2 g3 R2))
  go_ret2
  have HBB : Below w.heap.size w w3 := ((Below.refl _ _).grown hg1 (Nat.le_refl _) (fun k e => by cases e)).grown G3 (by omega) (fun k e => by cases e; exact Nat.le_refl _)
  exact ⟨⟨_, L, s, rfl, hL, HS.out, hs, ownsUpF O3 (by omega)⟩, HBB⟩
set_option maxHeartbeats 4000000 in
set_option maxRecDepth 100000 in
theorem drawTreDiffers_any (w : World) (a : Option Addr) (len cap : Nat) (zs : Nat → Int) (h : Src w a len cap zs) :
    Calls Try.prog 18 #[.slice a len cap] w fun e w' => (∃ (v u : Value) (L K : List TF), e = .returned (.tuple #[v, u]) ∧ L.length ≤ 61 ∧ shortF L ∧ K.length ≤ 61 ∧ shortF K ∧ w'.ownsRow w.heap.size 51 2 v L.length (cellsF L) ∧ w'.ownsRow w.heap.size 51 2 u K.length (cellsF K)) ∧ Below w.heap.size w w' := by
  have t1 : True := trivial
  go_enter Try.func18, Try.ntmps18
  go_wp2_with (first
    | (go_at_call 22; refine (open_any _ a len cap zs h).mono ?_; rintro e w1 ⟨a', len', cap', rfl, hR1, hl1, hg1⟩)
    | (go_at_call 23; have _t := t1; refine (anyFiles_any w1 w.heap.size 0 16 a' len' cap' zs hR1 (by omega) hl1 (by omega) (by omega)).mono ?_; rintro e w2 ⟨⟨v, L, rfl, hL, hS, O2⟩, g2, p2, hp2, R2⟩; have z2 := g2.size; have HS : Hid (shortF L) := hS; clear hS _t t1)
    | (go_at_call 37; refine (edits_any w2 w.heap.size p2 a' len' cap' zs R2 (by omega) (by omega)).mono ?_; rintro e w3 ⟨⟨u, E, rfl, hE1, hE4, hSE, Q3⟩, g3, p3, hp3, R3⟩; have z3 := g3.size; have HSE : Hid (short E) := hSE; have O3 := O2.kept g3 (ownNot O2 (by omega)); have G3 := gtrans g2 g3; obtain ⟨A2, c2, rfl, E3⟩ := rdE_of_own Q3; clear hSE O2 g2 g3 R2)
    | (go_at_call 36; refine (treTurn_spec v L A2 c2 E w3 O3 E3 (by omega) (by omega) (sizesF HS.out) (sizesE HSE.out)).mono ?_; rintro e w4 ⟨v4, rfl, o4, hb4⟩; have z4 := hb4.size; have R4 := rdBelow R3 hb4 (by omega); have O4 := ownsUnder O3 hb4 (Nat.le_refl _); have G4 : w1.grownBy w4 (some w.heap.size) := gtrans G3 (gBelow hb4); obtain ⟨r, hr⟩ : ∃ r, (turnT L E).isSome = r := ⟨_, rfl⟩; have HRR : Hid ((turnT L E).isSome = r) := hr; rw [hr]; clear hr O3 R3 G3 hb4; cases r))
  · go_wp2_with (first
      | (go_at_call 23; refine (anyFiles_any w4 w.heap.size p3 16 a' len' cap' zs R4 (by omega) (by omega) (by omega) (by omega)).mono ?_; rintro e w5 ⟨⟨u, K, rfl, hK, hSK, O5⟩, g5, p5, hp5, R5⟩; have z5 := g5.size; have HSK : Hid (shortF K) := hSK; have O6 := O4.kept g5 (ownNot O4 (by omega)); have G5 := gtrans G4 g5; clear hSK O4 G4 g5))
    go_ret2
    have HBB : Below w.heap.size w w5 := ((Below.refl _ _).grown hg1 (Nat.le_refl _) (fun k e => by cases e)).grown G5 (by omega) (fun k e => by cases e; exact Nat.le_refl _)
    exact ⟨⟨_, _, L, K, rfl, hL, HS.out, hK, HSK.out, ownsUpF O6 (by omega), ownsUpF O5 (by omega)⟩, HBB⟩
  · go_ret2
    obtain ⟨K, hK⟩ := Option.isSome_iff_exists.1 HRR.out
    have e1 : turnL L E = K := by unfold turnL; rw [hK]; rfl
    rw [e1] at o4
    have HBB : Below w.heap.size w w4 := ((Below.refl _ _).grown hg1 (Nat.le_refl _) (fun k e => by cases e)).grown G4 (by omega) (fun k e => by cases e; exact Nat.le_refl _)
    have hm := turnT_mem L K E hK
    exact ⟨⟨_, _, L, K, rfl, hL, HS.out, Nat.le_trans (okT_rise K hm.1).2 (by omega), fun y hy => by
      rcases hm.2.2.2 y hy with hy | ⟨e, he, rfl⟩
      · exact HS.out y hy
      · exact HSE.out e he, ownsUpF O4 (by omega), ownsUpF o4 (by omega)⟩, HBB⟩
end Go.Proofs.Ytbceegonaomblaa.W
namespace Go.Proofs.Ytbceegonaomblaa.W
open Go.RowKit Go.Proofs.Ytbceegonaomblaa.M

def mineAt (E : List TE) (q : ByteArray) (k : Nat) : Prop := ∃ n, ∃ h : n < E.length, n < k ∧ (E[n]).pa = q
def lastAt (E : List TE) (q : ByteArray) (i k : Nat) : Prop := ∀ n (h : n < E.length), i < n → n < k → (E[n]).pa ≠ q
theorem mine_yes {E : List TE} {q : ByteArray} {k : Nat} (h : mineAt E q k) : mineAt E q (k + 1) := by
  obtain ⟨n, h1, h2, h3⟩ := h
  exact ⟨n, h1, by omega, h3⟩
theorem mine_here {E : List TE} {q : ByteArray} {k : Nat} (hk : k < E.length) (h : (E[k]).pa = q) : mineAt E q (k + 1) := ⟨k, hk, by omega, h⟩
theorem mine_not {E : List TE} {q : ByteArray} {k : Nat} (hk : k < E.length) (hm : ¬ mineAt E q k) (h : (E[k]).pa ≠ q) : ¬ mineAt E q (k + 1) := fun ⟨n, h1, h2, h3⟩ => by
  by_cases e : n = k
  · subst e; exact h h3
  · exact hm ⟨n, h1, by omega, h3⟩
theorem last_no {E : List TE} {q : ByteArray} {i k : Nat} (h : ¬ lastAt E q i k) : ¬ lastAt E q i (k + 1) := fun H => h fun n h1 h2 h3 => H n h1 h2 (by omega)
theorem last_here {E : List TE} {q : ByteArray} {i k : Nat} (hk : k < E.length) (hik : i < k) (h : (E[k]).pa = q) : ¬ lastAt E q i (k + 1) := fun H => H k hk hik (by omega) h
theorem last_on {E : List TE} {q : ByteArray} {i k : Nat} (hk : k < E.length) (hm : lastAt E q i k) (h : (E[k]).pa ≠ q) : lastAt E q i (k + 1) := fun n h1 h2 h3 => by
  by_cases e : n = k
  · subst e; exact h
  · exact hm n h1 h2 (by omega)

def tells (m : Bool) (P : Prop) : Prop := m = true ↔ P
theorem tell_f {P : Prop} (h : ¬ P) : Hid (tells false P) := (show _ ↔ _ from ⟨fun e => (by cases e), fun hp => absurd hp h⟩)
theorem tell_t {P : Prop} (h : P) : Hid (tells true P) := (show _ ↔ _ from ⟨fun _ => h, fun _ => rfl⟩)
theorem told_f {P : Prop} (h : Hid (tells false P)) : ¬ P := fun hp => by
  have h' : false = true ↔ P := h
  exact absurd (h'.2 hp) (by simp)
theorem told_t {P : Prop} (h : Hid (tells true P)) : P := by
  have h' : true = true ↔ P := h
  exact h'.1 rfl
theorem mine_none (E : List TE) (q : ByteArray) : ¬ mineAt E q 0 := fun ⟨n, _, h2, _⟩ => by omega
theorem last_all (E : List TE) (q : ByteArray) (i : Nat) : lastAt E q i (i + 1) := fun n _ h2 h3 => by omega

theorem keep1 {L K : List TF} {E : List TE} (hT : turnT L E = some K) {q t : ByteArray} (hf : findF L q = some t) (m : Bool) (hm : m = true ↔ mineAt E q E.length) :
    ∃ (s : ByteArray) (th : Bool), findV K q = .tuple #[.string s, .bool th] ∧ (m = false → th = true ∧ s = t) := by
  obtain ⟨_, hoL, hta, _⟩ := turnT_mem L K E hT
  have hr := (okT_rise L hoL).1
  have hk := turnAll_find L K (edOf E) hr hta q
  cases m
  · have hn : lastE (edOf E) q = none := (lastE_none _ _).2 fun e he h => by
      obtain ⟨x, hx, rfl⟩ := List.mem_map.1 he
      obtain ⟨n, hn, rfl⟩ := List.mem_iff_getElem.1 hx
      exact absurd (hm.2 ⟨n, hn, hn, h⟩) (by simp)
    rw [hn] at hk
    have hk' : findF K q = some t := hk.trans hf
    exact ⟨t, true, by unfold findV; rw [hk'], fun _ => ⟨rfl, rfl⟩⟩
  · cases hf2 : findF K q with
    | none => exact ⟨ByteArray.empty, false, by unfold findV; rw [hf2], fun h => by cases h⟩
    | some s => exact ⟨s, true, by unfold findV; rw [hf2], fun h => by cases h⟩
theorem keep2 {L K : List TF} {E : List TE} (hT : turnT L E = some K) (i : Nat) (hi : i < E.length) (m : Bool) (hm : m = true ↔ lastAt E (E[i]).pa i E.length) :
    ∃ (s : ByteArray) (th : Bool), findV K (E[i]).pa = .tuple #[.string s, .bool th] ∧ (m = true → th = !(E[i]).gone ∧ s = (E[i]).by_) := by
  obtain ⟨_, hoL, hta, _⟩ := turnT_mem L K E hT
  have hr := (okT_rise L hoL).1
  have hk := turnAll_find L K (edOf E) hr hta (E[i]).pa
  cases m
  · cases hf2 : findF K (E[i]).pa with
    | none => exact ⟨ByteArray.empty, false, by unfold findV; rw [hf2], fun h => by cases h⟩
    | some s => exact ⟨s, true, by unfold findV; rw [hf2], fun h => by cases h⟩
  · have hlen : (edOf E).length = E.length := by simp [edOf]
    have hat : ∀ n (h : n < E.length), (edOf E)[n]'(by omega) = ((E[n]).gone, (E[n]).pa, (E[n]).by_) := fun n h => by simp [edOf]
    have hl := lastE_at (edOf E) i (by omega) (fun k hk hik => by
      rw [hat k (by omega), hat i hi]; exact hm.1 rfl k (by omega) hik (by omega))
    rw [hat i hi] at hl
    simp only at hl
    rw [hl] at hk
    simp only at hk
    cases hg : (E[i]).gone
    · rw [hg] at hk
      have hk' : findF K (E[i]).pa = some (E[i]).by_ := by simpa using hk
      exact ⟨(E[i]).by_, true, by unfold findV; rw [hk'], fun _ => ⟨rfl, rfl⟩⟩
    · rw [hg] at hk
      have hk' : findF K (E[i]).pa = none := by simpa using hk
      have he := turnAll_gone L K (edOf E) hta ((E[i]).gone, (E[i]).pa, (E[i]).by_) (List.mem_map.2 ⟨E[i], List.getElem_mem hi, rfl⟩) hg
      exact ⟨ByteArray.empty, false, by unfold findV; rw [hk'], fun _ => ⟨rfl, he.symm⟩⟩
theorem hid2 {p : Prop} (h : p) : Hid p := h
theorem keptB {w w' : World} {base n z : Nat} {e : TypeId} {v : Value} {xs : List Value} (h : w.ownsRow base e z v n xs) (hb : Below w.heap.size w w') : w'.ownsRow base e z v n xs :=
  h.kept (row := none) (gBelow hb) (by cases v.ownBlock <;> simp)
theorem shortK {L K : List TF} {E : List TE} (hT : turnT L E = some K) (h : shortF L) (hE : short E) : shortF K := fun y hy => by
  obtain ⟨_, _, _, hm⟩ := turnT_mem L K E hT
  rcases hm y hy with hy | ⟨e, he, rfl⟩
  · exact h y hy
  · exact hE e he
theorem turn_none {w w' : World} {L : List TF} {E : List TE} {e : Ending} {ty : TypeId} (hT : turnT L E = none) (h : ∃ v', e = .returned (.tuple #[v', .bool (turnT L E).isSome]) ∧ w'.ownsRow w.heap.size ty 2 v' (turnL L E).length (cellsF (turnL L E)) ∧ Below w.heap.size w w') :
    ∃ A c, e = .returned (.tuple #[.slice A 0 c, .bool false]) ∧ Below w.heap.size w w' := by
  obtain ⟨v, rfl, O, hb⟩ := h
  obtain ⟨A, c, rfl, _⟩ := rdF_of_own O
  have e1 : turnL L E = [] := by unfold turnL; rw [hT]; rfl
  rw [hT, e1]
  exact ⟨A, c, rfl, hb⟩
theorem turn_some {w w' : World} {L K : List TF} {E : List TE} {e : Ending} {ty : TypeId} (hT : turnT L E = some K) (h : ∃ v', e = .returned (.tuple #[v', .bool (turnT L E).isSome]) ∧ w'.ownsRow w.heap.size ty 2 v' (turnL L E).length (cellsF (turnL L E)) ∧ Below w.heap.size w w') :
    ∃ A c, e = .returned (.tuple #[.slice A K.length c, .bool true]) ∧ RdF w'.heap.size w' A K ∧ Below w.heap.size w w' := by
  obtain ⟨v, rfl, O, hb⟩ := h
  have e1 : turnL L E = K := by unfold turnL; rw [hT]; rfl
  rw [e1] at O
  obtain ⟨A, c, rfl, rd⟩ := rdF_of_own O
  rw [hT]
  exact ⟨A, c, rfl, rd, hb⟩
end Go.Proofs.Ytbceegonaomblaa.W
