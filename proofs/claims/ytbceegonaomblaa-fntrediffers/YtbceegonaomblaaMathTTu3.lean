
/-
  What a turned tree holds, by the places of the edits. (For the law on TreTurn.)
-/
import Derived.Test.YtbceegonaomblaaWalkDrawF
import Derived.Test.YtbceegonaomblaaMathTTu2
namespace Go.Proofs.Ytbceegonaomblaa.W
open Go.RowKit Go.Proofs.Ytbceegonaomblaa.M

def mineAt (E : List TE) (q : ByteArray) (k : Nat) : Prop := ∃ n, ∃ h : n < E.length, n < k ∧ (E[n]).pa = q
def lastAt (E : List TE) (q : ByteArray) (i k : Nat) : Prop := ∀ n (h : n < E.length), i < n → n < k → (E[n]).pa ≠ q
theorem mine_yes {E : List TE} {q : ByteArray} {k : Nat} (h : mineAt E q k) : mineAt E q (k + 1) := by
  obtain ⟨n, h1, h2, h3⟩ := h
  exact ⟨n, h1, by omega, h3⟩
theorem mine_here {E : List TE} {q : ByteArray} {k : Nat} (hk : k < E.length) (h : (E[k]).pa = q) : mineAt E q (k + 1) := ⟨k, hk, by omega, h⟩
theorem mine_not {E : List TE} {q : ByteArray} {k : Nat} (hk : k < E.length) (hm : ¬ mineAt E q k) (h : (E[k]).pa ≠ q) : ¬ mineAt E q (k + 1) := fun ⟨n, h1, h2, h3⟩ => by
  by_cases e : n = k
  · subst e; exact h h3
  · exact hm ⟨n, h1, by omega, h3⟩
theorem last_no {E : List TE} {q : ByteArray} {i k : Nat} (h : ¬ lastAt E q i k) : ¬ lastAt E q i (k + 1) := fun H => h fun n h1 h2 h3 => H n h1 h2 (by omega)
theorem last_here {E : List TE} {q : ByteArray} {i k : Nat} (hk : k < E.length) (hik : i < k) (h : (E[k]).pa = q) : ¬ lastAt E q i (k + 1) := fun H => H k hk hik (by omega) h
theorem last_on {E : List TE} {q : ByteArray} {i k : Nat} (hk : k < E.length) (hm : lastAt E q i k) (h : (E[k]).pa ≠ q) : lastAt E q i (k + 1) := fun n h1 h2 h3 => by
  by_cases e : n = k
  · subst e; exact h
  · exact hm n h1 h2 (by omega)

def tells (m : Bool) (P : Prop) : Prop := m = true ↔ P
theorem tell_f {P : Prop} (h : ¬ P) : Hid (tells false P) := (show _ ↔ _ from ⟨fun e => (by cases e), fun hp => absurd hp h⟩)
theorem tell_t {P : Prop} (h : P) : Hid (tells true P) := (show _ ↔ _ from ⟨fun _ => h, fun _ => rfl⟩)
theorem told_f {P : Prop} (h : Hid (tells false P)) : ¬ P := fun hp => by
  have h' : false = true ↔ P := h
  exact absurd (h'.2 hp) (by simp)
theorem told_t {P : Prop} (h : Hid (tells true P)) : P := by
  have h' : true = true ↔ P := h
  exact h'.1 rfl
theorem mine_none (E : List TE) (q : ByteArray) : ¬ mineAt E q 0 := fun ⟨n, _, h2, _⟩ => by omega
theorem last_all (E : List TE) (q : ByteArray) (i : Nat) : lastAt E q i (i + 1) := fun n _ h2 h3 => by omega

theorem keep1 {L K : List TF} {E : List TE} (hT : turnT L E = some K) {q t : ByteArray} (hf : findF L q = some t) (m : Bool) (hm : m = true ↔ mineAt E q E.length) :
    ∃ (s : ByteArray) (th : Bool), findV K q = .tuple #[.string s, .bool th] ∧ (m = false → th = true ∧ s = t) := by
  obtain ⟨_, hoL, hta, _⟩ := turnT_mem L K E hT
  have hr := (okT_rise L hoL).1
  have hk := turnAll_find L K (edOf E) hr hta q
  cases m
  · have hn : lastE (edOf E) q = none := (lastE_none _ _).2 fun e he h => by
      obtain ⟨x, hx, rfl⟩ := List.mem_map.1 he
      obtain ⟨n, hn, rfl⟩ := List.mem_iff_getElem.1 hx
      exact absurd (hm.2 ⟨n, hn, hn, h⟩) (by simp)
    rw [hn] at hk
    have hk' : findF K q = some t := hk.trans hf
    exact ⟨t, true, by unfold findV; rw [hk'], fun _ => ⟨rfl, rfl⟩⟩
  · cases hf2 : findF K q with
    | none => exact ⟨ByteArray.empty, false, by unfold findV; rw [hf2], fun h => by cases h⟩
    | some s => exact ⟨s, true, by unfold findV; rw [hf2], fun h => by cases h⟩
theorem keep2 {L K : List TF} {E : List TE} (hT : turnT L E = some K) (i : Nat) (hi : i < E.length) (m : Bool) (hm : m = true ↔ lastAt E (E[i]).pa i E.length) :
    ∃ (s : ByteArray) (th : Bool), findV K (E[i]).pa = .tuple #[.string s, .bool th] ∧ (m = true → th = !(E[i]).gone ∧ s = (E[i]).by_) := by
  obtain ⟨_, hoL, hta, _⟩ := turnT_mem L K E hT
  have hr := (okT_rise L hoL).1
  have hk := turnAll_find L K (edOf E) hr hta (E[i]).pa
  cases m
  · cases hf2 : findF K (E[i]).pa with
    | none => exact ⟨ByteArray.empty, false, by unfold findV; rw [hf2], fun h => by cases h⟩
    | some s => exact ⟨s, true, by unfold findV; rw [hf2], fun h => by cases h⟩
  · have hlen : (edOf E).length = E.length := by simp [edOf]
    have hat : ∀ n (h : n < E.length), (edOf E)[n]'(by omega) = ((E[n]).gone, (E[n]).pa, (E[n]).by_) := fun n h => by simp [edOf]
    have hl := lastE_at (edOf E) i (by omega) (fun k hk hik => by
      rw [hat k (by omega), hat i hi]; exact hm.1 rfl k (by omega) hik (by omega))
    rw [hat i hi] at hl
    simp only at hl
    rw [hl] at hk
    simp only at hk
    cases hg : (E[i]).gone
    · rw [hg] at hk
      have hk' : findF K (E[i]).pa = some (E[i]).by_ := by simpa using hk
      exact ⟨(E[i]).by_, true, by unfold findV; rw [hk'], fun _ => ⟨rfl, rfl⟩⟩
    · rw [hg] at hk
      have hk' : findF K (E[i]).pa = none := by simpa using hk
      have he := turnAll_gone L K (edOf E) hta ((E[i]).gone, (E[i]).pa, (E[i]).by_) (List.mem_map.2 ⟨E[i], List.getElem_mem hi, rfl⟩) hg
      exact ⟨ByteArray.empty, false, by unfold findV; rw [hk'], fun _ => ⟨rfl, he.symm⟩⟩
theorem hid2 {p : Prop} (h : p) : Hid p := h
theorem keptB {w w' : World} {base n z : Nat} {e : TypeId} {v : Value} {xs : List Value} (h : w.ownsRow base e z v n xs) (hb : Below w.heap.size w w') : w'.ownsRow base e z v n xs :=
  h.kept (row := none) (gBelow hb) (by cases v.ownBlock <;> simp)
theorem shortK {L K : List TF} {E : List TE} (hT : turnT L E = some K) (h : shortF L) (hE : short E) : shortF K := fun y hy => by
  obtain ⟨_, _, _, hm⟩ := turnT_mem L K E hT
  rcases hm y hy with hy | ⟨e, he, rfl⟩
  · exact h y hy
  · exact hE e he
theorem turn_none {w w' : World} {L : List TF} {E : List TE} {e : Ending} {ty : TypeId} (hT : turnT L E = none) (h : ∃ v', e = .returned (.tuple #[v', .bool (turnT L E).isSome]) ∧ w'.ownsRow w.heap.size ty 2 v' (turnL L E).length (cellsF (turnL L E)) ∧ Below w.heap.size w w') :
    ∃ A c, e = .returned (.tuple #[.slice A 0 c, .bool false]) ∧ Below w.heap.size w w' := by
  obtain ⟨v, rfl, O, hb⟩ := h
  obtain ⟨A, c, rfl, _⟩ := rdF_of_own O
  have e1 : turnL L E = [] := by unfold turnL; rw [hT]; rfl
  rw [hT, e1]
  exact ⟨A, c, rfl, hb⟩
theorem turn_some {w w' : World} {L K : List TF} {E : List TE} {e : Ending} {ty : TypeId} (hT : turnT L E = some K) (h : ∃ v', e = .returned (.tuple #[v', .bool (turnT L E).isSome]) ∧ w'.ownsRow w.heap.size ty 2 v' (turnL L E).length (cellsF (turnL L E)) ∧ Below w.heap.size w w') :
    ∃ A c, e = .returned (.tuple #[.slice A K.length c, .bool true]) ∧ RdF w'.heap.size w' A K ∧ Below w.heap.size w w' := by
  obtain ⟨v, rfl, O, hb⟩ := h
  have e1 : turnL L E = K := by unfold turnL; rw [hT]; rfl
  rw [e1] at O
  obtain ⟨A, c, rfl, rd⟩ := rdF_of_own O
  rw [hT]
  exact ⟨A, c, rfl, rd, hb⟩
end Go.Proofs.Ytbceegonaomblaa.W
