
/-
  A region that draws its order: the first operations each with a slot of their own, leaving what was there as it was; the last three behind all others, one behind the other. No condition but those named.
-/
import Derived.Test.YtknbmgdfcejlkaaMathPut
namespace Go.Proofs.Ytknbmgdfcejlkaa.W
open Go.RowKit

theorem region_tail3 {P : Program} {id : Nat} {ops : Array Oper} {Q : Exit → Act → World → Prop} {a : Act} {w : World}
    (n ntm : Nat) (slotOf : Nat → Nat) (fix : List Nat) (T : Nat → Value → World → Prop) (hn : ops.size = n + 3)
    (hm : P.follows .mixedOrders = true) (hB : ∀ i o, ops[i]? = some o → ∀ e ∈ o.after, Region.binds .any e = true → e.on < i)
    (hsz : a.tmps.size = ntm) (hdf : a.defers = [])
    (hT : ∀ i v w1 w2, i < n → T i v w1 → Below w1.heap.size w1 w2 → T i v w2)
    (hinj : ∀ i, i < n → ∀ j, j < n → slotOf i = slotOf j → i = j)
    (hslot : ∀ i, i < n → slotOf i < ntm ∧ ∀ s ∈ fix, slotOf i ≠ s)
    (hall : ∀ S : Nat → Prop, (∀ k ok, ops[k]? = some ok → S k → ∀ e ∈ ok.after, Region.binds .any e = true → S e.on) → (∀ ol, ops[n]? = some ol → ∀ e ∈ ol.after, Region.binds .any e = true → S e.on) → ∀ i, i < n → S i)
    (hall1 : ∀ ol, ops[n + 1]? = some ol → ∃ e ∈ ol.after, Region.binds .any e = true ∧ e.on = n)
    (hall2 : ∀ ol, ops[n + 2]? = some ol → ∃ e ∈ ol.after, Region.binds .any e = true ∧ e.on = n + 1)
    (hop : ∀ i o, ops[i]? = some o → i < n → ∀ (a1 : Act) (w1 : World), (∀ s ∈ fix, a1.tmps[s]?.getD undef = a.tmps[s]?.getD undef) →
      (∀ e ∈ o.after, Region.binds .any e = true → T e.on (a1.tmps[slotOf e.on]?.getD undef) w1) → Below w.heap.size w w1 →
      wpOp P ops Q i (fun a' w' => ∃ v, a' = a1.put (some (slotOf i)) v ∧ T i v w' ∧ Below w1.heap.size w1 w') a1 w1)
    (hlast : ∀ (y : Nat → Value) (w2 : World), Below w.heap.size w w2 → (∀ i, i < n → T i (y (slotOf i)) w2) → (∀ s ∈ fix, y s = a.tmps[s]?.getD undef) →
      wpOp P ops Q n (fun a3 w3 => wpOp P ops Q (n + 1) (fun a4 w4 => wpOp P ops Q (n + 2) (Q .normal) a4 w4) a3 w3) ⟨((List.range ntm).map y).toArray, []⟩ w2) : (Code.region id ops true).wp P Q a w := by
  refine region_inv (fun S _ a1 w1 => (S (n + 2) → Q .normal a1 w1) ∧ (¬ S (n + 2) → S (n + 1) → wpOp P ops Q (n + 2) (Q .normal) a1 w1) ∧ (¬ S (n + 1) → S n → wpOp P ops Q (n + 1) (fun a4 w4 => wpOp P ops Q (n + 2) (Q .normal) a4 w4) a1 w1) ∧ (¬ S n → a1.tmps.size = ntm ∧ a1.defers = [] ∧ (∀ s ∈ fix, a1.tmps[s]?.getD undef = a.tmps[s]?.getD undef) ∧ Below w.heap.size w w1 ∧ ∀ k, S k → k < n → T k (a1.tmps[slotOf k]?.getD undef) w1)) hm hB ⟨fun h => h.elim, fun _ h => h.elim, fun _ h => h.elim, fun _ => ⟨hsz, hdf, fun _ _ => rfl, (Below.refl _ w).drew, fun _ h => h.elim⟩⟩ ?_ ?_
  · intro i o ho S m a1 w1 hm1 ⟨_, hK2, hK1, hJ⟩ hni _ hA hD
    have hi : i < ops.size := (Array.getElem?_eq_some_iff.1 ho).1
    have o0 : ops[n]? = some ops[n] := Array.getElem?_eq_getElem (by omega)
    have o1 : ops[n + 1]? = some ops[n + 1] := Array.getElem?_eq_getElem (by omega)
    have o2 : ops[n + 2]? = some ops[n + 2] := Array.getElem?_eq_getElem (by omega)
    have s21 : S (n + 2) → S (n + 1) := fun s => by
      obtain ⟨x, hx, hb, hon⟩ := hall2 _ o2
      have := hD _ _ o2 s x hx hb
      rwa [hon] at this
    have s10 : S (n + 1) → S n := fun s => by
      obtain ⟨x, hx, hb, hon⟩ := hall1 _ o1
      have := hD _ _ o1 s x hx hb
      rwa [hon] at this
    have s0 : S n → ∀ i, i < n → S i := fun s => hall S hD (fun ol hol e he hb => hD n ol hol s e he hb)
    by_cases e2 : i = n + 2
    · subst e2
      obtain ⟨x, hx, hb, hon⟩ := hall2 o ho
      have hs := hA x hx hb
      rw [hon] at hs
      refine wpOp_mono (fun a' w' h => ?_) (hK2 hni hs)
      exact ⟨fun _ => h, fun h2 => absurd (.inr rfl) h2, fun h2 => absurd (.inl hs) h2, fun h2 => absurd (.inl (s10 hs)) h2⟩
    have n2 : ¬ S (n + 2) := fun s => by
      by_cases e1 : i = n + 1
      · subst e1; exact hni (s21 s)
      · by_cases e0 : i = n
        · subst e0; exact hni (s10 (s21 s))
        · exact hni (s0 (s10 (s21 s)) i (by omega))
    by_cases e1 : i = n + 1
    · subst e1
      obtain ⟨x, hx, hb, hon⟩ := hall1 o ho
      have hs := hA x hx hb
      rw [hon] at hs
      refine wpOp_mono (fun a' w' h => ?_) (hK1 hni hs)
      exact ⟨fun h2 => h2.elim (fun q => absurd q n2) (fun q => by omega), fun _ _ => h, fun h2 => absurd (.inr rfl) h2, fun h2 => absurd (.inl hs) h2⟩
    have n1 : ¬ S (n + 1) := fun s => by
      by_cases e0 : i = n
      · subst e0; exact hni (s10 s)
      · exact hni (s0 (s10 s) i (by omega))
    by_cases e0 : i = n
    · subst e0
      have hall' := hall S hD (fun ol hol e he hb => by rw [ho] at hol; cases hol; exact hA e he hb)
      obtain ⟨j1, j2, j3, j6, j7⟩ := hJ hni
      obtain ⟨tm, df⟩ := a1
      simp only at j1 j2
      subst j2
      have ht : tm = ((List.range ntm).map fun k => tm[k]?.getD undef).toArray := by
        refine Array.ext (by simp [j1]) fun i h1 h2 => ?_
        simp [h1]
      have F := hlast (fun k => tm[k]?.getD undef) w1 j6 (fun k hk => j7 k (hall' k hk) hk) (fun s hs => j3 s hs)
      rw [← ht] at F
      refine wpOp_mono (fun a' w' h => ?_) F
      exact ⟨fun h2 => h2.elim (fun q => absurd q n2) (fun q => by omega), fun _ h2 => h2.elim (fun q => absurd q n1) (fun q => by omega), fun _ _ => h, fun h2 => absurd (.inr rfl) h2⟩
    · have hin : i < n := by omega
      have n0 : ¬ S n := fun s => hni (s0 s i hin)
      obtain ⟨j1, j2, j3, j6, j7⟩ := hJ n0
      refine wpOp_mono ?_ (hop i o ho hin a1 w1 j3 (fun e he hb => j7 e.on (hA e he hb) (by have := hB i o ho e he hb; omega)) j6)
      rintro a' w' ⟨v, rfl, t, g⟩
      obtain ⟨s1, s2⟩ := hslot i hin
      refine ⟨fun h2 => h2.elim (fun q => absurd q n2) (fun q => by omega), fun _ h2 => h2.elim (fun q => absurd q n1) (fun q => by omega), fun _ h2 => h2.elim (fun q => absurd q n0) (fun q => by omega), fun _ => ⟨by rw [put_size]; exact j1, by rw [put_defers]; exact j2, fun s hs => ?_, j6.trans (g.mono j6.size), fun k hk k1 => ?_⟩⟩
      · rw [put_get, if_neg (fun e => s2 s hs e.1)]; exact j3 s hs
      · by_cases e2 : k = i
        · subst e2; rw [put_get, if_pos ⟨rfl, by omega⟩]; exact t
        · rw [put_get, if_neg (fun h => e2 (hinj k k1 i hin h.1.symm))]
          exact hT k _ _ _ k1 (j7 k (hk.resolve_right e2) k1) g
  · intro S m a2 w2 hm2 ⟨j1, _⟩ hall3
    exact j1 (hall3 (n + 2) (by omega))
end Go.Proofs.Ytknbmgdfcejlkaa.W
