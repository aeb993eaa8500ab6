
/-
  A region that draws its order, each operation but the last with a slot of its own, the last waiting for all others; all but the last leave what was there as it was. No condition but those named.
-/
import Derived.Test.YtknbmgdfcejlkaaMathPut
namespace Go.Proofs.Ytknbmgdfcejlkaa.W
open Go.RowKit

theorem region_ext_last {P : Program} {id : Nat} {ops : Array Oper} {Q : Exit → Act → World → Prop} {a : Act} {w : World}
    (n ntm : Nat) (slotOf : Nat → Nat) (fix : List Nat) (T : Nat → Value → World → Prop) (hn : ops.size = n + 1)
    (hm : P.follows .mixedOrders = true) (hB : ∀ i o, ops[i]? = some o → ∀ e ∈ o.after, Region.binds .any e = true → e.on < i)
    (hsz : a.tmps.size = ntm) (hdf : a.defers = [])
    (hT : ∀ i v w1 w2, i < n → T i v w1 → Below w1.heap.size w1 w2 → T i v w2)
    (hinj : ∀ i, i < n → ∀ j, j < n → slotOf i = slotOf j → i = j)
    (hslot : ∀ i, i < n → slotOf i < ntm ∧ ∀ s ∈ fix, slotOf i ≠ s)
    (hall : ∀ ol, ops[n]? = some ol → ∀ i, i < n → ∃ e ∈ ol.after, Region.binds .any e = true ∧ e.on = i)
    (hop : ∀ i o, ops[i]? = some o → i < n → ∀ (a1 : Act) (w1 : World), (∀ s ∈ fix, a1.tmps[s]?.getD undef = a.tmps[s]?.getD undef) →
      (∀ e ∈ o.after, Region.binds .any e = true → T e.on (a1.tmps[slotOf e.on]?.getD undef) w1) → Below w.heap.size w w1 →
      wpOp P ops Q i (fun a' w' => ∃ v, a' = a1.put (some (slotOf i)) v ∧ T i v w' ∧ Below w1.heap.size w1 w') a1 w1)
    (hlast : ∀ ol, ops[n]? = some ol → ∀ (y : Nat → Value) (w2 : World), Below w.heap.size w w2 → (∀ i, i < n → T i (y (slotOf i)) w2) → (∀ s ∈ fix, y s = a.tmps[s]?.getD undef) →
      wpOp P ops Q n (Q .normal) ⟨((List.range ntm).map y).toArray, []⟩ w2) : (Code.region id ops true).wp P Q a w := by
  refine region_inv (fun S _ a1 w1 => (S n → Q .normal a1 w1) ∧ (¬ S n → a1.tmps.size = ntm ∧ a1.defers = [] ∧ (∀ s ∈ fix, a1.tmps[s]?.getD undef = a.tmps[s]?.getD undef) ∧ Below w.heap.size w w1 ∧ ∀ k, S k → k < n → T k (a1.tmps[slotOf k]?.getD undef) w1)) hm hB ⟨fun h => h.elim, fun _ => ⟨hsz, hdf, fun _ _ => rfl, (Below.refl _ w).drew, fun _ h => h.elim⟩⟩ ?_ ?_
  · intro i o ho S m a1 w1 hm1 ⟨_, hJ⟩ hni _ hA hD
    have hi : i < ops.size := (Array.getElem?_eq_some_iff.1 ho).1
    have hno : ops[n]? = some ops[n] := Array.getElem?_eq_getElem (by omega)
    have hSn : ¬ S n := fun s => by
      by_cases e : i = n
      · subst e; exact hni s
      · obtain ⟨x, hx, hb, hon⟩ := hall _ hno i (by omega)
        have := hD n _ hno s x hx hb
        rw [hon] at this
        exact hni this
    obtain ⟨j1, j2, j3, j6, j7⟩ := hJ hSn
    by_cases e : i = n
    · subst e
      obtain ⟨tm, df⟩ := a1
      simp only at j1 j2
      subst j2
      have ht : tm = ((List.range ntm).map fun k => tm[k]?.getD undef).toArray := by
        refine Array.ext (by simp [j1]) fun i h1 h2 => ?_
        simp [h1]
      have F := hlast o ho (fun k => tm[k]?.getD undef) w1 j6 (fun k hk => by
        obtain ⟨x, hx, hb, hon⟩ := hall o ho k hk
        have := hA x hx hb
        rw [hon] at this
        exact j7 k this hk) (fun s hs => j3 s hs)
      rw [← ht] at F
      exact wpOp_mono (fun a' w' h => ⟨fun _ => h, fun h2 => absurd (.inr rfl) h2⟩) F
    · have hin : i < n := by omega
      refine wpOp_mono ?_ (hop i o ho hin a1 w1 j3 (fun e he hb => j7 e.on (hA e he hb) (by have := hB i o ho e he hb; omega)) j6)
      rintro a' w' ⟨v, rfl, t, g⟩
      obtain ⟨s1, s2⟩ := hslot i hin
      refine ⟨fun h => ?_, fun _ => ⟨by rw [put_size]; exact j1, by rw [put_defers]; exact j2, fun s hs => ?_, j6.trans (g.mono j6.size), fun k hk k1 => ?_⟩⟩
      · rcases h with h | h
        · exact absurd h hSn
        · exact absurd h.symm e
      · rw [put_get, if_neg (fun e => s2 s hs e.1)]; exact j3 s hs
      · by_cases e2 : k = i
        · subst e2; rw [put_get, if_pos ⟨rfl, by omega⟩]; exact t
        · rw [put_get, if_neg (fun h => e2 (hinj k k1 i hin h.1.symm))]
          exact hT k _ _ _ k1 (j7 k (hk.resolve_right e2) k1) g
  · intro S m a2 w2 hm2 ⟨j1, _⟩ hall2
    exact j1 (hall2 n (by omega))
end Go.Proofs.Ytknbmgdfcejlkaa.W
