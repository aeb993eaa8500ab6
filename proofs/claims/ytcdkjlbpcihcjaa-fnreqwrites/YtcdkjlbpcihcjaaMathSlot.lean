
/-
  A region that draws its order, each operation with a slot of its own: what each leaves in its slot, whatever the order. 'T i': what the i-th leaves. No condition but those named.
-/
import Derived.Test.YtcdkjlbpcihcjaaMathPut
import Derived.Test.YtcdkjlbpcihcjaaWalkDraw2
namespace Go.Proofs.Ytcdkjlbpcihcjaa.W
open Go.RowKit Go.Proofs.Ytcdkjlbpcihcjaa.M

/-- one operation has come up -/
def Step (T : Value → World → Prop) (rb : Nat) (ad : Option Addr) (len cap : Nat) (zs : Nat → Int) (d c q : Nat) (a1 : Act) (w1 : World) (a' : Act) (w' : World) : Prop :=
  ∃ v q', a' = a1.put (some d) v ∧ T v w' ∧ w1.grownBy w' (some rb) ∧ q' ≤ q + c ∧ Rd w' rb q' ad len cap zs

theorem region_slots {P : Program} {id : Nat} {ops : Array Oper} {Q : Exit → Act → World → Prop} {a : Act} {w : World} {rb p : Nat} {ad : Option Addr} {len cap : Nat} {zs : Nat → Int}
    (c ntm : Nat) (slotOf : Nat → Nat) (fix : List Nat) (T : Nat → Value → World → Prop)
    (hm : P.follows .mixedOrders = true) (hB : ∀ i o, ops[i]? = some o → ∀ e ∈ o.after, Region.binds .any e = true → e.on < i)
    (hsz : a.tmps.size = ntm) (hdf : a.defers = []) (hRd : Rd w rb p ad len cap zs)
    (hT : ∀ i v w w', i < ops.size → T i v w → w.grownBy w' (some rb) → T i v w')
    (hinj : ∀ i, i < ops.size → ∀ j, j < ops.size → slotOf i = slotOf j → i = j)
    (hslot : ∀ i, i < ops.size → slotOf i < ntm ∧ ∀ s ∈ fix, slotOf i ≠ s)
    (hop : ∀ i o, ops[i]? = some o → ∀ (a1 : Act) (w1 : World) (q : Nat), (∀ s ∈ fix, a1.tmps[s]?.getD undef = a.tmps[s]?.getD undef) →
      (∀ e ∈ o.after, Region.binds .any e = true → T e.on (a1.tmps[slotOf e.on]?.getD undef) w1) → q + c ≤ p + c * ops.size → Rd w1 rb q ad len cap zs → w.grownBy w1 (some rb) →
      wpOp P ops Q i (Step (T i) rb ad len cap zs (slotOf i) c q a1 w1) a1 w1)
    (hend : ∀ (y : Nat → Value) (w2 : World) (q : Nat), q ≤ p + c * ops.size → Rd w2 rb q ad len cap zs → w.grownBy w2 (some rb) → (∀ i, i < ops.size → T i (y (slotOf i)) w2) → (∀ s ∈ fix, y s = a.tmps[s]?.getD undef) →
      Q .normal ⟨((List.range ntm).map y).toArray, []⟩ w2) : (Code.region id ops true).wp P Q a w := by
  refine region_inv (fun S m a1 w1 => a1.tmps.size = ntm ∧ a1.defers = [] ∧ (∀ s ∈ fix, a1.tmps[s]?.getD undef = a.tmps[s]?.getD undef) ∧ (∃ q, q ≤ p + c * m ∧ Rd w1 rb q ad len cap zs) ∧ w.grownBy w1 (some rb) ∧ ∀ k, S k → k < ops.size → T k (a1.tmps[slotOf k]?.getD undef) w1) hm hB ⟨hsz, hdf, fun _ _ => rfl, ⟨p, by omega, hRd.drew⟩, gdrew' _, fun _ h => h.elim⟩ ?_ ?_
  · intro i o ho S m a1 w1 hm1 ⟨j1, j2, j3, ⟨q, j4, j5⟩, j6, j7⟩ hni _ hA hD
    have hi : i < ops.size := (Array.getElem?_eq_some_iff.1 ho).1
    have hmul : c * m + c ≤ c * ops.size := by
      have : c * (m + 1) ≤ c * ops.size := Nat.mul_le_mul_left c hm1
      rw [Nat.mul_add, Nat.mul_one] at this; exact this
    refine wpOp_mono ?_ (hop i o ho a1 w1 q j3 (fun e he hb => j7 e.on (hA e he hb) (by have := hB i o ho e he hb; omega)) (by omega) j5 j6)
    rintro a' w' ⟨v, q', rfl, t, g, hq', hR'⟩
    obtain ⟨s1, s2⟩ := hslot i hi
    refine ⟨by rw [put_size]; exact j1, by rw [put_defers]; exact j2, fun s hs => ?_, ⟨q', by rw [Nat.mul_add, Nat.mul_one]; omega, hR'⟩, gtrans j6 g, fun k hk k1 => ?_⟩
    · rw [put_get, if_neg (fun e => s2 s hs e.1)]; exact j3 s hs
    · by_cases e : k = i
      · subst e; rw [put_get, if_pos ⟨rfl, by omega⟩]; exact t
      · rw [put_get, if_neg (fun h => e (hinj k k1 i hi h.1.symm))]
        exact hT k _ _ _ k1 (j7 k (hk.resolve_right e) k1) g
  · intro S m a2 w2 hm2 ⟨j1, j2, j3, ⟨q, j4, j5⟩, j6, j7⟩ hall
    obtain ⟨tm, df⟩ := a2
    simp only at j1 j2
    subst j2
    have ht : tm = ((List.range ntm).map fun k => tm[k]?.getD undef).toArray := by
      refine Array.ext (by simp [j1]) fun i h1 h2 => ?_
      simp [h1]
    have F := hend (fun k => tm[k]?.getD undef) w2 q (Nat.le_trans j4 (Nat.add_le_add_left (Nat.mul_le_mul_left c hm2) p)) j5 j6 (fun i hi => j7 i (hall i hi) hi) (fun s hs => j3 s hs)
    rw [← ht] at F
    exact F
end Go.Proofs.Ytcdkjlbpcihcjaa.W
