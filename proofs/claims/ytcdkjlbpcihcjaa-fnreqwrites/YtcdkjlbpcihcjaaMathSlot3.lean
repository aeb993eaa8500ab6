
/-
  A region that draws its order, each operation but the last two with a slot of its own, these two behind all others. No condition but those named.
-/
import Derived.Test.YtcdkjlbpcihcjaaMathSlot
namespace Go.Proofs.Ytcdkjlbpcihcjaa.W
open Go.RowKit Go.Proofs.Ytcdkjlbpcihcjaa.M

/-- the same where the last two wait for all others, one behind the other -/
theorem region_slots_last2 {P : Program} {id : Nat} {ops : Array Oper} {Q : Exit → Act → World → Prop} {a : Act} {w : World} {rb p : Nat} {ad : Option Addr} {len cap : Nat} {zs : Nat → Int}
    (n c ntm : Nat) (slotOf : Nat → Nat) (fix : List Nat) (T : Nat → Value → World → Prop) (hn : ops.size = n + 2)
    (hm : P.follows .mixedOrders = true) (hB : ∀ i o, ops[i]? = some o → ∀ e ∈ o.after, Region.binds .any e = true → e.on < i)
    (hsz : a.tmps.size = ntm) (hdf : a.defers = []) (hRd : Rd w rb p ad len cap zs)
    (hT : ∀ i v w w', i < n → T i v w → w.grownBy w' (some rb) → T i v w')
    (hinj : ∀ i, i < n → ∀ j, j < n → slotOf i = slotOf j → i = j)
    (hslot : ∀ i, i < n → slotOf i < ntm ∧ ∀ s ∈ fix, slotOf i ≠ s)
    (hall : ∀ S : Nat → Prop, (∀ k ok, ops[k]? = some ok → S k → ∀ e ∈ ok.after, Region.binds .any e = true → S e.on) → (∀ ol, ops[n]? = some ol → ∀ e ∈ ol.after, Region.binds .any e = true → S e.on) → ∀ i, i < n → S i)
    (hall2 : ∀ ol, ops[n + 1]? = some ol → ∃ e ∈ ol.after, Region.binds .any e = true ∧ e.on = n)
    (hop : ∀ i o, ops[i]? = some o → i < n → ∀ (a1 : Act) (w1 : World) (q : Nat), (∀ s ∈ fix, a1.tmps[s]?.getD undef = a.tmps[s]?.getD undef) →
      (∀ e ∈ o.after, Region.binds .any e = true → T e.on (a1.tmps[slotOf e.on]?.getD undef) w1) → q + c ≤ p + c * (n + 2) → Rd w1 rb q ad len cap zs → w.grownBy w1 (some rb) →
      wpOp P ops Q i (Step (T i) rb ad len cap zs (slotOf i) c q a1 w1) a1 w1)
    (hlast : ∀ ol, ops[n]? = some ol → ∀ (y : Nat → Value) (w2 : World) (q : Nat), q ≤ p + c * (n + 2) → Rd w2 rb q ad len cap zs → w.grownBy w2 (some rb) → (∀ i, i < n → T i (y (slotOf i)) w2) → (∀ s ∈ fix, y s = a.tmps[s]?.getD undef) →
      wpOp P ops Q n (fun a' w' => wpOp P ops Q (n + 1) (Q .normal) a' w') ⟨((List.range ntm).map y).toArray, []⟩ w2) : (Code.region id ops true).wp P Q a w := by
  refine region_inv (fun S m a1 w1 => (S (n + 1) → Q .normal a1 w1) ∧ (¬ S (n + 1) → S n → wpOp P ops Q (n + 1) (Q .normal) a1 w1) ∧ (¬ S n → a1.tmps.size = ntm ∧ a1.defers = [] ∧ (∀ s ∈ fix, a1.tmps[s]?.getD undef = a.tmps[s]?.getD undef) ∧ (∃ q, q ≤ p + c * m ∧ Rd w1 rb q ad len cap zs) ∧ w.grownBy w1 (some rb) ∧ ∀ k, S k → k < n → T k (a1.tmps[slotOf k]?.getD undef) w1)) hm hB ⟨fun h => h.elim, fun _ h => h.elim, fun _ => ⟨hsz, hdf, fun _ _ => rfl, ⟨p, by omega, hRd.drew⟩, gdrew' _, fun _ h => h.elim⟩⟩ ?_ ?_
  · intro i o ho S m a1 w1 hm1 ⟨_, hK, hJ⟩ hni _ hA hD
    have hi : i < ops.size := (Array.getElem?_eq_some_iff.1 ho).1
    have hno : ops[n]? = some ops[n] := Array.getElem?_eq_getElem (by omega)
    by_cases e1 : i = n + 1
    · subst e1
      obtain ⟨x, hx, hb, hon⟩ := hall2 o ho
      have hs := hA x hx hb
      rw [hon] at hs
      exact wpOp_mono (fun a' w' h => ⟨fun _ => h, fun h2 => absurd (.inr rfl) h2, fun h2 => absurd (.inl hs) h2⟩) (hK hni hs)
    have hSn : ¬ S n := fun s => by
      by_cases e : i = n
      · subst e; exact hni s
      · exact hni (hall S hD (fun ol hol x hx hb => hD n ol hol s x hx hb) i (by omega))
    have hSn1 : ¬ S (n + 1) := fun s => by
      have hno1 : ops[n + 1]? = some ops[n + 1] := Array.getElem?_eq_getElem (by omega)
      obtain ⟨x, hx, hb, hon⟩ := hall2 _ hno1
      have := hD (n + 1) _ hno1 s x hx hb
      rw [hon] at this
      exact hSn this
    obtain ⟨j1, j2, j3, ⟨q, j4, j5⟩, j6, j7⟩ := hJ hSn
    by_cases e : i = n
    · subst e
      obtain ⟨tm, df⟩ := a1
      simp only at j1 j2
      subst j2
      have ht : tm = ((List.range ntm).map fun k => tm[k]?.getD undef).toArray := by
        refine Array.ext (by simp [j1]) fun i h1 h2 => ?_
        simp [h1]
      have hmul : c * m ≤ c * (i + 2) := Nat.mul_le_mul_left c (by omega)
      have F := hlast o ho (fun k => tm[k]?.getD undef) w1 q (by omega) j5 j6 (fun k hk => j7 k (hall S hD (fun ol hol x hx hb => by rw [ho] at hol; cases hol; exact hA x hx hb) k hk) hk) (fun s hs => j3 s hs)
      rw [← ht] at F
      refine wpOp_mono (fun a' w' h => ⟨fun h2 => ?_, fun _ _ => h, fun h2 => absurd (.inr rfl) h2⟩) F
      rcases h2 with h2 | h2
      · exact absurd h2 hSn1
      · omega
    · have hin : i < n := by omega
      have hmul : c * m + c ≤ c * (n + 2) := by
        have : c * (m + 1) ≤ c * (n + 2) := Nat.mul_le_mul_left c (by omega)
        rw [Nat.mul_add, Nat.mul_one] at this; exact this
      refine wpOp_mono ?_ (hop i o ho hin a1 w1 q j3 (fun e he hb => j7 e.on (hA e he hb) (by have := hB i o ho e he hb; omega)) (by omega) j5 j6)
      rintro a' w' ⟨v, q', rfl, t, g, hq', hR'⟩
      obtain ⟨s1, s2⟩ := hslot i hin
      refine ⟨fun h => ?_, fun _ h => ?_, fun _ => ⟨by rw [put_size]; exact j1, by rw [put_defers]; exact j2, fun s hs => ?_, ⟨q', by rw [Nat.mul_add, Nat.mul_one]; omega, hR'⟩, gtrans j6 g, fun k hk k1 => ?_⟩⟩
      · rcases h with h | h
        · exact absurd h hSn1
        · omega
      · rcases h with h | h
        · exact absurd h hSn
        · exact absurd h.symm e
      · rw [put_get, if_neg (fun e => s2 s hs e.1)]; exact j3 s hs
      · by_cases e2 : k = i
        · subst e2; rw [put_get, if_pos ⟨rfl, by omega⟩]; exact t
        · rw [put_get, if_neg (fun h => e2 (hinj k k1 i hin h.1.symm))]
          exact hT k _ _ _ k1 (j7 k (hk.resolve_right e2) k1) g
  · intro S m a2 w2 hm2 ⟨j1, _⟩ hall3
    exact j1 (hall3 (n + 1) (by omega))
end Go.Proofs.Ytcdkjlbpcihcjaa.W
