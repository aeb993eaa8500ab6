/-
  A region that draws its order, by an invariant over which operations have come up: one obligation an operation, whatever the order. No condition.
  One operation of a region, and the slot that it fills. No condition.
  A region that draws its order, each operation with a slot of its own: what each leaves in its slot, whatever the order. 'T i': what the i-th leaves. No condition but those named.
-/
import Derived.Test.YthfffpdkmoclbaaGreatDoorMg01
import Derived.Below
import Derived.Still
import Derived.Test.YthfffpdkmoclbaaGreatDoorMg13
namespace Go.Proofs.YthfffpdkmoclbaaGreatDoor.W
open Go.RowKit

/-- how many operations have not come up yet -/
def unl (n : Nat) (listed : Array Bool) : Nat := ((List.range n).filter fun i => !listed.getD i true).length
theorem unl_zero {md : Region.Mode} {ops : Array Oper} {listed : Array Bool} (h : unl ops.size listed = 0) : Region.ready md ops listed = [] := by
  have h0 : ((List.range ops.size).filter fun i => !listed.getD i true) = [] := List.length_eq_zero_iff.1 h
  rw [List.eq_nil_iff_forall_not_mem]
  intro j hj
  obtain ⟨h1, o, ho, _⟩ := mem_ready.1 hj
  have hlt : j < ops.size := (Array.getElem?_eq_some_iff.1 ho).1
  have : j ∈ (List.range ops.size).filter fun i => !listed.getD i true := List.mem_filter.2 ⟨List.mem_range.2 hlt, by rw [h1]; rfl⟩
  rw [h0] at this
  cases this
theorem getD_set_self {listed : Array Bool} {i : Nat} (h : listed.getD i true = false) : (listed.setIfInBounds i true).getD i true = true := by
  have hl : i < listed.size := by
    rcases Nat.lt_or_ge i listed.size with h' | h'
    · exact h'
    · simp [Array.getElem?_eq_none h'] at h
  simp [hl]
theorem unl_step {n i : Nat} {listed : Array Bool} (hi : i < n) (h : listed.getD i true = false) : unl n (listed.setIfInBounds i true) < unl n listed := by
  unfold unl
  have hs : ((List.range n).filter fun j => !(listed.setIfInBounds i true).getD j true) = ((List.range n).filter fun j => !listed.getD j true).filter fun j => decide (j ≠ i) := by
    rw [List.filter_filter]
    apply List.filter_congr
    intro j _
    by_cases e : j = i
    · subst e; rw [getD_set_self h]; simp
    · rw [getD_set_ne true (fun q => e q.symm)]; simp [e]
  rw [hs]
  refine List.length_filter_lt_length_iff_exists.2 ⟨i, List.mem_filter.2 ⟨List.mem_range.2 hi, by rw [h]; rfl⟩, by simp⟩
/-- an invariant serves every order -/
theorem wpAny_inv {P : Program} {md : Region.Mode} {ops : Array Oper} {Q : Exit → Act → World → Prop} (I : Array Bool → Act → World → Prop)
    (hstep : ∀ listed a w i, I listed a w → i ∈ Region.ready md ops listed → wpOp P ops Q i (fun a' w' => I (listed.setIfInBounds i true) a' w') a w)
    (hend : ∀ listed a w, I listed a w → Region.ready md ops listed = [] → Q .normal a w) :
    ∀ (fuel : Nat) (listed : Array Bool) (a : Act) (w : World), I listed a w → unl ops.size listed ≤ fuel → wpAny P md ops Q fuel listed a w
  | 0, listed, a, w, h, hf => by
    have hr := unl_zero (md := md) (ops := ops) (Nat.le_zero.1 hf)
    exact ⟨hr, hend listed a w h hr⟩
  | fuel + 1, listed, a, w, h, hf => by
    refine ⟨fun hr => hend listed a w h hr, fun i hi => ?_⟩
    obtain ⟨h1, o, ho, _⟩ := mem_ready.1 hi
    have hlt : i < ops.size := (Array.getElem?_eq_some_iff.1 ho).1
    exact wpOp_mono (fun a' w' h' => wpAny_inv I hstep hend fuel _ a' w' h' (by have := unl_step hlt h1; omega)) (hstep listed a w i h hi)
/-- where nothing may come up any more all have come up, if each waits for earlier ones alone -/
theorem all_listed {md : Region.Mode} {ops : Array Oper} {listed : Array Bool} (hsz : listed.size = ops.size) (hB : ∀ i o, ops[i]? = some o → ∀ e ∈ o.after, Region.binds md e = true → e.on < i)
    (hr : Region.ready md ops listed = []) : ∀ i, i < ops.size → listed.getD i false = true := by
  intro i
  induction i using Nat.strongRecOn with
  | _ i ih =>
    intro hi
    cases hl : listed.getD i false with
    | true => rfl
    | false =>
      exfalso
      have hls : i < listed.size := by omega
      have h1 : listed.getD i true = false := by
        simp [hls] at hl ⊢; exact hl
      have : i ∈ Region.ready md ops listed := mem_ready.2 ⟨h1, ops[i], Array.getElem?_eq_getElem hi, fun e he hb => ih e.on (hB i _ (Array.getElem?_eq_getElem hi) e he hb) (by have := hB i _ (Array.getElem?_eq_getElem hi) e he hb; omega)⟩
      rw [hr] at this
      cases this
/-- A REGION BY AN INVARIANT over the set of operations that have come up -/
theorem region_inv {P : Program} {id : Nat} {ops : Array Oper} {Q : Exit → Act → World → Prop} {a : Act} {w : World} (I : (Nat → Prop) → Nat → Act → World → Prop)
    (hm : P.follows .mixedOrders = true) (hB : ∀ i o, ops[i]? = some o → ∀ e ∈ o.after, Region.binds .any e = true → e.on < i)
    (hJ : I (fun _ => False) 0 a { w with drawn := w.drawn + 1 })
    (hop : ∀ i o, ops[i]? = some o → ∀ (S : Nat → Prop) m a w, m < ops.size → I S m a w → ¬ S i → (∀ k, S k → k < ops.size) → (∀ e ∈ o.after, Region.binds .any e = true → S e.on) → (∀ k ok, ops[k]? = some ok → S k → ∀ e ∈ ok.after, Region.binds .any e = true → S e.on) →
      wpOp P ops Q i (fun a' w' => I (fun k => S k ∨ k = i) (m + 1) a' w') a w)
    (hend : ∀ S m a w, m ≤ ops.size → I S m a w → (∀ k, k < ops.size → S k) → Q .normal a w) : (Code.region id ops true).wp P Q a w := by
  refine wp_region_any hm (wpAny_inv (fun listed a w => listed.size = ops.size ∧ (∃ m, m + unl ops.size listed ≤ ops.size ∧ I (fun k => k < ops.size ∧ listed.getD k false = true) m a w) ∧ (∀ k ok, ops[k]? = some ok → listed.getD k false = true → ∀ e ∈ ok.after, Region.binds .any e = true → listed.getD e.on false = true)) ?_ ?_ ops.size _ a _ ⟨by simp, ⟨0, ?_, ?_⟩, fun k ok hk h => ?_⟩ ?_)
  · intro listed a w i ⟨hs, ⟨m, hmu, hI⟩, hD⟩ hi
    obtain ⟨h1, o, ho, hall⟩ := mem_ready.1 hi
    have hlt : i < ops.size := (Array.getElem?_eq_some_iff.1 ho).1
    have hls : i < listed.size := by omega
    have hu := unl_step hlt h1
    refine wpOp_mono ?_ (hop i o ho (fun k => k < ops.size ∧ listed.getD k false = true) m a w (by omega) hI (fun ⟨_, h⟩ => ?_) (fun k h => h.1) (fun e he hb => ⟨by have := hB i o ho e he hb; omega, hall e he hb⟩) (fun k ok hk ⟨h1, h2⟩ e he hb => ⟨by have := hB k ok hk e he hb; omega, hD k ok hk h2 e he hb⟩))
    · intro a' w' j1
      have up : ∀ k, listed.getD k false = true → (listed.setIfInBounds i true).getD k false = true := fun k h => by
        by_cases e : k = i
        · subst e; simp [hls]
        · rw [getD_set_ne false (fun q => e q.symm)]; exact h
      refine ⟨by simpa using hs, ⟨m + 1, by omega, ?_⟩, fun k ok hk h x hx hb => ?_⟩
      · have e : (fun k => k < ops.size ∧ (listed.setIfInBounds i true).getD k false = true) = fun k => (k < ops.size ∧ listed.getD k false = true) ∨ k = i := by
          funext k
          refine propext ⟨fun ⟨h1, h2⟩ => ?_, fun h => ?_⟩
          · by_cases e : k = i
            · exact .inr e
            · rw [getD_set_ne false (fun q => e q.symm)] at h2
              exact .inl ⟨h1, h2⟩
          · rcases h with ⟨h1, h2⟩ | h
            · exact ⟨h1, up k h2⟩
            · subst h; exact ⟨hlt, by simp [hls]⟩
        rw [e]
        exact j1
      · by_cases e : k = i
        · subst e
          rw [ho] at hk
          cases hk
          exact up _ (hall x hx hb)
        · rw [getD_set_ne false (fun q => e q.symm)] at h
          exact up _ (hD k ok hk h x hx hb)
    · simp [hls] at h h1; rw [h1] at h; cases h
  · intro listed a w ⟨hs, ⟨m, hmu, hI⟩, _⟩ hr
    exact hend _ m a w (by omega) hI fun k hk => ⟨hk, all_listed hs hB hr k hk⟩
  · unfold unl
    have := List.length_filter_le (fun i => !(Array.replicate ops.size false).getD i true) (List.range ops.size)
    rw [List.length_range] at this
    omega
  · have e : (fun k => k < ops.size ∧ (Array.replicate ops.size false).getD k false = true) = fun _ => False := by
      funext k
      refine propext ⟨fun ⟨h1, h2⟩ => ?_, fun h => h.elim⟩
      simp [h1] at h2
    rw [e]
    exact hJ
  · have : k < ops.size := (Array.getElem?_eq_some_iff.1 hk).1
    simp [this] at h
  · unfold unl
    exact Nat.le_trans (List.length_filter_le _ _) (by simp)
end Go.Proofs.YthfffpdkmoclbaaGreatDoor.W
namespace Go.Proofs.YthfffpdkmoclbaaGreatDoor.W
open Go.RowKit

theorem wpOp_do {P : Program} {ops : Array Oper} {Q : Exit → Act → World → Prop} {i : Nat} {o : Oper} {K : Act → World → Prop} {a : Act} {w : World} (ho : ops[i]? = some o) (hg : o.guard = none) (h : o.wp P a w K Q) : wpOp P ops Q i K a w := by
  unfold wpOp
  rw [ho]
  simp only [Region.wanted, hg, if_true]
  exact .inl h
theorem put_get (a : Act) (d t : Nat) (v : Value) : (a.put (some d) v).tmps[t]?.getD undef = if d = t ∧ t < a.tmps.size then v else a.tmps[t]?.getD undef := by
  show (a.tmps.setIfInBounds d v)[t]?.getD undef = _
  by_cases h : d = t
  · subst h
    by_cases hs : d < a.tmps.size
    · simp [hs]
    · simp [hs]
  · rw [Array.getElem?_setIfInBounds_ne h, if_neg (fun q => h q.1)]
theorem put_size (a : Act) (d : Option Tmp) (v : Value) : (a.put d v).tmps.size = a.tmps.size := by
  cases d with
  | none => rfl
  | some d => show (a.tmps.setIfInBounds d v).size = _; simp
theorem put_defers (a : Act) (d : Option Tmp) (v : Value) : (a.put d v).defers = a.defers := by cases d <;> rfl
end Go.Proofs.YthfffpdkmoclbaaGreatDoor.W
namespace Go.Proofs.YthfffpdkmoclbaaGreatDoor.W
open Go.RowKit Go.Proofs.YthfffpdkmoclbaaGreatDoor.M

/-- one operation has come up -/
def Step (T : Value → World → Prop) (rb : Nat) (ad : Option Addr) (len cap : Nat) (zs : Nat → Int) (d c q : Nat) (a1 : Act) (w1 : World) (a' : Act) (w' : World) : Prop :=
  ∃ v q', a' = a1.put (some d) v ∧ T v w' ∧ w1.grownBy w' (some rb) ∧ q' ≤ q + c ∧ Rd w' rb q' ad len cap zs

theorem region_slots {P : Program} {id : Nat} {ops : Array Oper} {Q : Exit → Act → World → Prop} {a : Act} {w : World} {rb p : Nat} {ad : Option Addr} {len cap : Nat} {zs : Nat → Int}
    (c ntm : Nat) (slotOf : Nat → Nat) (fix : List Nat) (T : Nat → Value → World → Prop)
    (hm : P.follows .mixedOrders = true) (hB : ∀ i o, ops[i]? = some o → ∀ e ∈ o.after, Region.binds .any e = true → e.on < i)
    (hsz : a.tmps.size = ntm) (hdf : a.defers = []) (hRd : Rd w rb p ad len cap zs)
    (hT : ∀ i v w w', i < ops.size → T i v w → w.grownBy w' (some rb) → T i v w')
    (hinj : ∀ i, i < ops.size → ∀ j, j < ops.size → slotOf i = slotOf j → i = j)
    (hslot : ∀ i, i < ops.size → slotOf i < ntm ∧ ∀ s ∈ fix, slotOf i ≠ s)
    (hop : ∀ i o, ops[i]? = some o → ∀ (a1 : Act) (w1 : World) (q : Nat), (∀ s ∈ fix, a1.tmps[s]?.getD undef = a.tmps[s]?.getD undef) →
      (∀ e ∈ o.after, Region.binds .any e = true → T e.on (a1.tmps[slotOf e.on]?.getD undef) w1) → q + c ≤ p + c * ops.size → Rd w1 rb q ad len cap zs → w.grownBy w1 (some rb) →
      wpOp P ops Q i (Step (T i) rb ad len cap zs (slotOf i) c q a1 w1) a1 w1)
    (hend : ∀ (y : Nat → Value) (w2 : World) (q : Nat), q ≤ p + c * ops.size → Rd w2 rb q ad len cap zs → w.grownBy w2 (some rb) → (∀ i, i < ops.size → T i (y (slotOf i)) w2) → (∀ s ∈ fix, y s = a.tmps[s]?.getD undef) →
      Q .normal ⟨((List.range ntm).map y).toArray, []⟩ w2) : (Code.region id ops true).wp P Q a w := by
  refine region_inv (fun S m a1 w1 => a1.tmps.size = ntm ∧ a1.defers = [] ∧ (∀ s ∈ fix, a1.tmps[s]?.getD undef = a.tmps[s]?.getD undef) ∧ (∃ q, q ≤ p + c * m ∧ Rd w1 rb q ad len cap zs) ∧ w.grownBy w1 (some rb) ∧ ∀ k, S k → k < ops.size → T k (a1.tmps[slotOf k]?.getD undef) w1) hm hB ⟨hsz, hdf, fun _ _ => rfl, ⟨p, by omega, hRd.drew⟩, gdrew' _, fun _ h => h.elim⟩ ?_ ?_
  · intro i o ho S m a1 w1 hm1 ⟨j1, j2, j3, ⟨q, j4, j5⟩, j6, j7⟩ hni _ hA hD
    have hi : i < ops.size := (Array.getElem?_eq_some_iff.1 ho).1
    have hmul : c * m + c ≤ c * ops.size := by
      have : c * (m + 1) ≤ c * ops.size := Nat.mul_le_mul_left c hm1
      rw [Nat.mul_add, Nat.mul_one] at this; exact this
    refine wpOp_mono ?_ (hop i o ho a1 w1 q j3 (fun e he hb => j7 e.on (hA e he hb) (by have := hB i o ho e he hb; omega)) (by omega) j5 j6)
    rintro a' w' ⟨v, q', rfl, t, g, hq', hR'⟩
    obtain ⟨s1, s2⟩ := hslot i hi
    refine ⟨by rw [put_size]; exact j1, by rw [put_defers]; exact j2, fun s hs => ?_, ⟨q', by rw [Nat.mul_add, Nat.mul_one]; omega, hR'⟩, gtrans j6 g, fun k hk k1 => ?_⟩
    · rw [put_get, if_neg (fun e => s2 s hs e.1)]; exact j3 s hs
    · by_cases e : k = i
      · subst e; rw [put_get, if_pos ⟨rfl, by omega⟩]; exact t
      · rw [put_get, if_neg (fun h => e (hinj k k1 i hi h.1.symm))]
        exact hT k _ _ _ k1 (j7 k (hk.resolve_right e) k1) g
  · intro S m a2 w2 hm2 ⟨j1, j2, j3, ⟨q, j4, j5⟩, j6, j7⟩ hall
    obtain ⟨tm, df⟩ := a2
    simp only at j1 j2
    subst j2
    have ht : tm = ((List.range ntm).map fun k => tm[k]?.getD undef).toArray := by
      refine Array.ext (by simp [j1]) fun i h1 h2 => ?_
      simp [h1]
    have F := hend (fun k => tm[k]?.getD undef) w2 q (Nat.le_trans j4 (Nat.add_le_add_left (Nat.mul_le_mul_left c hm2) p)) j5 j6 (fun i hi => j7 i (hall i hi) hi) (fun s hs => j3 s hs)
    rw [← ht] at F
    exact F
end Go.Proofs.YthfffpdkmoclbaaGreatDoor.W
