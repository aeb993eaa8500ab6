
/-
  A region that draws its order, by an invariant over which operations have come up: one obligation an operation, whatever the order. No condition.
-/
import Derived.Test.YtcdkjlbpcihcjaaBase
import Derived.Below
import Derived.Still
namespace Go.Proofs.Ytcdkjlbpcihcjaa.W
open Go.RowKit

/-- how many operations have not come up yet -/
def unl (n : Nat) (listed : Array Bool) : Nat := ((List.range n).filter fun i => !listed.getD i true).length
theorem unl_zero {md : Region.Mode} {ops : Array Oper} {listed : Array Bool} (h : unl ops.size listed = 0) : Region.ready md ops listed = [] := by
  have h0 : ((List.range ops.size).filter fun i => !listed.getD i true) = [] := List.length_eq_zero_iff.1 h
  rw [List.eq_nil_iff_forall_not_mem]
  intro j hj
  obtain ⟨h1, o, ho, _⟩ := mem_ready.1 hj
  have hlt : j < ops.size := (Array.getElem?_eq_some_iff.1 ho).1
  have : j ∈ (List.range ops.size).filter fun i => !listed.getD i true := List.mem_filter.2 ⟨List.mem_range.2 hlt, by rw [h1]; rfl⟩
  rw [h0] at this
  cases this
theorem getD_set_self {listed : Array Bool} {i : Nat} (h : listed.getD i true = false) : (listed.setIfInBounds i true).getD i true = true := by
  have hl : i < listed.size := by
    rcases Nat.lt_or_ge i listed.size with h' | h'
    · exact h'
    · simp [Array.getElem?_eq_none h'] at h
  simp [hl]
theorem unl_step {n i : Nat} {listed : Array Bool} (hi : i < n) (h : listed.getD i true = false) : unl n (listed.setIfInBounds i true) < unl n listed := by
  unfold unl
  have hs : ((List.range n).filter fun j => !(listed.setIfInBounds i true).getD j true) = ((List.range n).filter fun j => !listed.getD j true).filter fun j => decide (j ≠ i) := by
    rw [List.filter_filter]
    apply List.filter_congr
    intro j _
    by_cases e : j = i
    · subst e; rw [getD_set_self h]; simp
    · rw [getD_set_ne true (fun q => e q.symm)]; simp [e]
  rw [hs]
  refine List.length_filter_lt_length_iff_exists.2 ⟨i, List.mem_filter.2 ⟨List.mem_range.2 hi, by rw [h]; rfl⟩, by simp⟩
/-- an invariant serves every order -/
theorem wpAny_inv {P : Program} {md : Region.Mode} {ops : Array Oper} {Q : Exit → Act → World → Prop} (I : Array Bool → Act → World → Prop)
    (hstep : ∀ listed a w i, I listed a w → i ∈ Region.ready md ops listed → wpOp P ops Q i (fun a' w' => I (listed.setIfInBounds i true) a' w') a w)
    (hend : ∀ listed a w, I listed a w → Region.ready md ops listed = [] → Q .normal a w) :
    ∀ (fuel : Nat) (listed : Array Bool) (a : Act) (w : World), I listed a w → unl ops.size listed ≤ fuel → wpAny P md ops Q fuel listed a w
  | 0, listed, a, w, h, hf => by
    have hr := unl_zero (md := md) (ops := ops) (Nat.le_zero.1 hf)
    exact ⟨hr, hend listed a w h hr⟩
  | fuel + 1, listed, a, w, h, hf => by
    refine ⟨fun hr => hend listed a w h hr, fun i hi => ?_⟩
    obtain ⟨h1, o, ho, _⟩ := mem_ready.1 hi
    have hlt : i < ops.size := (Array.getElem?_eq_some_iff.1 ho).1
    exact wpOp_mono (fun a' w' h' => wpAny_inv I hstep hend fuel _ a' w' h' (by have := unl_step hlt h1; omega)) (hstep listed a w i h hi)
/-- where nothing may come up any more all have come up, if each waits for earlier ones alone -/
theorem all_listed {md : Region.Mode} {ops : Array Oper} {listed : Array Bool} (hsz : listed.size = ops.size) (hB : ∀ i o, ops[i]? = some o → ∀ e ∈ o.after, Region.binds md e = true → e.on < i)
    (hr : Region.ready md ops listed = []) : ∀ i, i < ops.size → listed.getD i false = true := by
  intro i
  induction i using Nat.strongRecOn with
  | _ i ih =>
    intro hi
    cases hl : listed.getD i false with
    | true => rfl
    | false =>
      exfalso
      have hls : i < listed.size := by omega
      have h1 : listed.getD i true = false := by
        simp [hls] at hl ⊢; exact hl
      have : i ∈ Region.ready md ops listed := mem_ready.2 ⟨h1, ops[i], Array.getElem?_eq_getElem hi, fun e he hb => ih e.on (hB i _ (Array.getElem?_eq_getElem hi) e he hb) (by have := hB i _ (Array.getElem?_eq_getElem hi) e he hb; omega)⟩
      rw [hr] at this
      cases this
/-- A REGION BY AN INVARIANT over the set of operations that have come up -/
theorem region_inv {P : Program} {id : Nat} {ops : Array Oper} {Q : Exit → Act → World → Prop} {a : Act} {w : World} (I : (Nat → Prop) → Nat → Act → World → Prop)
    (hm : P.follows .mixedOrders = true) (hB : ∀ i o, ops[i]? = some o → ∀ e ∈ o.after, Region.binds .any e = true → e.on < i)
    (hJ : I (fun _ => False) 0 a { w with drawn := w.drawn + 1 })
    (hop : ∀ i o, ops[i]? = some o → ∀ (S : Nat → Prop) m a w, m < ops.size → I S m a w → ¬ S i → (∀ k, S k → k < ops.size) → (∀ e ∈ o.after, Region.binds .any e = true → S e.on) → (∀ k ok, ops[k]? = some ok → S k → ∀ e ∈ ok.after, Region.binds .any e = true → S e.on) →
      wpOp P ops Q i (fun a' w' => I (fun k => S k ∨ k = i) (m + 1) a' w') a w)
    (hend : ∀ S m a w, m ≤ ops.size → I S m a w → (∀ k, k < ops.size → S k) → Q .normal a w) : (Code.region id ops true).wp P Q a w := by
  refine wp_region_any hm (wpAny_inv (fun listed a w => listed.size = ops.size ∧ (∃ m, m + unl ops.size listed ≤ ops.size ∧ I (fun k => k < ops.size ∧ listed.getD k false = true) m a w) ∧ (∀ k ok, ops[k]? = some ok → listed.getD k false = true → ∀ e ∈ ok.after, Region.binds .any e = true → listed.getD e.on false = true)) ?_ ?_ ops.size _ a _ ⟨by simp, ⟨0, ?_, ?_⟩, fun k ok hk h => ?_⟩ ?_)
  · intro listed a w i ⟨hs, ⟨m, hmu, hI⟩, hD⟩ hi
    obtain ⟨h1, o, ho, hall⟩ := mem_ready.1 hi
    have hlt : i < ops.size := (Array.getElem?_eq_some_iff.1 ho).1
    have hls : i < listed.size := by omega
    have hu := unl_step hlt h1
    refine wpOp_mono ?_ (hop i o ho (fun k => k < ops.size ∧ listed.getD k false = true) m a w (by omega) hI (fun ⟨_, h⟩ => ?_) (fun k h => h.1) (fun e he hb => ⟨by have := hB i o ho e he hb; omega, hall e he hb⟩) (fun k ok hk ⟨h1, h2⟩ e he hb => ⟨by have := hB k ok hk e he hb; omega, hD k ok hk h2 e he hb⟩))
    · intro a' w' j1
      have up : ∀ k, listed.getD k false = true → (listed.setIfInBounds i true).getD k false = true := fun k h => by
        by_cases e : k = i
        · subst e; simp [hls]
        · rw [getD_set_ne false (fun q => e q.symm)]; exact h
      refine ⟨by simpa using hs, ⟨m + 1, by omega, ?_⟩, fun k ok hk h x hx hb => ?_⟩
      · have e : (fun k => k < ops.size ∧ (listed.setIfInBounds i true).getD k false = true) = fun k => (k < ops.size ∧ listed.getD k false = true) ∨ k = i := by
          funext k
          refine propext ⟨fun ⟨h1, h2⟩ => ?_, fun h => ?_⟩
          · by_cases e : k = i
            · exact .inr e
            · rw [getD_set_ne false (fun q => e q.symm)] at h2
              exact .inl ⟨h1, h2⟩
          · rcases h with ⟨h1, h2⟩ | h
            · exact ⟨h1, up k h2⟩
            · subst h; exact ⟨hlt, by simp [hls]⟩
        rw [e]
        exact j1
      · by_cases e : k = i
        · subst e
          rw [ho] at hk
          cases hk
          exact up _ (hall x hx hb)
        · rw [getD_set_ne false (fun q => e q.symm)] at h
          exact up _ (hD k ok hk h x hx hb)
    · simp [hls] at h h1; rw [h1] at h; cases h
  · intro listed a w ⟨hs, ⟨m, hmu, hI⟩, _⟩ hr
    exact hend _ m a w (by omega) hI fun k hk => ⟨hk, all_listed hs hB hr k hk⟩
  · unfold unl
    have := List.length_filter_le (fun i => !(Array.replicate ops.size false).getD i true) (List.range ops.size)
    rw [List.length_range] at this
    omega
  · have e : (fun k => k < ops.size ∧ (Array.replicate ops.size false).getD k false = true) = fun _ => False := by
      funext k
      refine propext ⟨fun ⟨h1, h2⟩ => ?_, fun h => h.elim⟩
      simp [h1] at h2
    rw [e]
    exact hJ
  · have : k < ops.size := (Array.getElem?_eq_some_iff.1 hk).1
    simp [this] at h
  · unfold unl
    exact Nat.le_trans (List.length_filter_le _ _) (by simp)
end Go.Proofs.Ytcdkjlbpcihcjaa.W
