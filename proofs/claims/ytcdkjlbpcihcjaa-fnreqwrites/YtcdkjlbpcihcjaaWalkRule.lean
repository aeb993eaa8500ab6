
/-
  The draw of a rule: its first region, by relations. (Written by genrel.py.) No condition but that the reader is open.
-/
import Derived.Test.YtcdkjlbpcihcjaaMathInv
import Derived.Test.YtcdkjlbpcihcjaaMathPut
import Derived.Test.YtcdkjlbpcihcjaaWalkDraw2
import Derived.Test.YtcdkjlbpcihcjaaRowR
namespace Go.Proofs.Ytcdkjlbpcihcjaa.W
open Go.RowKit Go.Proofs.Ytcdkjlbpcihcjaa.M

/-- what each operation of the region leaves -/
def rel (rb B : Nat) : Nat → Act → World → Prop
  | 0 => fun a _ => a.tmps[6]?.getD undef = .pointer (some ⟨rb, 0, none⟩)
  | 1 => fun a _ => ∃ n : Nat, n < 4 ∧ a.tmps[7]?.getD undef = .int .i64 n
  | 2 => fun a w => ∃ g, a.tmps[8]?.getD undef = .slice (some ⟨g, 0, none⟩) 4 4 ∧ g ≠ rb ∧ g < w.heap.size ∧ ∀ j u, (#[.string ⟨#[]⟩, .string ⟨#[97]⟩, .string ⟨#[98]⟩, .string ⟨#[99]⟩] : Array Value)[j]? = some u → w.cell? ⟨g, j, none⟩ = some u
  | 3 => fun a _ => a.tmps[9]?.getD undef = .pointer (some ⟨rb, 0, none⟩)
  | 4 => fun a _ => ∃ n : Nat, n < 4 ∧ a.tmps[10]?.getD undef = .int .i64 n
  | 5 => fun a w => ∃ (g j : Nat) (t : ByteArray), a.tmps[11]?.getD undef = .pointer (some ⟨g, j, none⟩) ∧ g ≠ rb ∧ g < w.heap.size ∧ w.cell? ⟨g, j, none⟩ = some (.string t) ∧ t.size ≤ 3
  | 6 => fun a _ => ∃ t : ByteArray, a.tmps[12]?.getD undef = .string t ∧ t.size ≤ 3
  | 7 => fun a w => ∃ g, a.tmps[13]?.getD undef = .slice (some ⟨g, 0, none⟩) 5 5 ∧ g ≠ rb ∧ g < w.heap.size ∧ ∀ j u, (#[.string ⟨#[]⟩, .string ⟨#[]⟩, .string ⟨#[97]⟩, .string ⟨#[98]⟩, .string ⟨#[97, 47, 98]⟩] : Array Value)[j]? = some u → w.cell? ⟨g, j, none⟩ = some u
  | 8 => fun a _ => a.tmps[14]?.getD undef = .pointer (some ⟨rb, 0, none⟩)
  | 9 => fun a _ => ∃ n : Nat, n < 5 ∧ a.tmps[15]?.getD undef = .int .i64 n
  | 10 => fun a w => ∃ (g j : Nat) (t : ByteArray), a.tmps[16]?.getD undef = .pointer (some ⟨g, j, none⟩) ∧ g ≠ rb ∧ g < w.heap.size ∧ w.cell? ⟨g, j, none⟩ = some (.string t) ∧ t.size ≤ 3
  | 11 => fun a _ => ∃ t : ByteArray, a.tmps[17]?.getD undef = .string t ∧ t.size ≤ 3
  | 12 => fun a _ => a.tmps[18]?.getD undef = .pointer (some ⟨rb, 0, none⟩)
  | 13 => fun a _ => ∃ n : Nat, n < 2 ∧ a.tmps[19]?.getD undef = .int .i64 n
  | 14 => fun a _ => ∃ b, a.tmps[20]?.getD undef = .bool b
  | 15 => fun a _ => ∃ x : RR, a.tmps[21]?.getD undef = .agg #[.int .i64 x.user, .string x.ref, .string x.path, .bool x.write] ∧ 0 ≤ x.user ∧ x.user ≤ 4 ∧ x.ref.size ≤ 3 ∧ x.path.size ≤ 3
  | 16 => fun a w => ∃ g, a.tmps[5]?.getD undef = .pointer (some ⟨g, 0, none⟩) ∧ g ≠ rb ∧ B ≤ g ∧ w.heap[g]? = some (.cells #[.int .i64 0, .string ⟨#[]⟩, .string ⟨#[]⟩, .bool false] 25 (0, 0))
  | 17 => fun a w => ∃ (g : Nat) (x : RR), a.tmps[5]?.getD undef = .pointer (some ⟨g, 0, none⟩) ∧ g ≠ rb ∧ B ≤ g ∧ w.heap[g]? = some (.cells #[.int .i64 x.user, .string x.ref, .string x.path, .bool x.write] 25 (0, 0)) ∧ 0 ≤ x.user ∧ x.user ≤ 4 ∧ x.ref.size ≤ 3 ∧ x.path.size ≤ 3
  | _ => fun _ _ => True
/-- its slot -/
def slotOf : Nat → Nat
  | 0 => 6
  | 1 => 7
  | 2 => 8
  | 3 => 9
  | 4 => 10
  | 5 => 11
  | 6 => 12
  | 7 => 13
  | 8 => 14
  | 9 => 15
  | 10 => 16
  | 11 => 17
  | 12 => 18
  | 13 => 19
  | 14 => 20
  | 15 => 21
  | 16 => 5
  | _ => 99
theorem rel_keep (rb B : Nat) (k : Nat) (hk : k < 17) {a a' : Act} {w w' : World} (h : rel rb B k a w) (hs : a'.tmps[slotOf k]?.getD undef = a.tmps[slotOf k]?.getD undef) (hg : w.grownBy w' (some rb)) : rel rb B k a' w' := by
  have keep : ∀ g j v, g ≠ rb → g < w.heap.size → w.cell? ⟨g, j, none⟩ = some v → w'.cell? ⟨g, j, none⟩ = some v := fun g j v h1 h2 h3 => cellKept hg h3 h2 (fun e => h1 (Option.some.inj e))
  have hz := hg.size
  match k, hk with
  | 0, _ => simp only [rel, slotOf] at *; rw [hs]; exact h
  | 1, _ => simp only [rel, slotOf] at *; rw [hs]; exact h
  | 2, _ => simp only [rel, slotOf] at *; rw [hs]; obtain ⟨g, h1, h2, h3, h4⟩ := h; exact ⟨g, h1, h2, by omega, fun j u e => keep g j u h2 h3 (h4 j u e)⟩
  | 3, _ => simp only [rel, slotOf] at *; rw [hs]; exact h
  | 4, _ => simp only [rel, slotOf] at *; rw [hs]; exact h
  | 5, _ => simp only [rel, slotOf] at *; rw [hs]; obtain ⟨g, j, t, h1, h2, h3, h4, h5⟩ := h; exact ⟨g, j, t, h1, h2, by omega, keep g j _ h2 h3 h4, h5⟩
  | 6, _ => simp only [rel, slotOf] at *; rw [hs]; exact h
  | 7, _ => simp only [rel, slotOf] at *; rw [hs]; obtain ⟨g, h1, h2, h3, h4⟩ := h; exact ⟨g, h1, h2, by omega, fun j u e => keep g j u h2 h3 (h4 j u e)⟩
  | 8, _ => simp only [rel, slotOf] at *; rw [hs]; exact h
  | 9, _ => simp only [rel, slotOf] at *; rw [hs]; exact h
  | 10, _ => simp only [rel, slotOf] at *; rw [hs]; obtain ⟨g, j, t, h1, h2, h3, h4, h5⟩ := h; exact ⟨g, j, t, h1, h2, by omega, keep g j _ h2 h3 h4, h5⟩
  | 11, _ => simp only [rel, slotOf] at *; rw [hs]; exact h
  | 12, _ => simp only [rel, slotOf] at *; rw [hs]; exact h
  | 13, _ => simp only [rel, slotOf] at *; rw [hs]; exact h
  | 14, _ => simp only [rel, slotOf] at *; rw [hs]; exact h
  | 15, _ => simp only [rel, slotOf] at *; rw [hs]; exact h
  | 16, _ => simp only [rel, slotOf] at *; rw [hs]; obtain ⟨g, h1, h2, h3, h4⟩ := h; exact ⟨g, h1, h2, h3, (hg.block g ((Array.getElem?_eq_some_iff.1 h4).1) (fun e => h2 (Option.some.inj e))).trans h4⟩
  | n + 17, hk => exact absurd hk (by omega)
/-- what holds throughout -/
def Jn (w0 : World) (rb p : Nat) (ad : Option Addr) (len cap : Nat) (zs : Nat → Int) (x1 x4 : Value) (m : Nat) (a : Act) (w : World) : Prop :=
  a.tmps.size = 49 ∧ a.defers = [] ∧ a.tmps[0]?.getD undef = .pointer (some ⟨rb, 0, none⟩) ∧ a.tmps[1]?.getD undef = x1 ∧ a.tmps[4]?.getD undef = x4 ∧ (∃ q, q ≤ p + m ∧ Rd w rb q ad len cap zs) ∧ w0.grownBy w (some rb)
/-- the invariant: the relations of those that have come up; once the last has come up its own alone -/
def In (w0 : World) (rb B p : Nat) (ad : Option Addr) (len cap : Nat) (zs : Nat → Int) (x1 x4 : Value) (S : Nat → Prop) (m : Nat) (a : Act) (w : World) : Prop :=
  Jn w0 rb p ad len cap zs x1 x4 m a w ∧ (S 17 → rel rb B 17 a w) ∧ (¬ S 17 → ∀ k, S k → k < 17 → rel rb B k a w)
theorem slot_inj : ∀ i, i < 17 → ∀ k, k < 17 → slotOf i = slotOf k → i = k := by decide
theorem slot_ne : ∀ i, i < 17 → slotOf i ≠ 0 ∧ slotOf i ≠ 1 ∧ slotOf i ≠ 4 ∧ slotOf i < 49 := by decide
theorem fin {w0 : World} {rb B p : Nat} {ad : Option Addr} {len cap : Nat} {zs : Nat → Int} {x1 x4 : Value} {m : Nat} {a : Act} {w w' : World} {S : Nat → Prop} (i d : Nat) (v : Value) (hi : i < 17) (hd : d = slotOf i)
    (hI : In w0 rb B p ad len cap zs x1 x4 S m a w) (hni : ¬ S i) (h17 : ¬ S 17)
    (hR : ∀ a' : Act, a'.tmps[d]?.getD undef = v → rel rb B i a' w') (hg : w.grownBy w' (some rb)) (hq : ∃ q, q ≤ p + (m + 1) ∧ Rd w' rb q ad len cap zs) :
    In w0 rb B p ad len cap zs x1 x4 (fun k => S k ∨ k = i) (m + 1) (a.put (some d) v) w' := by
  subst hd
  obtain ⟨⟨j1, j2, j3, j4, j5, j6, j7⟩, _, hS⟩ := hI
  obtain ⟨s1, s2, s3, s4⟩ := slot_ne i hi
  refine ⟨⟨by rw [put_size]; exact j1, by rw [put_defers]; exact j2, ?_, ?_, ?_, hq, gtrans j7 hg⟩, fun h => ?_, fun _ k hk k1 => ?_⟩
  · rw [put_get, if_neg (fun q => s1 q.1)]; exact j3
  · rw [put_get, if_neg (fun q => s2 q.1)]; exact j4
  · rw [put_get, if_neg (fun q => s3 q.1)]; exact j5
  · rcases h with h | h
    · exact absurd h h17
    · omega
  · by_cases e : k = i
    · subst e
      refine hR _ ?_
      rw [put_get, if_pos ⟨rfl, by omega⟩]
    · have hk' : S k := hk.resolve_right e
      refine rel_keep rb B k k1 (hS h17 k hk' k1) ?_ hg
      rw [put_get, if_neg (fun q => e (slot_inj i hi k k1 q.1).symm)]
theorem blk_set {w : World} {g k : Nat} {v : Value} {cs : Array Value} {t : TypeId} (h : w.heap[g]? = some (.cells cs t (0, 0))) : (w.setCell ⟨g, k, none⟩ v).heap[g]? = some (.cells (cs.setIfInBounds k v) t (0, 0)) := by
  simp [World.setCell, Array.getElem?_modify, h]
theorem blk_cell {w : World} {g k : Nat} {v : Value} {cs : Array Value} {t : TypeId} (h : w.heap[g]? = some (.cells cs t (0, 0))) (hk : cs[k]? = some v) : w.cell? ⟨g, k, none⟩ = some v := by
  simp [World.cell?, h, hk]
theorem blk_frozen {w : World} {g k : Nat} {cs : Array Value} {t : TypeId} (h : w.heap[g]? = some (.cells cs t (0, 0))) : w.frozen? ⟨g, k, none⟩ = false := by
  simp [World.frozen?, h]
theorem act_lit {a : Act} (h : a.tmps.size = 49) : a.tmps = ((List.range 49).map fun k => a.tmps[k]?.getD undef).toArray := by
  refine Array.ext (by simp [h]) fun i h1 h2 => ?_
  simp [h1]
end Go.Proofs.Ytcdkjlbpcihcjaa.W
