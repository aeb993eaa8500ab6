
/-
  The walk of the draw of two paths to be joined; how many names the program's PthParts tells; and facts of joined texts. Condition: texts of at most 4194304 bytes.
-/
import Derived.Test.YtbceegonaomblaaWalkDraw4
import Derived.Test.YtbceegonaomblaaWalkParts
import Derived.Test.YtbceegonaomblaaMathJoin
namespace Go.Proofs.Ytbceegonaomblaa.W
open Go.RowKit Go.Proofs.Ytbceegonaomblaa.M

theorem parts_le (l : List UInt8) : (partsL l).length ≤ 3 := by
  unfold partsL
  split
  · rename_i h; unfold pthB at h; simp only [Bool.and_eq_true, decide_eq_true_iff] at h; exact h.1
  · simp
theorem parts_len (s : ByteArray) (w : World) (hs : s.size ≤ 4194304) :
    Calls Try.prog 26 #[.string s] w fun e W' => ∃ (p : Option Addr) (cap : Nat), e = .returned (.slice p (partsL s.data.toList).length cap) ∧ Below w.heap.size w W' := by
  refine (parts_impl s w hs).mono ?_
  rintro e w' ⟨v, rfl, ho, hb⟩
  rcases ho.2 with ⟨rfl, h⟩ | ⟨g, cap, cur, rfl, _⟩
  · exact ⟨none, 0, by rw [h], hb⟩
  · exact ⟨_, cap, rfl, hb⟩
theorem joinB_list (a b : ByteArray) : (joinB a b).data.toList = joinL a.data.toList b.data.toList := by unfold joinB; simp
theorem joinB_assoc (a b c : ByteArray) (pa : pthB a.data.toList = true) (pb : pthB b.data.toList = true) (pc : pthB c.data.toList = true) (h : (partsL a.data.toList).length + (partsL b.data.toList).length + (partsL c.data.toList).length ≤ 3) :
    ((joinB (joinB a b) c).toList == (joinB a (joinB b c)).toList) = true := by
  unfold partsL at h; rw [if_pos pa, if_pos pb, if_pos pc] at h
  apply eq_t
  rw [joinB_list, joinB_list, joinB_list, joinB_list]
  exact join_assoc _ _ _ pa pb pc h
theorem joinB_und (a b : ByteArray) (h : (joinB a b).toList.isEmpty = false) : undB a.data.toList (joinB a b).data.toList = true := by
  rw [joinB_list]
  apply join_und
  intro e
  rw [isEmpty_list, joinB_list, e] at h
  cases h
theorem joinB_ab : joinB ⟨#[97]⟩ ⟨#[98]⟩ = ⟨#[97, 47, 98]⟩ := by
  have h : joinL [97] [98] = [97, 47, 98] := by decide
  unfold joinB; rw [h]
/-- the five cases of three paths -/
theorem three (a b c : ByteArray) : (pthB a.data.toList = false) ∨ (pthB a.data.toList = true ∧ pthB b.data.toList = false) ∨ (pthB a.data.toList = true ∧ pthB b.data.toList = true ∧ pthB c.data.toList = false) ∨
    (pthB a.data.toList = true ∧ pthB b.data.toList = true ∧ pthB c.data.toList = true ∧ 3 < (partsL a.data.toList).length + (partsL b.data.toList).length + (partsL c.data.toList).length) ∨
    (pthB a.data.toList = true ∧ pthB b.data.toList = true ∧ pthB c.data.toList = true ∧ (partsL a.data.toList).length + (partsL b.data.toList).length + (partsL c.data.toList).length ≤ 3 ∧ ((joinB (joinB a b) c).toList == (joinB a (joinB b c)).toList) = true) := by
  cases h1 : pthB a.data.toList
  · exact .inl rfl
  · cases h2 : pthB b.data.toList
    · exact .inr (.inl ⟨rfl, rfl⟩)
    · cases h3 : pthB c.data.toList
      · exact .inr (.inr (.inl ⟨rfl, rfl, rfl⟩))
      · by_cases h4 : (partsL a.data.toList).length + (partsL b.data.toList).length + (partsL c.data.toList).length ≤ 3
        · exact .inr (.inr (.inr (.inr ⟨rfl, rfl, rfl, h4, joinB_assoc a b c h1 h2 h3 h4⟩)))
        · exact .inr (.inr (.inr (.inl ⟨rfl, rfl, rfl, by omega⟩)))
end Go.Proofs.Ytbceegonaomblaa.W
