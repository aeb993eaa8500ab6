
/-
  The walk of the specification's number of a word: some number from -1 to 9999; of one digit its own. No condition.
-/
import Derived.Test.YtkgfoimfhlpngaaDoorWalkNam
import Derived.RangeFuncBox
namespace Go.Proofs.YtkgfoimfhlpngaaDoor.W
open Go.RowKit Go.Proofs.YtkgfoimfhlpngaaDoor.M

set_option maxRecDepth 100000 in
set_option maxHeartbeats 2000000 in
theorem l5Number_any (s : ByteArray) (w : World) (hs : s.size ≤ 1048576) :
    Calls Tryd.prog 14 #[.string s] w fun e w' => (∃ n : Int, e = .returned (.int .i64 n) ∧ -1 ≤ n ∧ n ≤ 9999 ∧ ∀ (h : 0 < s.size), s.size = 1 → 48 ≤ (s[0]).toNat → (s[0]).toNat ≤ 57 → n = ((s[0]).toNat : Int) - 48) ∧ w = w' := by
  by_cases h0 : s.size = 0
  · go_enter Tryd.func14, Tryd.ntmps14
    go_wp2
    go_ret
    exact ⟨⟨-1, rfl, by omega, by omega, fun h => by omega⟩, rfl⟩
  by_cases h4 : 4 < s.size
  · go_enter Tryd.func14, Tryd.ntmps14
    go_wp2
    go_ret
    exact ⟨⟨-1, rfl, by omega, by omega, fun _ h => by omega⟩, rfl⟩
  have hpos : 0 < s.size := by omega
  by_cases hz : 1 < s.size ∧ ((s[0]).toNat : Int) = 48
  · obtain ⟨h1, h2⟩ := hz
    go_enter Tryd.func14, Tryd.ntmps14
    go_wp2
    go_ret
    exact ⟨⟨-1, rfl, by omega, by omega, fun _ h => by omega⟩, rfl⟩
  have hz2 : s.size = 1 ∨ (1 < s.size ∧ (((s[0]).toNat : Int) == 48) = false) := by
    by_cases h1 : 1 < s.size
    · exact .inr ⟨h1, by rw [beq_eq_false_iff_ne]; exact fun e => hz ⟨h1, e⟩⟩
    · exact .inl (by omega)
  clear hz
  have h0b : ((s.size : Int) == 0) = false := by rw [beq_eq_false_iff_ne]; omega
  have h4b : ¬ 4 < (s.size : Int) := by omega
  rcases hz2 with hz2 | ⟨hz2, hz3⟩
  all_goals
    go_enter Tryd.func14, Tryd.ntmps14
    go_wp2
    go_loopw [3, 4] (fun nv iv wr => ∃ k v : Nat, k ≤ s.size ∧ iv = .int .i64 k ∧ nv = .int .i64 v ∧ ((k = 0 ∧ v = 0) ∨ (k = 1 ∧ v ≤ 9) ∨ (k = 2 ∧ v ≤ 99) ∨ (k = 3 ∧ v ≤ 999) ∨ (k = 4 ∧ v ≤ 9999)) ∧ Hid (∀ (h : 0 < s.size), k = 1 → v + 48 = (s[0]).toNat) ∧ wr = w) (fun _ i _ => s.size - (intOf i).toNat)
    case atStart => exact ⟨0, 0, by omega, rfl, rfl, .inl ⟨rfl, rfl⟩, (fun _ h => by omega), rfl⟩
    case round =>
      obtain ⟨k, v, hk, rfl, rfl, hv, HV, rfl⟩ := hrel
      by_cases hlt : k < s.size
      · obtain ⟨c, hc⟩ : ∃ c, s[k] = c := ⟨_, rfl⟩
        have hcl : c.toNat < 256 := c.toNat_lt
        by_cases hb : 48 ≤ c.toNat ∧ c.toNat ≤ 57
        · obtain ⟨hb1, hb2⟩ := hb
          have hb3 : ¬ ((c.toNat : Int)) < 48 := by omega
          have hb4 : ¬ 57 < ((c.toNat : Int)) := by omega
          have hw : IntKind.u8.wrap ((c.toNat : Int) - 48) = (c.toNat : Int) - 48 := by rw [IntKind.wrap_u8]; omega
          have HN : Hid (∀ (h : 0 < s.size), k + 1 = 1 → (v * 10 + (c.toNat - 48)) + 48 = (s[0]).toNat) := fun h e => by
            obtain rfl : k = 0 := by omega
            rw [hc]; omega
          clear HV
          go_wp2
          go_roundw
          case rel => exact ⟨k + 1, v * 10 + (c.toNat - 48), by omega, by go_num, by go_num, by omega, HN, by first | rfl | trivial⟩
          case measure => simp [intOf]; omega
        · have hbad : Hid (∀ (h : 0 < s.size), s.size = 1 → 48 ≤ (s[0]).toNat → (s[0]).toNat ≤ 57 → (-1 : Int) = ((s[0]).toNat : Int) - 48) := fun h h1 h2 h3 => by
            obtain rfl : k = 0 := by omega
            rw [hc] at h2 h3
            exact absurd ⟨h2, h3⟩ hb
          have hb3 : ((c.toNat : Int)) < 48 ∨ (¬ ((c.toNat : Int)) < 48 ∧ 57 < ((c.toNat : Int))) := by omega
          clear HV
          rcases hb3 with hb3 | ⟨hb3, hb4⟩
          all_goals
            go_wp2
            go_ret
            exact ⟨⟨-1, rfl, by omega, by omega, by intros; exact hbad.out hpos (by omega) (by assumption) (by assumption)⟩, by first | rfl | trivial⟩
      · go_wp2
        go_ret
        refine ⟨⟨v, rfl, by omega, by omega, fun h h1 h2 h3 => ?_⟩, rfl⟩
        have := HV.out h (by omega)
        omega
end Go.Proofs.YtkgfoimfhlpngaaDoor.W
