
/-
  The walk of the program's cutEntry: the entry at the beginning of a text, and the rest, or an error. Texts of at most 4194304 bytes.
-/
import Derived.Test.YtcmbcaipnjokjaaGreatDoorWalkObjS
import Derived.Test.YtcmbcaipnjokjaaGreatDoorWalkRead
import Derived.Test.YtcmbcaipnjokjaaGreatDoorMathObj
import Derived.Laws.DeepStrings4
namespace Go.Proofs.YtcmbcaipnjokjaaGreatDoor.W
open Go.RowKit Go.Proofs.YtcmbcaipnjokjaaGreatDoor.M

/-- what cutEntry answers -/
def CutAns (r : Option (En × List UInt8)) (e : Ending) : Prop := match r with
  | none => ∃ m : ByteArray, e = .returned (.tuple #[.agg #[.string ⟨#[]⟩, .bool false, .int .i64 0], .string ⟨#[]⟩, .iface 117 (.agg #[.string m])])
  | some (x, r) => e = .returned (.tuple #[.agg #[.string ⟨x.nm.toArray⟩, .bool x.sh, .int .i64 x.id], .string ⟨r.toArray⟩, .nilIface])

set_option maxHeartbeats 1000000 in
theorem cut_short (s : ByteArray) (w : World) (hs : s.size ≤ 4194304) (h : s.size < letN s.data.toList + 9) (hl : letN s.data.toList ≤ s.size) :
    Calls Tryz.prog 112 #[.string s] w fun e w' => CutAns none e ∧ Below w.heap.size w w' := by
  have hm : s.size ≤ maxLen := by unfold maxLen; omega
  have hq := fun w' => letters_any s w' hm
  generalize letN s.data.toList = n at *
  go_enter Tryz.func112, Tryz.ntmps112
  go_wp2_with (go_at_call 128; refine (hq _).mono ?_; rintro e w1 ⟨rfl, rfl⟩)
  refine bodyPost_ret (v := .tuple #[.agg #[.string ⟨#[]⟩, .bool false, .int .i64 0], .string ⟨#[]⟩, .iface 117 (.agg #[.string _])]) (by simp [results, Tryz.results112, go_sem]; rfl) rfl ?_
  exact ⟨⟨_, rfl⟩, (Below.refl _ _).alloc (Nat.le_refl _) _⟩

set_option maxRecDepth 100000 in
set_option maxHeartbeats 1000000 in
theorem cut_mark (s : ByteArray) (w : World) (hs : s.size ≤ 4194304) (h : ¬ s.size < letN s.data.toList + 9) (hn : letN s.data.toList < s.size) (h1 : s[letN s.data.toList] ≠ 61) (h2 : s[letN s.data.toList] ≠ 47) :
    Calls Tryz.prog 112 #[.string s] w fun e w' => CutAns none e ∧ Below w.heap.size w w' := by
  have hm : s.size ≤ maxLen := by unfold maxLen; omega
  have hq := fun w' => letters_any s w' hm
  generalize letN s.data.toList = n at *
  have g1 : ((s[n].toNat : Int) != 61) = true := by simpa using fun e : (s[n].toNat : Int) = 61 => h1 (UInt8.toNat.inj (by show s[n].toNat = 61; omega))
  have g2 : ((s[n].toNat : Int) != 47) = true := by simpa using fun e : (s[n].toNat : Int) = 47 => h2 (UInt8.toNat.inj (by show s[n].toNat = 47; omega))
  clear h1 h2
  go_enter Tryz.func112, Tryz.ntmps112
  go_wp2_with (go_at_call 128; refine (hq _).mono ?_; rintro e w1 ⟨rfl, rfl⟩)
  refine bodyPost_ret (v := .tuple #[.agg #[.string ⟨#[]⟩, .bool false, .int .i64 0], .string ⟨#[]⟩, .iface 117 (.agg #[.string _])]) (by simp [results, Tryz.results112, go_sem]; rfl) rfl ?_
  exact ⟨⟨_, rfl⟩, (Below.refl _ _).alloc (Nat.le_refl _) _⟩

set_option maxRecDepth 100000 in
set_option maxHeartbeats 2000000 in
theorem cut_id (s d : ByteArray) (w : World) (c : Nat) (hs : s.size ≤ 4194304) (h : ¬ s.size < letN s.data.toList + 9) (hn : letN s.data.toList < s.size) (hc : s[letN s.data.toList].toNat = c) (hm : c = 61 ∨ c = 47) (hd : s.extract (letN s.data.toList + 1) (letN s.data.toList + 1 + 8) = d) (hb : rdB d.data.toList = false) (hds : d.size ≤ 8) :
    Calls Tryz.prog 112 #[.string s] w fun e w' => CutAns none e ∧ Below w.heap.size w w' := by
  have hm' : s.size ≤ maxLen := by unfold maxLen; omega
  have hq := fun w' => letters_any s w' hm'
  have hr := fun w' => read_impl d w' (by unfold maxLen; omega)
  rw [hb] at hr
  generalize letN s.data.toList = n at *
  have sl : ∀ w', (Instr.slice 9 (.string s) (some (.int .i64 ((n : Int) + 1))) (some (.int .i64 ((n : Int) + 1 + 8))) none).run Tryz.prog w' = .ok (.string d) w' := fun w' => by
    have e1 : ((n : Int) + 1).toNat = n + 1 := by omega
    have e2 : ((n : Int) + 1 + 8).toNat = n + 1 + 8 := by omega
    have := run_slice_string_if (P := Tryz.prog) w' 9 s .i64 .i64 ((n : Int) + 1) ((n : Int) + 1 + 8) Tryz.underlying9
    rw [if_pos (by omega), if_pos (by omega)] at this
    rw [e1, e2, hd] at this
    exact this
  clear hd
  rcases hm with rfl | rfl
  all_goals
    go_enter Tryz.func112, Tryz.ntmps112
    go_wp2_with (first | (go_at_call 128; refine (hq _).mono ?_; rintro e w1 ⟨rfl, rfl⟩) | (go_at_call 131; refine (hr _).mono ?_; rintro e w1 ⟨rfl, rfl⟩))
    refine bodyPost_ret (v := .tuple #[.agg #[.string ⟨#[]⟩, .bool false, .int .i64 0], .string ⟨#[]⟩, .iface 117 (.agg #[.string _])]) (by simp [results, Tryz.results112, go_sem]; rfl) rfl ?_
    exact ⟨⟨_, rfl⟩, (Below.refl _ _).alloc (Nat.le_refl _) _⟩

set_option maxRecDepth 100000 in
set_option maxHeartbeats 4000000 in
theorem cut_good (s d nm rest : ByteArray) (w : World) (c : Nat) (hs : s.size ≤ 4194304) (h : ¬ s.size < letN s.data.toList + 9) (hn : letN s.data.toList < s.size) (hc : s[letN s.data.toList].toNat = c) (hm : c = 61 ∨ c = 47) (hd : s.extract (letN s.data.toList + 1) (letN s.data.toList + 1 + 8) = d) (h1 : s.extract 0 (letN s.data.toList) = nm) (h2 : s.extract (letN s.data.toList + 1 + 8) s.size = rest) (hb : rdB d.data.toList = true) (hds : d.size ≤ 8) :
    Calls Tryz.prog 112 #[.string s] w fun e w' => e = .returned (.tuple #[.agg #[.string nm, .bool (decide (c = 47)), .int .i64 (rdN d.data.toList)], .string rest, .nilIface]) ∧ Below w.heap.size w w' := by
  have hm' : s.size ≤ maxLen := by unfold maxLen; omega
  have hq := fun w' => letters_any s w' hm'
  have hr := fun w' => read_impl d w' (by unfold maxLen; omega)
  rw [hb] at hr
  generalize letN s.data.toList = n at *
  generalize rdN d.data.toList = id at *
  have sl : ∀ w', (Instr.slice 9 (.string s) (some (.int .i64 ((n : Int) + 1))) (some (.int .i64 ((n : Int) + 1 + 8))) none).run Tryz.prog w' = .ok (.string d) w' := fun w' => by
    have e1 : ((n : Int) + 1).toNat = n + 1 := by omega
    have e2 : ((n : Int) + 1 + 8).toNat = n + 1 + 8 := by omega
    have := run_slice_string_if (P := Tryz.prog) w' 9 s .i64 .i64 ((n : Int) + 1) ((n : Int) + 1 + 8) Tryz.underlying9
    rw [if_pos (by omega), if_pos (by omega)] at this
    rw [e1, e2, hd] at this
    exact this
  have sl2 : ∀ w', (Instr.slice 9 (.string s) none (some (.int .i64 (n : Int))) none).run Tryz.prog w' = .ok (.string nm) w' := fun w' => by
    have := run_slice_string_h (P := Tryz.prog) w' 9 s Tryz.underlying9 .i64 (n : Int) (by omega) (by omega)
    rw [show ((n : Int)).toNat = n by omega, h1] at this
    exact this
  have sl3 : ∀ w', (Instr.slice 9 (.string s) (some (.int .i64 ((n : Int) + 1 + 8))) none none).run Tryz.prog w' = .ok (.string rest) w' := fun w' => by
    have := run_slice_string_l (P := Tryz.prog) w' 9 s Tryz.underlying9 .i64 ((n : Int) + 1 + 8) (by omega) (by omega)
    rw [show ((n : Int) + 1 + 8).toNat = n + 1 + 8 by omega, h2] at this
    exact this
  clear hd h1 h2
  rcases hm with rfl | rfl
  all_goals
    go_enter Tryz.func112, Tryz.ntmps112
    go_wp2_with (first | (go_at_call 128; refine (hq _).mono ?_; rintro e w1 ⟨rfl, rfl⟩) | (go_at_call 131; refine (hr _).mono ?_; rintro e w1 ⟨rfl, rfl⟩))
    go_region
    all_goals
      go_wp2
      refine bodyPost_ret (v := .tuple #[.agg #[.string nm, .bool _, .int .i64 id], .string rest, .nilIface]) (by simp [results, Tryz.results112, go_sem]; rfl) rfl ?_
      refine ⟨rfl, ?_⟩
      first | exact (Below.refl _ _).alloc (Nat.le_refl _) _ | exact ((Below.refl _ _).alloc (Nat.le_refl _) _).drew
end Go.Proofs.YtcmbcaipnjokjaaGreatDoor.W
