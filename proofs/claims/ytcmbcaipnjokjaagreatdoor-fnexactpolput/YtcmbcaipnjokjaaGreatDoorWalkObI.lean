
/-
  The walks of the program's ObjKind, ObjBytes and ObjEntries. Texts of at most 1048576 bytes.
-/
import Derived.Test.YtcmbcaipnjokjaaGreatDoorWalkObR
namespace Go.Proofs.YtcmbcaipnjokjaaGreatDoor.W
open Go.RowKit Go.Proofs.YtcmbcaipnjokjaaGreatDoor.M

theorem ta_n1 (w : World) : (Instr.typeAssert .nilIface 89 92 true).run Tryz.prog w = .ok (.tuple #[.agg #[.string ⟨#[]⟩], .bool false]) w := by kernel_rfl
theorem ta_n2 (w : World) : (Instr.typeAssert .nilIface 89 94 true).run Tryz.prog w = .ok (.tuple #[.agg #[.slice none 0 0], .bool false]) w := by kernel_rfl
theorem ta_l1 (v : Value) (w : World) : (Instr.typeAssert (.iface 92 v) 89 92 true).run Tryz.prog w = .ok (.tuple #[v, .bool true]) w := by kernel_rfl
theorem ta_l2 (v : Value) (w : World) : (Instr.typeAssert (.iface 92 v) 89 94 true).run Tryz.prog w = .ok (.tuple #[.agg #[.slice none 0 0], .bool false]) w := by kernel_rfl
theorem ta_s1 (v : Value) (w : World) : (Instr.typeAssert (.iface 94 v) 89 92 true).run Tryz.prog w = .ok (.tuple #[.agg #[.string ⟨#[]⟩], .bool false]) w := by kernel_rfl
theorem ta_s2 (v : Value) (w : World) : (Instr.typeAssert (.iface 94 v) 89 94 true).run Tryz.prog w = .ok (.tuple #[v, .bool true]) w := by kernel_rfl
set_option maxRecDepth 100000 in
set_option maxHeartbeats 1000000 in
theorem objKind_impl (s : ByteArray) (w : World) (hs : s.size ≤ 1048576) (hg : TypeCell w) :
    Calls Tryz.prog 45 #[.string s] w fun e w' => e = .returned (.int .i64 ((kd s : Nat) : Int)) ∧ Below w.heap.size w w' := by
  have q := fun w hg => objectOf_any s w hs hg
  have n1 := ta_n1
  have n2 := ta_n2
  have l1 := ta_l1
  have l2 := ta_l2
  have s1 := ta_s1
  have s2 := ta_s2
  unfold ObAns at q
  generalize restB s = r at *
  go_enter Tryz.func45, Tryz.ntmps45
  go_wp2_with (go_at_call 61; refine (q _ hg).mono ?_; rintro e w1 ⟨⟨rfl, hk⟩ | ⟨rfl, hk⟩ | ⟨A, c, L, rfl, hk, _, _⟩, hb⟩)
  all_goals
    go_ret
    rw [hk]
    exact ⟨rfl, hb⟩
/-- the bytes of a leaf -/
def byB (s : ByteArray) : ByteArray := if kd s = 1 then restB s else ⟨#[]⟩
theorem byB_yes (s : ByteArray) (h : kd s = 1) : byB s = restB s := by unfold byB; rw [if_pos h]
theorem byB_no (s : ByteArray) (h : kd s ≠ 1) : byB s = ⟨#[]⟩ := by unfold byB; rw [if_neg h]
set_option maxRecDepth 100000 in
set_option maxHeartbeats 1000000 in
theorem objBytes_impl (s : ByteArray) (w : World) (hs : s.size ≤ 1048576) (hg : TypeCell w) :
    Calls Tryz.prog 89 #[.string s] w fun e w' => e = .returned (.tuple #[.string (byB s), .bool (decide (kd s = 1))]) ∧ Below w.heap.size w w' := by
  have q := fun w hg => objectOf_any s w hs hg
  have n1 := ta_n1
  have n2 := ta_n2
  have l1 := ta_l1
  have l2 := ta_l2
  have s1 := ta_s1
  have s2 := ta_s2
  have y1 := byB_yes s
  have y2 := byB_no s
  unfold ObAns at q
  generalize restB s = r at *
  go_enter Tryz.func89, Tryz.ntmps89
  go_wp2_with (go_at_call 61; refine (q _ hg).mono ?_; rintro e w1 ⟨⟨rfl, hk⟩ | ⟨rfl, hk⟩ | ⟨A, c, L, rfl, hk, _, _⟩, hb⟩)
  · go_ret2
    rw [y2 (by omega), hk]
    exact ⟨rfl, hb⟩
  · go_ret2
    rw [y1 hk, hk]
    exact ⟨rfl, hb.alloc hb.size _⟩
  · go_ret2
    rw [y2 (by omega), hk]
    exact ⟨rfl, hb⟩
set_option maxRecDepth 100000 in
set_option maxHeartbeats 1000000 in
theorem objEntries_impl (s : ByteArray) (w : World) (hs : s.size ≤ 1048576) (hg : TypeCell w) :
    Calls Tryz.prog 65 #[.string s] w fun e w' => ((e = .returned (.tuple #[.slice none 0 0, .bool false]) ∧ kd s ≠ 2) ∨ (∃ (A : Option Addr) (c : Nat) (L : List OE), e = .returned (.tuple #[.slice A L.length c, .bool true]) ∧ kd s = 2 ∧ sheetI (s.data.toList.drop 1) = some (L.map enO) ∧ w'.ownsRow w.heap.size 102 3 (.slice A L.length c) L.length (cellsO L))) ∧ Below w.heap.size w w' := by
  have q := fun w hg => objectOf_any s w hs hg
  have n1 := ta_n1
  have n2 := ta_n2
  have l1 := ta_l1
  have l2 := ta_l2
  have s1 := ta_s1
  have s2 := ta_s2
  unfold ObAns at q
  generalize restB s = r at *
  go_enter Tryz.func65, Tryz.ntmps65
  go_wp2_with (go_at_call 61; refine (q _ hg).mono ?_; rintro e w1 ⟨⟨rfl, hk⟩ | ⟨rfl, hk⟩ | ⟨A, c, L, rfl, hk, hk2, ow⟩, hb⟩)
  · go_ret2
    exact ⟨.inl ⟨rfl, by omega⟩, hb⟩
  · go_ret2
    exact ⟨.inl ⟨rfl, by omega⟩, hb⟩
  · go_ret2
    exact ⟨.inr ⟨A, c, L, rfl, hk, hk2, ow.alloc _⟩, hb.alloc hb.size _⟩
end Go.Proofs.YtcmbcaipnjokjaaGreatDoor.W
