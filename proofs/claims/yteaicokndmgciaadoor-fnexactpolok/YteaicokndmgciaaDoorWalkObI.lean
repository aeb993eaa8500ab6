
/-
  The walks of the program's ObjKind, ObjBytes and ObjEntries. Texts of at most 1048576 bytes.
-/
import Derived.Test.YteaicokndmgciaaDoorWalkObR
namespace Go.Proofs.YteaicokndmgciaaDoor.W
open Go.RowKit Go.Proofs.YteaicokndmgciaaDoor.M

theorem ta_n1 (w : World) : (Instr.typeAssert .nilIface 41 44 true).run Tryd.prog w = .ok (.tuple #[.agg #[.string ⟨#[]⟩], .bool false]) w := by kernel_rfl
theorem ta_n2 (w : World) : (Instr.typeAssert .nilIface 41 46 true).run Tryd.prog w = .ok (.tuple #[.agg #[.slice none 0 0], .bool false]) w := by kernel_rfl
theorem ta_l1 (v : Value) (w : World) : (Instr.typeAssert (.iface 44 v) 41 44 true).run Tryd.prog w = .ok (.tuple #[v, .bool true]) w := by kernel_rfl
theorem ta_l2 (v : Value) (w : World) : (Instr.typeAssert (.iface 44 v) 41 46 true).run Tryd.prog w = .ok (.tuple #[.agg #[.slice none 0 0], .bool false]) w := by kernel_rfl
theorem ta_s1 (v : Value) (w : World) : (Instr.typeAssert (.iface 46 v) 41 44 true).run Tryd.prog w = .ok (.tuple #[.agg #[.string ⟨#[]⟩], .bool false]) w := by kernel_rfl
theorem ta_s2 (v : Value) (w : World) : (Instr.typeAssert (.iface 46 v) 41 46 true).run Tryd.prog w = .ok (.tuple #[v, .bool true]) w := by kernel_rfl
set_option maxRecDepth 100000 in
set_option maxHeartbeats 1000000 in
theorem objKind_impl (s : ByteArray) (w : World) (hs : s.size ≤ 1048576) (hg : TypeCell w) :
    Calls Tryd.prog 14 #[.string s] w fun e w' => e = .returned (.int .i64 ((kd s : Nat) : Int)) ∧ Below w.heap.size w w' := by
  have q := fun w hg => objectOf_any s w hs hg
  have n1 := ta_n1
  have n2 := ta_n2
  have l1 := ta_l1
  have l2 := ta_l2
  have s1 := ta_s1
  have s2 := ta_s2
  unfold ObAns at q
  generalize restB s = r at *
  go_enter Tryd.func14, Tryd.ntmps14
  go_wp2_with (go_at_call 17; refine (q _ hg).mono ?_; rintro e w1 ⟨⟨rfl, hk⟩ | ⟨rfl, hk⟩ | ⟨A, c, L, rfl, hk, _, _⟩, hb⟩)
  all_goals
    go_ret
    rw [hk]
    exact ⟨rfl, hb⟩
end Go.Proofs.YteaicokndmgciaaDoor.W
