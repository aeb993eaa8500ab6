
/-
  The walks of TreFind, of the program and of the specification. At most 1048576 files.
-/
import Derived.Test.YtbceegonaomblaaRowF
import Derived.Test.YtbceegonaomblaaMathTxt
namespace Go.Proofs.Ytbceegonaomblaa.W
open Go.RowKit

/-- the bytes of the first file at a path -/
def findF : List TF → ByteArray → Option ByteArray
  | [], _ => none
  | x :: l, p => if x.pa = p then some x.by_ else findF l p
theorem findF_step (L : List TF) (p : ByteArray) (j : Nat) (h : j < L.length) : findF (L.drop j) p = if (L[j]).pa = p then some (L[j]).by_ else findF (L.drop (j + 1)) p := by
  rw [List.drop_eq_getElem_cons h]; rfl
def findV (L : List TF) (p : ByteArray) : Value := match findF L p with
  | some t => .tuple #[.string t, .bool true]
  | none => .tuple #[.string ByteArray.empty, .bool false]

theorem findV_some {L : List TF} {p t : ByteArray} (h : findF L p = some t) : findV L p = .tuple #[.string t, .bool true] := by unfold findV; rw [h]
theorem findV_none {L : List TF} {p : ByteArray} (h : findF L p = none) : findV L p = .tuple #[.string ByteArray.empty, .bool false] := by unfold findV; rw [h]

set_option maxHeartbeats 1000000 in
theorem l4Find_any (A : Option Addr) (c : Nat) (L : List TF) (p : ByteArray) (w : World) (hL : RdF w.heap.size w A L) (hn : L.length ≤ 1048576) :
    Calls Try.prog 39 #[.slice A L.length c, .string p] w fun e w' => ((e = .returned (.int .i64 (-1)) ∧ findF L p = none) ∨ (∃ j : Nat, ∃ h : j < L.length, e = .returned (.int .i64 j) ∧ findF L p = some (L[j]).by_)) ∧ w = w' := by
  have HL : Hid (RdF w.heap.size w A L) := hL
  clear hL
  go_enter Try.func39, Try.ntmps39
  go_wp2
  go_loopw [5] (fun iv wr => ∃ j : Nat, j ≤ L.length ∧ iv = .int .i64 j ∧ Hid (findF L p = findF (L.drop j) p) ∧ w = wr) (fun i _ => L.length - (intOf i).toNat)
  case atStart => exact ⟨0, Nat.zero_le _, rfl, rfl, rfl⟩
  case round =>
    obtain ⟨j, hj, rfl, HS, rfl⟩ := hrel
    by_cases hlt : j < L.length
    · have HX : Hid (findF L p = _) := HS.out.trans (findF_step L p j hlt)
      obtain ⟨b, o, rfl, hbl, c1, c2⟩ := HL.out j hlt
      by_cases hq : (L[j]).pa = p
      · have HY : Hid (findF L p = some (L[j]).by_) := by have := HX.out; rwa [if_pos hq] at this
        rw [hq] at c1
        clear HX hq HS
        go_wp2
        go_ret
        exact ⟨Or.inr ⟨j, hlt, rfl, HY.out⟩, rfl⟩
      · have HY : Hid (findF L p = findF (L.drop (j + 1)) p) := by have := HX.out; rwa [if_neg hq] at this
        generalize (L[j]).pa = f at *
        generalize (L[j]).by_ = f' at *
        have hbe := bytes_ne hq
        clear HX HS
        go_wp2
        go_roundw
        case rel => exact ⟨j + 1, by omega, by go_num, HY, trivial⟩
        case measure => simp [intOf]; omega
    · go_wp2
      go_ret
      obtain rfl : j = L.length := by omega
      have e := HS.out
      rw [List.drop_length] at e
      exact ⟨Or.inl ⟨rfl, e⟩, rfl⟩

set_option maxHeartbeats 1000000 in
theorem treFind_impl (A : Option Addr) (c : Nat) (L : List TF) (p : ByteArray) (w : World) (hL : RdF w.heap.size w A L) (hn : L.length ≤ 1048576) :
    Calls Try.prog 17 #[.slice A L.length c, .string p] w fun e w' => e = .returned (findV L p) ∧ Below w.heap.size w w' := by
  have HL : Hid (RdF w.heap.size w A L) := hL
  clear hL
  go_enter Try.func17, Try.ntmps17
  go_wp2
  go_loopw [10] (fun iv wr => ∃ j : Nat, j ≤ L.length ∧ iv = .int .i64 j ∧ Hid (findF L p = findF (L.drop j) p) ∧ Below w.heap.size w wr) (fun i _ => L.length - (intOf i).toNat)
  case atStart => exact ⟨0, Nat.zero_le _, rfl, rfl, Below.refl _ _⟩
  case round =>
    obtain ⟨j, hj, rfl, HS, hb⟩ := hrel
    have hsz := hb.size
    by_cases hlt : j < L.length
    · have HX : Hid (findF L p = _) := HS.out.trans (findF_step L p j hlt)
      obtain ⟨b, o, rfl, hbl, c1, c2⟩ := (HL.out.below hb (Nat.le_refl _)) j hlt
      by_cases hq : (L[j]).pa = p
      · have HY : Hid (findV L p = .tuple #[.string (L[j]).by_, .bool true]) := by have := HX.out; rw [if_pos hq] at this; show _ = _; unfold findV; rw [this]
        rw [hq] at c1
        generalize (L[j]).by_ = t at *
        clear HX hq HS
        go_wp2
        go_ret2
        exact ⟨by rw [HY.out]; rfl, hb.alloc (by omega) _⟩
      · have HY : Hid (findF L p = findF (L.drop (j + 1)) p) := by have := HX.out; rwa [if_neg hq] at this
        generalize (L[j]).pa = f at *
        generalize (L[j]).by_ = f' at *
        have hbe := bytes_ne hq
        clear HX HS
        go_wp2
        go_roundw
        case rel => exact ⟨j + 1, by omega, by go_num, HY, hb.alloc (by omega) _⟩
        case measure => simp [intOf]; omega
    · have HY : Hid (findV L p = .tuple #[.string ByteArray.empty, .bool false]) := by
        obtain rfl : j = L.length := by omega
        have e := HS.out
        rw [List.drop_length] at e
        show _ = _
        unfold findV; rw [e]; rfl
      go_wp2
      go_ret2
      exact ⟨by rw [HY.out]; rfl, hb⟩
end Go.Proofs.Ytbceegonaomblaa.W
