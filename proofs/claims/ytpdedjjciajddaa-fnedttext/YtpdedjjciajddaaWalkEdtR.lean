
/-
  EdtRead of the program: what it cuts, and what it answers. Texts of at most 1048576 bytes.
-/
import Derived.Test.YtpdedjjciajddaaWalkDec
import Derived.Test.YtpdedjjciajddaaMathAt
import Derived.Test.YtpdedjjciajddaaShelf
namespace Go.Proofs.Ytpdedjjciajddaa.W
open Go.RowKit Go.Proofs.Ytpdedjjciajddaa.M

/-- what a reader of edits answers -/
def EdAns (r : Option TE) : Value := match r with
  | none => .tuple #[.agg #[.string ⟨#[]⟩, .string ⟨#[]⟩, .bool false], .bool false]
  | some x => .tuple #[.agg #[.string x.pa, .string x.by_, .bool x.gone], .bool true]
def lastB (s : ByteArray) : Bool := Lib.hasSuffix s.data.toList [33]
def initB (s : ByteArray) : ByteArray := s.extract 0 (s.size - 1)
def ansNo (s : ByteArray) : Option TE := if lastB s = true ∧ edtB ⟨initB s, ⟨#[]⟩, true⟩ = s then some ⟨initB s, ⟨#[]⟩, true⟩ else none
def ansAt (s : ByteArray) (k : Nat) : Option TE := match rbB (s.extract (k + 1) s.size) with
  | none => none
  | some b => if edtB ⟨s.extract 0 k, ⟨b.toArray⟩, false⟩ = s then some ⟨s.extract 0 k, ⟨b.toArray⟩, false⟩ else none
theorem ansAt_none (s : ByteArray) (k : Nat) (h : rbB (s.extract (k + 1) s.size) = none) : ansAt s k = none := by unfold ansAt; rw [h]
theorem ansAt_some (s : ByteArray) (k : Nat) (b : List UInt8) (h : rbB (s.extract (k + 1) s.size) = some b) : ansAt s k = if edtB ⟨s.extract 0 k, ⟨b.toArray⟩, false⟩ = s then some ⟨s.extract 0 k, ⟨b.toArray⟩, false⟩ else none := by unfold ansAt; rw [h]
theorem ext_size (s : ByteArray) (a b : Nat) (hs : s.size ≤ 1048576) : (s.extract a b).size ≤ 1048576 := by rw [ByteArray.size_extract]; omega
theorem suf_pos (s : ByteArray) (h : lastB s = true) : 1 ≤ s.size := by
  by_cases h0 : 1 ≤ s.size
  · exact h0
  · have : s.data.toList = [] := List.length_eq_zero_iff.1 (by rw [Array.length_toList]; have : s.data.size = s.size := rfl; omega)
    unfold lastB at h; rw [this] at h; simp [Lib.hasSuffix] at h

set_option maxHeartbeats 400000 in
theorem cutS_no (s : ByteArray) (w : World) (h : Lib.indexByte s.data.toList 61 = -1) :
    Calls Try.prog 28 #[.string s, .string ⟨#[61]⟩] w fun e w' => e = .returned (.tuple #[.string s, .string ⟨#[]⟩, .bool false]) ∧ Below w.heap.size w w' := by
  go_enter Try.func28, Try.ntmps28
  go_wp2_with (go_at_call 37; refine (Try.stringslite_Index_one _ _ _).mono ?_; rintro e w' ⟨rfl, rfl⟩)
  go_ret3
  exact ⟨rfl, Below.refl _ _⟩
set_option maxHeartbeats 400000 in
theorem cutS_at (s : ByteArray) (k : Nat) (w : World) (hs : s.size ≤ 1048576) (h : Lib.indexByte s.data.toList 61 = (k : Int)) (hk : k < s.size) :
    Calls Try.prog 28 #[.string s, .string ⟨#[61]⟩] w fun e w' => e = .returned (.tuple #[.string (s.extract 0 k), .string (s.extract (k + 1) s.size), .bool true]) ∧ Below w.heap.size w w' := by
  have hne : Nonempty (Ext w) := ⟨⟨w, Below.refl _ _⟩⟩
  go_enter Try.func28, Try.ntmps28
  go_wp2_with (go_at_call 37; refine (Try.stringslite_Index_one _ _ _).mono ?_; rintro e w' ⟨rfl, rfl⟩)
  refine region_ext (by kernel_rfl) (by kernel_rfl) ?_
  repeat (go_big_quiet_step (fail))
  refine wpQuiet_nil ?_
  rintro _ ⟨x, rfl⟩
  have hbx := x.below
  go_wp2
  go_ret3
  exact ⟨rfl, hbx⟩
theorem cut61_no (s : ByteArray) (w : World) (h : Lib.indexByte s.data.toList 61 = -1) :
    Calls Try.prog 17 #[.string s, .string ⟨#[61]⟩] w fun e w' => e = .returned (.tuple #[.string s, .string ⟨#[]⟩, .bool false]) ∧ Below w.heap.size w w' := by
  go_enter Try.func17, Try.ntmps17
  go_wp2_with (go_at_call 28; refine (cutS_no s _ h).mono ?_; rintro e w' ⟨rfl, hb⟩)
  go_ret3
  exact ⟨rfl, hb⟩
theorem cut61_at (s : ByteArray) (k : Nat) (w : World) (hs : s.size ≤ 1048576) (h : Lib.indexByte s.data.toList 61 = (k : Int)) (hk : k < s.size) :
    Calls Try.prog 17 #[.string s, .string ⟨#[61]⟩] w fun e w' => e = .returned (.tuple #[.string (s.extract 0 k), .string (s.extract (k + 1) s.size), .bool true]) ∧ Below w.heap.size w w' := by
  go_enter Try.func17, Try.ntmps17
  go_wp2_with (go_at_call 28; refine (cutS_at s k _ hs h hk).mono ?_; rintro e w' ⟨rfl, hb⟩)
  go_ret3
  exact ⟨rfl, hb⟩
theorem sufS_any (s : ByteArray) (k : Bool) (w : World) (hs : s.size ≤ 1048576) (h : lastB s = k) :
    Calls Try.prog 31 #[.string s, .string ⟨#[33]⟩] w fun e w' => e = .returned (.tuple #[.string (if k = true then initB s else s), .bool k]) ∧ w = w' := by
  have HH : Hid (∀ w, Calls Try.prog 39 #[.string s, .string ⟨#[33]⟩] w fun e w' => e = .returned (.bool k) ∧ w' = w) := fun w => by
    have := Try.stringslite_HasSuffix s ⟨#[33]⟩ w (by omega)
    unfold lastB at h
    rw [← h]; exact this
  cases k
  · clear h
    go_enter Try.func31, Try.ntmps31
    go_wp2_with (go_at_call 39; refine (HH.out _).mono ?_; rintro e w' ⟨rfl, rfl⟩)
    go_ret2
    exact ⟨rfl, rfl⟩
  · have h1 := suf_pos s h
    clear h
    have c1 : (s.size : Int) - 1 = ((s.size - 1 : Nat) : Int) := by omega
    unfold initB
    go_enter Try.func31, Try.ntmps31
    go_wp2_with (go_at_call 39; refine (HH.out _).mono ?_; rintro e w' ⟨rfl, rfl⟩)
    go_ret2
    exact ⟨rfl, rfl⟩
theorem suf_any (s : ByteArray) (k : Bool) (w : World) (hs : s.size ≤ 1048576) (h : lastB s = k) :
    Calls Try.prog 19 #[.string s, .string ⟨#[33]⟩] w fun e w' => e = .returned (.tuple #[.string (if k = true then initB s else s), .bool k]) ∧ w = w' := by
  have HH : Hid (∀ w, Calls Try.prog 31 #[.string s, .string ⟨#[33]⟩] w fun e w' => e = .returned (.tuple #[.string (if k = true then initB s else s), .bool k]) ∧ w = w') := fun w => sufS_any s k w hs h
  clear h
  generalize (if k = true then initB s else s) = t at *
  go_enter Try.func19, Try.ntmps19
  go_wp2_with (go_at_call 31; refine (HH.out _).mono ?_; rintro e w' ⟨rfl, rfl⟩)
  go_ret2
  exact ⟨rfl, rfl⟩
theorem rb_some (d : ByteArray) (b : List UInt8) (w : World) (hs : d.size ≤ 1048576) (h : rbB d = some b) :
    Calls Try.prog 18 #[.string d] w fun e w' => e = .returned (.tuple #[.string ⟨b.toArray⟩, .bool true]) ∧ Below w.heap.size w w' := by
  have := readBytes_any d w hs
  rwa [h] at this
theorem rb_none (d : ByteArray) (w : World) (hs : d.size ≤ 1048576) (h : rbB d = none) :
    Calls Try.prog 18 #[.string d] w fun e w' => e = .returned (.tuple #[.string ⟨#[]⟩, .bool false]) ∧ Below w.heap.size w w' := by
  have := readBytes_any d w hs
  rwa [h] at this
end Go.Proofs.Ytpdedjjciajddaa.W
