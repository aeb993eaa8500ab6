
/-
  The walks of PolGet, of the program and of the specification: both go by halves, and come to the same. At most 1048576 items.
-/
import Derived.Test.YtcmbcaipnjokjaaGreatDoorWalkPolS
namespace Go.Proofs.YtcmbcaipnjokjaaGreatDoor.W
open Go.RowKit

/-- where the halves end -/
def atL (L : List PI) (id : Int) : Nat → Nat → Nat → Nat
  | 0, low, _ => low
  | f + 1, low, high => if low < high then (if ((L.getD ((low + high) / 2) ⟨0, ByteArray.empty⟩).id < id) then atL L id f ((low + high) / 2 + 1) high else atL L id f low ((low + high) / 2)) else low
theorem atL_step (L : List PI) (id : Int) (f low high : Nat) (hf : high - low ≤ f) (h : low < high) (hh : high ≤ L.length) :
    ∃ f', atL L id f low high = (if (L[(low + high) / 2]'(by omega)).id < id then atL L id f' ((low + high) / 2 + 1) high else atL L id f' low ((low + high) / 2)) ∧ high - ((low + high) / 2 + 1) ≤ f' ∧ (low + high) / 2 - low ≤ f' := by
  cases f with
  | zero => omega
  | succ f =>
    refine ⟨f, ?_, by omega, by omega⟩
    rw [atL, if_pos h]
    have e : (L.getD ((low + high) / 2) ⟨0, ByteArray.empty⟩) = L[(low + high) / 2]'(by omega) := by
      simp [List.getD, show (low + high) / 2 < L.length by omega]
    rw [e]
theorem atL_end (L : List PI) (id : Int) (f low high : Nat) (h : ¬ low < high) : atL L id f low high = low := by
  cases f with
  | zero => rfl
  | succ f => rw [atL, if_neg h]
/-- the place at which the halves end -/
def plP (L : List PI) (id : Int) : Nat := atL L id L.length 0 L.length
/-- what PolGet answers -/
def getP (L : List PI) (id : Int) : Option ByteArray := if h : plP L id < L.length then (if (L[plP L id]).id = id then some (L[plP L id]).tx else none) else none

set_option maxHeartbeats 1000000 in
theorem l3At_any (A : Option Addr) (c : Nat) (L : List PI) (id : Int) (w : World) (hL : RdP w.heap.size w A L) (hn : L.length ≤ 1048576) :
    Calls Tryz.prog 42 #[.slice A L.length c, .int .i64 id] w fun e w' => e = .returned (.int .i64 (plP L id)) ∧ w = w' := by
  have HL : Hid (RdP w.heap.size w A L) := hL
  clear hL
  go_enter Tryz.func42, Tryz.ntmps42
  go_wp2
  go_loopw [5, 6] (fun lv hv wr => ∃ low high f : Nat, low ≤ high ∧ high ≤ L.length ∧ lv = .int .i64 low ∧ hv = .int .i64 high ∧ Hid (high - low ≤ f) ∧ Hid (plP L id = atL L id f low high) ∧ w = wr) (fun l h _ => (intOf h).toNat - (intOf l).toNat)
  case atStart => exact ⟨0, L.length, L.length, Nat.zero_le _, Nat.le_refl _, rfl, rfl, by show _ ≤ _; omega, rfl, rfl⟩
  case round =>
    obtain ⟨low, high, f, hlh, hh, rfl, rfl, HF, HP, rfl⟩ := hrel
    by_cases hlt : low < high
    · obtain ⟨f', e, e1, e2⟩ := atL_step L id f low high HF.out hlt hh
      have HE : Hid (plP L id = _) := HP.out.trans e
      clear e HP HF
      obtain ⟨m, hm⟩ : ∃ m, (low + high) / 2 = m := ⟨_, rfl⟩
      have hmi : ((low : Int) + (high : Int)) / 2 = (m : Int) := by omega
      have hml : m < L.length := by omega
      simp only [hm] at HE e1 e2
      obtain ⟨b, o, rfl, hbl, c1, c2⟩ := HL.out m hml
      generalize hid : (L[m]).id = i at *
      have h1 : low ≤ m := by omega
      have h2 : m < high := by omega
      by_cases hi : i < id
      · have HE' : Hid (plP L id = atL L id f' (m + 1) high) := by have := HE.out; rwa [if_pos hi] at this
        have E1 : Hid (high - (m + 1) ≤ f') := e1
        clear HE e1 e2 hid hm
        go_wp2
        go_roundw
        case rel => exact ⟨m + 1, high, f', by omega, by omega, by go_num, by go_num, E1, HE', trivial⟩
        case measure => simp [intOf]; omega
      · have HE' : Hid (plP L id = atL L id f' low m) := by have := HE.out; rwa [if_neg hi] at this
        have E1 : Hid (m - low ≤ f') := e2
        clear HE e1 e2 hid hm
        go_wp2
        go_roundw
        case rel => exact ⟨low, m, f', by omega, by omega, by go_num, by go_num, E1, HE', trivial⟩
        case measure => simp [intOf]; omega
    · go_wp2
      go_ret
      exact ⟨ret_int (by rw [HP.out, atL_end L id f low high hlt]), rfl⟩

/-- what PolGet answers, as a pair -/
def getV (L : List PI) (id : Int) : Value := match getP L id with
  | some t => .tuple #[.string t, .bool true]
  | none => .tuple #[.string ByteArray.empty, .bool false]

set_option maxHeartbeats 1000000 in
theorem polGet_spec (A : Option Addr) (c : Nat) (L : List PI) (id : Int) (w : World) (hL : RdP w.heap.size w A L) (hn : L.length ≤ 1048576) :
    Calls Tryz.prog 49 #[.slice A L.length c, .int .i64 id] w fun e w' => e = .returned (getV L id) ∧ w = w' := by
  have hat := l3At_any A c L id w hL hn
  unfold getV getP
  generalize hp : plP L id = p at *
  by_cases h : p < L.length
  · obtain ⟨b, o, rfl, hbl, c1, c2⟩ := hL p h
    rw [dif_pos h]
    by_cases hi : (L[p]).id = id
    · rw [if_pos hi]
      rw [hi] at c1
      generalize (L[p]).tx = t at *
      clear hL hi hp
      go_enter Tryz.func49, Tryz.ntmps49
      go_wp2_with (go_at_call 42; refine hat.mono ?_; rintro e w' ⟨rfl, rfl⟩)
      go_ret2
      exact ⟨rfl, rfl⟩
    · rw [if_neg hi]
      generalize (L[p]).tx = t at *
      generalize (L[p]).id = i at *
      clear hL hp
      go_enter Tryz.func49, Tryz.ntmps49
      go_wp2_with (go_at_call 42; refine hat.mono ?_; rintro e w' ⟨rfl, rfl⟩)
      go_ret2
      exact ⟨rfl, rfl⟩
  · rw [dif_neg h]
    clear hL hp
    go_enter Tryz.func49, Tryz.ntmps49
    go_wp2_with (go_at_call 42; refine hat.mono ?_; rintro e w' ⟨rfl, rfl⟩)
    go_ret2
    exact ⟨rfl, rfl⟩

end Go.Proofs.YtcmbcaipnjokjaaGreatDoor.W
