
/-
  The iterator that tells a path's names: its contract, for every loop body; and the walk of 'names', which makes it. Texts of at most 4194304 bytes.
-/
import Derived.RangeFuncNested
import Derived.RangeFuncBound
import Derived.RangeFuncCalls
import Derived.RangeFuncLeaves
import Derived.Shelf.Abstract
import Derived.Shelf.RegionOpen
import Derived.WalkKit
import Derived.OwnWalkIn
import Derived.TacticsInMore
import Derived.LoopNIn
import Derived.LoopIn
import Derived.Test.YtgbcgchnnmgmfaaWalkCut
namespace Go.Proofs.Ytgbcgchnnmgmfaa.W
open Go.RowKit Go.Shelf Go.Proofs.Ytgbcgchnnmgmfaa.M
attribute [local go_sem] Oper.semAt_some

theorem cellNew (W : World) (v : Value) (t : TypeId) : (W.alloc (.cells #[v] t)).cell? ⟨W.heap.size, 0, none⟩ = some v ∧ (W.alloc (.cells #[v] t)).frozen? ⟨W.heap.size, 0, none⟩ = false := ⟨by simp, by simp⟩
theorem cellLater {W : World} {a : Addr} {v : Value} (o : Obj) (h : W.cell? a = some v) : (W.alloc o).cell? a = some v := cell_kept h (World.grownBy_alloc W o none) (fun r e => by cases e)
theorem frozenLater {W : World} {a : Addr} {v : Value} (o : Obj) (h : W.cell? a = some v) (hf : W.frozen? a = false) : (W.alloc o).frozen? a = false := (frozen_kept h (World.grownBy_alloc W o none) (fun r e => by cases e)).trans hf
def strLen : Value → Nat | .string s => s.size | _ => 0
def b01 : Value → Nat | .bool true => 1 | _ => 0
theorem grown_drewN (W : World) (n : Nat) : W.grownBy (W.drewN n) none := ⟨rfl, rfl, rfl, Nat.le_refl _, fun _ _ _ => rfl⟩
theorem abides_drewN {β : Type} {B : Nat} {J : β → World → Prop} (h : AbidesFrom B J) {s : β} {W : World} (n : Nat) (hs : J s W) : J s (W.drewN n) := h s W _ none hs (grown_drewN W n) (fun _ e => by cases e)

set_option maxHeartbeats 1000000 in
theorem names_stops (n : Nat) (hn : 2 ≤ n) (B : Nat) (s : ByteArray) (hs : s.size ≤ 4194304) (w : World) (hB : B < w.heap.size) (hc : w.cell? ⟨B, 0, none⟩ = some (.string s)) :
    SeqStops Fence.wide n Try.prog 55 #[.pointer (some ⟨B, 0, none⟩)] (fun x : List UInt8 => Value.string ⟨x.toArray⟩) (fun xs => xs = nms s.data.toList) (fun pre => pre <+: nms s.data.toList) (nms s.data.toList).length w := fun l J Jx W hW hJ hJx hY h0 => by
  have hcW : W.cell? ⟨B, 0, none⟩ = some (.string s) := (hW.cell (p := ⟨B, 0, none⟩) hB).trans hc
  have h1 : 1 ≤ n := by omega
  refine callsIn_of_wp Try.func55 rfl trivial ?_ rfl
  simp only [Try.ntmps55, List.size_toArray, List.length_cons, List.length_nil, Nat.reduceAdd, Nat.reduceSub, Array.replicate_succ, Array.replicate_zero, List.push_toArray, List.append_toArray, List.nil_append, List.cons_append]
  gi_wp2
  gi_region
  gi_wp2
  gi_loopw [3, 4, 5] (fun r m _ wr => ∃ (pre : List (List UInt8)) (rl : List UInt8) (b : Bool), r = .string ⟨rl.toArray⟩ ∧ m = .bool b ∧ rl.length ≤ 4194304 ∧ Hid (nms s.data.toList = pre ++ (if b then spl rl else [])) ∧ J pre wr) (fun r m _ _ => (strLen r + 1) * b01 m)
  case atStart =>
    exact ⟨[], s.data.toList, _, by rw [← whole s], rfl, by simpa using hs, nms_start s, abides_drewN hJ _ h0⟩
  case round =>
    obtain ⟨pre, rl, b, rfl, rfl, hrl, HN, hJs⟩ := hrel
    cases b with
    | false =>
      gi_wp2
      go_end0
      have e := HN.out
      exact ⟨⟨_, rfl⟩, .inl ⟨pre, by simpa using e.symm, hJs⟩⟩
    | true =>
      have HE : Hid (nms s.data.toList = pre ++ spl rl) := HN.out
      have hlen : pre.length < (nms s.data.toList).length := by
        rw [HE.out]; obtain ⟨h, t, e⟩ := spl_ne rl; rw [e]; simp
      have HY : ∀ q, YieldAt Fence.wide (n - 1) Try.prog l #[.string ⟨(bef rl).toArray⟩] (wr.drewN q) _ := fun q => hY pre (bef rl) (wr.drewN q) (abides_drewN hJ q hJs) hlen
      have hsz : (ByteArray.mk rl.toArray).size ≤ 4194304 := by rw [size_mk]; exact hrl
      gi_wp2_with (refine ⟨trivial, ?_⟩; gi_at_call 56; refine (callsIn_wide.2 (cut_any _ _ hsz)).mono ?_; rintro e w' ⟨rfl, q, rfl⟩; obtain ⟨fn, tmps, assign, body, hy, hR⟩ := HY q)
      refine hR.mono ?_
      rintro e W3 (⟨rfl, hJ3, hk3⟩ | ⟨rfl, hJx3⟩)
      · gi_wp2
        go_roundw
        case rel => exact ⟨pre ++ [bef rl], aft rl, has rl, rfl, rfl, by have := aft_le rl; omega, pre_step pre _ rl HE.out, hJ3⟩
        case measure =>
          cases hh : has rl
          · simp [strLen, b01]
          · have := aft_lt rl hh
            simp only [strLen, b01, size_mk]; omega
      · gi_wp2
        refine bodyPost_ret (results_none rfl _ _ _) rfl ?_
        refine ⟨⟨_, rfl⟩, .inr ⟨pre ++ [bef rl], ?_, hJx3⟩⟩
        rw [pre_step pre _ rl HE.out]; exact List.prefix_append _ _

set_option maxHeartbeats 400000 in
theorem names_any (s : ByteArray) (w : World) :
    Calls Try.prog 50 #[.string s] w fun e w' => e = .returned (.func (.func 55) #[] #[.pointer (some ⟨w.heap.size, 0, none⟩)]) ∧ w.alloc (.cells #[.string s] 63) = w' := by
  go_enter Try.func50, Try.ntmps50
  go_wp2
  go_ret
  exact ⟨rfl, rfl⟩
end Go.Proofs.Ytgbcgchnnmgmfaa.W
