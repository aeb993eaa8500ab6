/-
  The walks of 'strings.Cut' at a stroke: what stands ahead of the first one, behind it, and whether there is one, at every text of at most 4194304 bytes; the world but draws.
  The iterator that tells a path's names: its contract, for every loop body; and the walk of 'names', which makes it. Texts of at most 4194304 bytes.
  The walks of 'letters', both 'NamOk' and 'l1In': each answers as the plain function of MathNam, at every text; the world stays. No condition but the reading's own bound on a text's size.
-/
import Derived.Test.YthfffpdkmoclbaaGreatDoorMg01
import Derived.Test.YthfffpdkmoclbaaGreatDoorMg02
import Derived.OwnWalk
import Derived.BigQuiet
import Derived.Deep.QuietTactic
import Derived.RangeFuncNested
import Derived.RangeFuncBound
import Derived.RangeFuncCalls
import Derived.RangeFuncLeaves
import Derived.Shelf.Abstract
import Derived.Shelf.RegionOpen
import Derived.WalkKit
import Derived.OwnWalkIn
import Derived.TacticsInMore
import Derived.LoopNIn
import Derived.LoopIn
import Derived.WalkLawsBesides
import Derived.Outline
namespace Go.Proofs.YthfffpdkmoclbaaGreatDoor.W
open Go.RowKit Go.Proofs.YthfffpdkmoclbaaGreatDoor.M

set_option maxHeartbeats 400000 in
theorem cutS_any (s : ByteArray) (w : World) (hs : s.size ≤ 4194304) :
    Calls Tryz.prog 182 #[.string s, .string ⟨#[47]⟩] w fun e w' => e = .returned (.tuple #[.string ⟨(bef s.data.toList).toArray⟩, .string ⟨(aft s.data.toList).toArray⟩, .bool (has s.data.toList)]) ∧ ∃ n, w' = w.drewN n := by
  rcases idx_cases s.data.toList with ⟨e1, e2, e3, e4⟩ | ⟨k, e1, e2, e3, e4, e5⟩
  · rw [e2, e3, e4]
    clear e2 e3 e4
    go_enter Tryz.func182, Tryz.ntmps182
    go_wp2_with (go_at_call 191; refine (Tryz.stringslite_Index_one _ _ _).mono ?_; rintro e w' ⟨rfl, rfl⟩)
    go_ret3
    exact ⟨ret_ssb (whole s) rfl rfl, 0, rfl⟩
  · rw [e3, e4, e5]
    have hk : k < s.size := by simpa using e2
    clear e2 e3 e4 e5
    go_enter Tryz.func182, Tryz.ntmps182
    go_wp2_with (go_at_call 191; refine (Tryz.stringslite_Index_one _ _ _).mono ?_; rintro e w' ⟨rfl, rfl⟩)
    go_quiet (fail)
    go_wp2
    go_ret3
    exact ⟨ret_ssb (extract_pre s k) (extract_suf s (k + 1)) rfl, _, rfl⟩

set_option maxHeartbeats 400000 in
theorem cut_any (s : ByteArray) (w : World) (hs : s.size ≤ 4194304) :
    Calls Tryz.prog 165 #[.string s, .string ⟨#[47]⟩] w fun e w' => e = .returned (.tuple #[.string ⟨(bef s.data.toList).toArray⟩, .string ⟨(aft s.data.toList).toArray⟩, .bool (has s.data.toList)]) ∧ ∃ n, w' = w.drewN n := by
  go_enter Tryz.func165, Tryz.ntmps165
  go_wp2_with (go_at_call 182; refine (cutS_any _ _ hs).mono ?_; rintro e w' ⟨rfl, n, rfl⟩)
  go_ret3
  exact ⟨rfl, n, rfl⟩
end Go.Proofs.YthfffpdkmoclbaaGreatDoor.W
namespace Go.Proofs.YthfffpdkmoclbaaGreatDoor.W
open Go.RowKit Go.Shelf Go.Proofs.YthfffpdkmoclbaaGreatDoor.M
attribute [local go_sem] Oper.semAt_some

theorem cellNew (W : World) (v : Value) (t : TypeId) : (W.alloc (.cells #[v] t)).cell? ⟨W.heap.size, 0, none⟩ = some v ∧ (W.alloc (.cells #[v] t)).frozen? ⟨W.heap.size, 0, none⟩ = false := ⟨by simp, by simp⟩
theorem cellLater {W : World} {a : Addr} {v : Value} (o : Obj) (h : W.cell? a = some v) : (W.alloc o).cell? a = some v := cell_kept h (World.grownBy_alloc W o none) (fun r e => by cases e)
theorem frozenLater {W : World} {a : Addr} {v : Value} (o : Obj) (h : W.cell? a = some v) (hf : W.frozen? a = false) : (W.alloc o).frozen? a = false := (frozen_kept h (World.grownBy_alloc W o none) (fun r e => by cases e)).trans hf
def strLen : Value → Nat | .string s => s.size | _ => 0
def b01 : Value → Nat | .bool true => 1 | _ => 0
theorem grown_drewN (W : World) (n : Nat) : W.grownBy (W.drewN n) none := ⟨rfl, rfl, rfl, Nat.le_refl _, fun _ _ _ => rfl⟩
theorem abides_drewN {β : Type} {B : Nat} {J : β → World → Prop} (h : AbidesFrom B J) {s : β} {W : World} (n : Nat) (hs : J s W) : J s (W.drewN n) := h s W _ none hs (grown_drewN W n) (fun _ e => by cases e)

set_option maxHeartbeats 1000000 in
theorem names_stops (n : Nat) (hn : 2 ≤ n) (B : Nat) (s : ByteArray) (hs : s.size ≤ 4194304) (w : World) (hB : B < w.heap.size) (hc : w.cell? ⟨B, 0, none⟩ = some (.string s)) :
    SeqStops Fence.wide n Tryz.prog 164 #[.pointer (some ⟨B, 0, none⟩)] (fun x : List UInt8 => Value.string ⟨x.toArray⟩) (fun xs => xs = nms s.data.toList) (fun pre => pre <+: nms s.data.toList) (nms s.data.toList).length w := fun l J Jx W hW hJ hJx hY h0 => by
  have hcW : W.cell? ⟨B, 0, none⟩ = some (.string s) := (hW.cell (p := ⟨B, 0, none⟩) hB).trans hc
  have h1 : 1 ≤ n := by omega
  refine callsIn_of_wp Tryz.func164 rfl trivial ?_ rfl
  simp only [Tryz.ntmps164, List.size_toArray, List.length_cons, List.length_nil, Nat.reduceAdd, Nat.reduceSub, Array.replicate_succ, Array.replicate_zero, List.push_toArray, List.append_toArray, List.nil_append, List.cons_append]
  gi_wp2
  gi_region
  gi_wp2
  gi_loopw [3, 4, 5] (fun r m _ wr => ∃ (pre : List (List UInt8)) (rl : List UInt8) (b : Bool), r = .string ⟨rl.toArray⟩ ∧ m = .bool b ∧ rl.length ≤ 4194304 ∧ Hid (nms s.data.toList = pre ++ (if b then spl rl else [])) ∧ J pre wr) (fun r m _ _ => (strLen r + 1) * b01 m)
  case atStart =>
    exact ⟨[], s.data.toList, _, by rw [← whole s], rfl, by simpa using hs, nms_start s, abides_drewN hJ _ h0⟩
  case round =>
    obtain ⟨pre, rl, b, rfl, rfl, hrl, HN, hJs⟩ := hrel
    cases b with
    | false =>
      gi_wp2
      go_end0
      have e := HN.out
      exact ⟨⟨_, rfl⟩, .inl ⟨pre, by simpa using e.symm, hJs⟩⟩
    | true =>
      have HE : Hid (nms s.data.toList = pre ++ spl rl) := HN.out
      have hlen : pre.length < (nms s.data.toList).length := by
        rw [HE.out]; obtain ⟨h, t, e⟩ := spl_ne rl; rw [e]; simp
      have HY : ∀ q, YieldAt Fence.wide (n - 1) Tryz.prog l #[.string ⟨(bef rl).toArray⟩] (wr.drewN q) _ := fun q => hY pre (bef rl) (wr.drewN q) (abides_drewN hJ q hJs) hlen
      have hsz : (ByteArray.mk rl.toArray).size ≤ 4194304 := by rw [size_mk]; exact hrl
      gi_wp2_with (refine ⟨trivial, ?_⟩; gi_at_call 165; refine (callsIn_wide.2 (cut_any _ _ hsz)).mono ?_; rintro e w' ⟨rfl, q, rfl⟩; obtain ⟨fn, tmps, assign, body, hy, hR⟩ := HY q)
      refine hR.mono ?_
      rintro e W3 (⟨rfl, hJ3, hk3⟩ | ⟨rfl, hJx3⟩)
      · gi_wp2
        go_roundw
        case rel => exact ⟨pre ++ [bef rl], aft rl, has rl, rfl, rfl, by have := aft_le rl; omega, pre_step pre _ rl HE.out, hJ3⟩
        case measure =>
          cases hh : has rl
          · simp [strLen, b01]
          · have := aft_lt rl hh
            simp only [strLen, b01, size_mk]; omega
      · gi_wp2
        refine bodyPost_ret (results_none rfl _ _ _) rfl ?_
        refine ⟨⟨_, rfl⟩, .inr ⟨pre ++ [bef rl], ?_, hJx3⟩⟩
        rw [pre_step pre _ rl HE.out]; exact List.prefix_append _ _

set_option maxHeartbeats 400000 in
theorem names_any (s : ByteArray) (w : World) :
    Calls Tryz.prog 147 #[.string s] w fun e w' => e = .returned (.func (.func 164) #[] #[.pointer (some ⟨w.heap.size, 0, none⟩)]) ∧ w.alloc (.cells #[.string s] 162) = w' := by
  go_enter Tryz.func147, Tryz.ntmps147
  go_wp2
  go_ret
  exact ⟨rfl, rfl⟩
end Go.Proofs.YthfffpdkmoclbaaGreatDoor.W
namespace Go.Proofs.YthfffpdkmoclbaaGreatDoor.W
open Go.RowKit Go.Proofs.YthfffpdkmoclbaaGreatDoor.M


set_option maxHeartbeats 400000 in
theorem letters_any (s : ByteArray) (w : World) (hs : s.size ≤ maxLen) :
    Calls Tryz.prog 88 #[.string s] w fun e w' => e = .returned (.int .i64 (letN s.data.toList)) ∧ w = w' := by
  unfold maxLen at hs
  go_enter Tryz.func88, Tryz.ntmps88
  go_wp2
  go_loop [3] (fun n => ∃ k : Nat, k ≤ s.size ∧ n = .int .i64 k ∧ ∀ j, j < k → ∃ c, s.data.toList[j]? = some c ∧ low c = true) (fun n => s.size - (intOf n).toNat)
  case atStart => exact ⟨0, Nat.zero_le _, rfl, fun j hj => by omega⟩
  case round =>
    obtain ⟨k, hk, rfl, hall0⟩ := hrel
    have hall : Hid (∀ j, j < k → ∃ c, s.data.toList[j]? = some c ∧ low c = true) := hall0
    clear hall0
    by_cases hlt : k < s.size
    · have hi := at_idx s k hlt
      have HI : Hid (s.data.toList[k]? = some s[k]) := hi
      clear hi
      go_wp2
      case roundEnd =>
        go_round
        case rel =>
          refine ⟨k + 1, by omega, by go_num, fun j hj => ?_⟩
          by_cases e : j = k
          · subst e; exact ⟨_, HI.out, low_t _ (by omega) (by omega)⟩
          · exact hall.out j (by omega)
        case measure => simp [intOf]; omega
      · go_ret
        exact ⟨ret_int (by rw [letN_of _ k (by simpa using hk) hall.out (.inr ⟨_, HI.out, low_f2 _ ‹_›⟩)]), rfl⟩
      · go_ret
        exact ⟨ret_int (by rw [letN_of _ k (by simpa using hk) hall.out (.inr ⟨_, HI.out, low_f1 _ ‹_›⟩)]), rfl⟩
    · go_wp2
      go_ret
      exact ⟨ret_int (by rw [letN_of _ k (by simpa using hk) hall.out (.inl (by simp; omega))]), rfl⟩

theorem l1In_true (n a b : Int) (w : World) (h1 : a ≤ n) (h2 : n ≤ b) :
    Calls Tryz.prog 129 #[.int .i64 n, .int .i64 a, .int .i64 b] w fun e w' => e = .returned (.bool true) ∧ w = w' := by
  go_enter Tryz.func129, Tryz.ntmps129
  go_wp2
  go_ret
  exact ⟨ret_bool (by simp), rfl⟩

theorem l1In_false (n a b : Int) (w : World) (h : n < a ∨ b < n) :
    Calls Tryz.prog 129 #[.int .i64 n, .int .i64 a, .int .i64 b] w fun e w' => e = .returned (.bool false) ∧ w = w' := by
  by_cases h1 : n < a
  · clear h
    go_enter Tryz.func129, Tryz.ntmps129
    go_wp2
    go_ret
    exact ⟨rfl, rfl⟩
  · have h2 : b < n := by omega
    have h3 : a ≤ n := by omega
    clear h h1
    go_enter Tryz.func129, Tryz.ntmps129
    go_wp2
    go_ret
    exact ⟨ret_bool (by simp; omega), rfl⟩

theorem nam_short (l : List UInt8) (h : ¬ 1 ≤ l.length) : namB l = false := by simp [namB]; omega
theorem nam_long (l : List UInt8) (h : ¬ l.length ≤ 3) : namB l = false := by simp [namB]; omega
theorem nam_mid (l : List UInt8) (h1 : 1 ≤ l.length) (h2 : l.length ≤ 3) : namB l = decide (letN l = l.length) := by rw [namB_eq]; simp [h1, h2]
theorem nam_mid' (l : List UInt8) (h1 : 1 ≤ l.length) (h2 : l.length ≤ 3) : namB l = l.all low := by unfold namB; simp [h1, h2]

set_option maxHeartbeats 400000 in
theorem nam_impl (s : ByteArray) (w : World) (hs : s.size ≤ maxLen) :
    Calls Tryz.prog 57 #[.string s] w fun e w' => e = .returned (.bool (namB s.data.toList)) ∧ w = w' := by
  have hl := hs
  unfold maxLen at hs
  by_cases h1 : 1 ≤ s.size
  · by_cases h2 : s.size ≤ 3
    · go_enter Tryz.func57, Tryz.ntmps57
      go_wp2_with (go_at_call 88; refine (letters_any _ _ hl).mono ?_; rintro e w' ⟨rfl, rfl⟩)
      go_ret
      refine ⟨ret_bool ?_, rfl⟩
      rw [nam_mid _ (by simpa using h1) (by simpa using h2), Bool.eq_iff_iff]
      simp; omega
    · go_enter Tryz.func57, Tryz.ntmps57
      go_wp2
      go_ret
      exact ⟨ret_bool (by rw [nam_long _ (by simpa using h2)]), rfl⟩
  · go_enter Tryz.func57, Tryz.ntmps57
    go_wp2
    go_ret
    exact ⟨ret_bool (by rw [nam_short _ (by simpa using h1)]), rfl⟩

set_option maxHeartbeats 400000 in
theorem nam_spec (s : ByteArray) (w : World) (hs : s.size ≤ maxLen) :
    Calls Tryz.prog 106 #[.string s] w fun e w' => e = .returned (.bool (namB s.data.toList)) ∧ w = w' := by
  unfold maxLen at hs
  by_cases h1 : 1 ≤ s.size ∧ s.size ≤ 3
  · obtain ⟨h1, h2⟩ := h1
    go_enter Tryz.func106, Tryz.ntmps106
    go_wp2_with (go_at_call 129; refine (l1In_true _ _ _ _ (by omega) (by omega)).mono ?_; rintro e w' ⟨rfl, rfl⟩)
    go_loop [3] (fun n => ∃ k : Nat, k ≤ s.size ∧ n = .int .i64 k ∧ ∀ j, j < k → ∃ c, s.data.toList[j]? = some c ∧ low c = true) (fun n => s.size - (intOf n).toNat)
    case atStart => exact ⟨0, Nat.zero_le _, rfl, fun j hj => by omega⟩
    case round =>
      obtain ⟨k, hk, rfl, hall0⟩ := hrel
      have hall : Hid (∀ j, j < k → ∃ c, s.data.toList[j]? = some c ∧ low c = true) := hall0
      clear hall0
      by_cases hlt : k < s.size
      · have hi := at_idx s k hlt
        have HI : Hid (s.data.toList[k]? = some s[k]) := hi
        clear hi
        go_wp2
        case roundEnd =>
          go_round
          case rel =>
            refine ⟨k + 1, by omega, by go_num, fun j hj => ?_⟩
            by_cases e : j = k
            · subst e; exact ⟨_, HI.out, low_t _ (by omega) (by omega)⟩
            · exact hall.out j (by omega)
          case measure => simp [intOf]; omega
        all_goals go_ret
        all_goals refine ⟨ret_bool ?_, rfl⟩
        all_goals rw [nam_mid' _ (by simpa using h1) (by simpa using h2)]
        all_goals exact (not_all_of_idx _ k _ HI.out (low_f _ (by omega))).symm
      · go_wp2
        go_ret
        refine ⟨ret_bool ?_, rfl⟩
        rw [nam_mid' _ (by simpa using h1) (by simpa using h2)]
        obtain rfl : k = s.size := by omega
        exact (all_of_idx _ (by simpa using hall.out)).symm
  · have hB : namB s.data.toList = false := by
      by_cases h : 1 ≤ s.size
      · exact nam_long _ (fun h' => h1 ⟨h, by simpa using h'⟩)
      · exact nam_short _ (by simpa using h)
    have HB : Hid (namB s.data.toList = false) := hB
    clear hB
    go_enter Tryz.func106, Tryz.ntmps106
    go_wp2_with (go_at_call 129; refine (l1In_false _ _ _ _ (by omega)).mono ?_; rintro e w' ⟨rfl, rfl⟩)
    go_ret
    exact ⟨ret_bool (by rw [HB.out]), rfl⟩

set_option maxHeartbeats 400000 in
theorem nam_impl_long (s : ByteArray) (w : World) (h2 : ¬ s.size ≤ 3) :
    Calls Tryz.prog 57 #[.string s] w fun e w' => e = .returned (.bool (namB s.data.toList)) ∧ w = w' := by
  have h1 : 1 ≤ s.size := by omega
  go_enter Tryz.func57, Tryz.ntmps57
  go_wp2
  go_ret
  exact ⟨ret_bool (by rw [nam_long _ (by simpa using h2)]), rfl⟩
/-- NamOk of the program, at every text whatever. -/
theorem nam_all (s : ByteArray) (w : World) :
    Calls Tryz.prog 57 #[.string s] w fun e w' => e = .returned (.bool (namB s.data.toList)) ∧ w = w' := by
  by_cases h : s.size ≤ 3
  · exact nam_impl s w (by unfold maxLen; omega)
  · exact nam_impl_long s w h
end Go.Proofs.YthfffpdkmoclbaaGreatDoor.W
