
/-
  The walks of the draws of rules with what is asked of them: some rules, at most eight, in memory of their own, and some numbers and texts; of what lay nothing has turned.
-/
import Derived.Test.YtmjmkgigopinbaaSlotRM
import Derived.Test.YtmjmkgigopinbaaSlotRS
import Derived.Test.YtmjmkgigopinbaaWalkDraw3
namespace Go.Proofs.Ytmjmkgigopinbaa.W
open Go.RowKit Go.Proofs.Ytmjmkgigopinbaa.M

theorem belowOf {w w1 w2 : World} (h : w.grownBy w1 none) (k : w1.grownBy w2 (some w.heap.size)) : Below w.heap.size w w2 :=
  ((Below.refl _ _).grown h (Nat.le_refl _) (fun _ e => by cases e)).grown k h.size (fun _ e => by cases e; exact Nat.le_refl _)

set_option maxHeartbeats 2000000 in
theorem drawRulMay_any (w : World) (a : Option Addr) (len cap : Nat) (zs : Nat → Int) (h : Src w a len cap zs) :
    Calls Try.prog 8 #[.slice a len cap] w fun e w' => ∃ (v : Value) (L : List RR) (u : Nat) (ref path : ByteArray) (wt : Bool), e = .returned (.tuple #[v, .int .i64 u, .string ref, .string path, .bool wt]) ∧ v ≠ .slice none 0 0 ∧ L.length ≤ 8 ∧ SmR L ∧ w'.ownsRow w.heap.size 32 4 v L.length (cellsR L) ∧ u < 5 ∧ ref.size ≤ 64 ∧ path.size ≤ 64 ∧ Below w.heap.size w w' := by
  go_enter Try.func8, Try.ntmps8
  go_wp2_with (go_at_call 27; refine (open_any _ a len cap zs h).mono ?_; rintro e w1 ⟨a', len', cap', rfl, hR1, hl1, hg1⟩)
  rename_i K hK
  refine frontRM (p := 0) (by kernel_rfl) rfl rfl rfl hR1 (by omega) hl1 ?_
  intro y w2 q hq hR2 hg2 hall
  obtain ⟨L, h1, h2, h3, h4⟩ := hall 14 (by omega)
  obtain ⟨u, hu, e3⟩ := hall 15 (by omega)
  obtain ⟨ref, e4, hr⟩ := hall 16 (by omega)
  obtain ⟨path, e5, hpp⟩ := hall 17 (by omega)
  obtain ⟨wt, e6⟩ := hall 18 (by omega)
  simp only [slotRM] at h1 h4 e3 e4 e5 e6
  have hB := belowOf hg1 hg2
  refine hK _ _ ?_
  clear hK hall
  rw [e3, e4, e5, e6]
  generalize y 2 = v at h1 h4
  go_wp2
  refine bodyPost_ret (v := .tuple #[v, .int .i64 u, .string ref, .string path, .bool wt]) (by simp [results, Try.results8, go_sem]) rfl ?_
  exact ⟨v, L, u, ref, path, wt, rfl, h1, h2, h3, ownsDown h4 (by omega), hu, hr, hpp, hB⟩
set_option maxHeartbeats 2000000 in
theorem drawRulSees_any (w : World) (a : Option Addr) (len cap : Nat) (zs : Nat → Int) (h : Src w a len cap zs) :
    Calls Try.prog 24 #[.slice a len cap] w fun e w' => ∃ (v : Value) (L : List RR) (u : Nat) (ref : ByteArray), e = .returned (.tuple #[v, .int .i64 u, .string ref]) ∧ v ≠ .slice none 0 0 ∧ L.length ≤ 8 ∧ SmR L ∧ w'.ownsRow w.heap.size 32 4 v L.length (cellsR L) ∧ u < 5 ∧ ref.size ≤ 64 ∧ Below w.heap.size w w' := by
  go_enter Try.func24, Try.ntmps24
  go_wp2_with (go_at_call 27; refine (open_any _ a len cap zs h).mono ?_; rintro e w1 ⟨a', len', cap', rfl, hR1, hl1, hg1⟩)
  rename_i K hK
  refine frontRS (p := 0) (by kernel_rfl) rfl rfl rfl hR1 (by omega) hl1 ?_
  intro y w2 q hq hR2 hg2 hall
  obtain ⟨L, h1, h2, h3, h4⟩ := hall 9 (by omega)
  obtain ⟨u, hu, e3⟩ := hall 10 (by omega)
  obtain ⟨ref, e4, hr⟩ := hall 11 (by omega)
  simp only [slotRS] at h1 h4 e3 e4
  have hB := belowOf hg1 hg2
  refine hK _ _ ?_
  clear hK hall
  rw [e3, e4]
  generalize y 2 = v at h1 h4
  go_wp2
  refine bodyPost_ret (v := .tuple #[v, .int .i64 u, .string ref]) (by simp [results, Try.results24, go_sem]) rfl ?_
  exact ⟨v, L, u, ref, rfl, h1, h2, h3, ownsDown h4 (by omega), hu, hr, hB⟩
end Go.Proofs.Ytmjmkgigopinbaa.W
