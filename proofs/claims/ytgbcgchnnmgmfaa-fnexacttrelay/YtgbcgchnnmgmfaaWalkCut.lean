
/-
  The walks of 'strings.Cut' at a stroke: what stands ahead of the first one, behind it, and whether there is one, at every text of at most 4194304 bytes; the world but draws.
-/
import Derived.Test.YtgbcgchnnmgmfaaBase
import Derived.Test.YtgbcgchnnmgmfaaMathPth
import Derived.Test.YtgbcgchnnmgmfaaShelf
import Derived.OwnWalk
import Derived.BigQuiet
import Derived.Deep.QuietTactic
namespace Go.Proofs.Ytgbcgchnnmgmfaa.W
open Go.RowKit Go.Proofs.Ytgbcgchnnmgmfaa.M

set_option maxHeartbeats 400000 in
theorem cutS_any (s : ByteArray) (w : World) (hs : s.size ≤ 4194304) :
    Calls Try.prog 59 #[.string s, .string ⟨#[47]⟩] w fun e w' => e = .returned (.tuple #[.string ⟨(bef s.data.toList).toArray⟩, .string ⟨(aft s.data.toList).toArray⟩, .bool (has s.data.toList)]) ∧ ∃ n, w' = w.drewN n := by
  rcases idx_cases s.data.toList with ⟨e1, e2, e3, e4⟩ | ⟨k, e1, e2, e3, e4, e5⟩
  · rw [e2, e3, e4]
    clear e2 e3 e4
    go_enter Try.func59, Try.ntmps59
    go_wp2_with (go_at_call 60; refine (Try.stringslite_Index_one _ _ _).mono ?_; rintro e w' ⟨rfl, rfl⟩)
    go_ret3
    exact ⟨ret_ssb (whole s) rfl rfl, 0, rfl⟩
  · rw [e3, e4, e5]
    have hk : k < s.size := by simpa using e2
    clear e2 e3 e4 e5
    go_enter Try.func59, Try.ntmps59
    go_wp2_with (go_at_call 60; refine (Try.stringslite_Index_one _ _ _).mono ?_; rintro e w' ⟨rfl, rfl⟩)
    go_quiet (fail)
    go_wp2
    go_ret3
    exact ⟨ret_ssb (extract_pre s k) (extract_suf s (k + 1)) rfl, _, rfl⟩

set_option maxHeartbeats 400000 in
theorem cut_any (s : ByteArray) (w : World) (hs : s.size ≤ 4194304) :
    Calls Try.prog 56 #[.string s, .string ⟨#[47]⟩] w fun e w' => e = .returned (.tuple #[.string ⟨(bef s.data.toList).toArray⟩, .string ⟨(aft s.data.toList).toArray⟩, .bool (has s.data.toList)]) ∧ ∃ n, w' = w.drewN n := by
  go_enter Try.func56, Try.ntmps56
  go_wp2_with (go_at_call 59; refine (cutS_any _ _ hs).mono ?_; rintro e w' ⟨rfl, n, rfl⟩)
  go_ret3
  exact ⟨rfl, n, rfl⟩
end Go.Proofs.Ytgbcgchnnmgmfaa.W
