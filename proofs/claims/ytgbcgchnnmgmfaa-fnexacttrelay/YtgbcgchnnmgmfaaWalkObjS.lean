
/-
  The walk of the specification's 'l2Entry'; what it is that a row of entries lies at a block. Condition: names of at most 4194304 bytes.
-/
import Derived.Test.YtgbcgchnnmgmfaaBase
import Derived.Test.YtgbcgchnnmgmfaaWalkNam
import Derived.Test.YtgbcgchnnmgmfaaWalkHex
import Derived.Test.YtgbcgchnnmgmfaaMathObj2
import Derived.OwnWalk
import Derived.BigQuiet
import Derived.Deep.QuietTactic
import Derived.Deep.RegionWith
namespace Go.Proofs.Ytgbcgchnnmgmfaa.W
open Go.RowKit Go.Proofs.Ytgbcgchnnmgmfaa.M

def enV (e : En) : Value := .agg #[.string ⟨e.nm.toArray⟩, .bool e.sh, .int .i64 e.id]
theorem size_of (l : List UInt8) : (ByteArray.mk l.toArray).size = l.length := by simp [ByteArray.size]

set_option maxHeartbeats 400000 in
theorem l2Entry_any (e : En) (w : World) (hn : e.nm.length ≤ 4194304) :
    Calls Try.prog 39 #[.agg #[.string ⟨e.nm.toArray⟩, .bool e.sh, .int .i64 e.id]] w fun ev w' => ev = .returned (.bool (okE e)) ∧ Below w.heap.size w w' := by
  have hm : (ByteArray.mk e.nm.toArray).size ≤ maxLen := by rw [size_of]; unfold maxLen; omega
  cases h1 : namB e.nm
  · have hk : okE e = false := by simp [okE, h1]
    rw [hk]
    have H1 : Hid (namB (ByteArray.mk e.nm.toArray).data.toList = false) := h1
    have hs : Calls Try.prog 35 #[.string ⟨e.nm.toArray⟩] (w.alloc (.cells #[.string ⟨e.nm.toArray⟩, .bool e.sh, .int .i64 e.id] 55)) fun ev w' => ev = .returned (.bool false) ∧ (w.alloc (.cells #[.string ⟨e.nm.toArray⟩, .bool e.sh, .int .i64 e.id] 55)) = w' := by
      have := nam_spec ⟨e.nm.toArray⟩ (w.alloc (.cells #[.string ⟨e.nm.toArray⟩, .bool e.sh, .int .i64 e.id] 55)) hm; rwa [H1.out] at this
    clear h1 hk
    go_enter Try.func39, Try.ntmps39
    go_wp2_with (go_at_call 35; refine hs.mono ?_; rintro e w' ⟨rfl, rfl⟩)
    go_ret
    exact ⟨rfl, (Below.refl _ _).alloc (Nat.le_refl _) _⟩
  · have hs : Calls Try.prog 35 #[.string ⟨e.nm.toArray⟩] (w.alloc (.cells #[.string ⟨e.nm.toArray⟩, .bool e.sh, .int .i64 e.id] 55)) fun ev w' => ev = .returned (.bool true) ∧ (w.alloc (.cells #[.string ⟨e.nm.toArray⟩, .bool e.sh, .int .i64 e.id] 55)) = w' := by
      have := nam_spec ⟨e.nm.toArray⟩ (w.alloc (.cells #[.string ⟨e.nm.toArray⟩, .bool e.sh, .int .i64 e.id] 55)) hm; rwa [show namB (ByteArray.mk e.nm.toArray).data.toList = true from h1] at this
    by_cases h2 : 1 ≤ e.id ∧ e.id ≤ 4294967295
    · have hk : okE e = true := by simp [okE, h1, h2]
      rw [hk]
      clear h1 hk
      go_enter Try.func39, Try.ntmps39
      go_wp2_with (first | (go_at_call 35; refine hs.mono ?_; rintro e w' ⟨rfl, rfl⟩) | (go_at_call 48; refine (l1In_true _ _ _ _ h2.1 h2.2).mono ?_; rintro e w' ⟨rfl, rfl⟩))
      go_ret
      exact ⟨rfl, (Below.refl _ _).alloc (Nat.le_refl _) _⟩
    · have hk : okE e = false := by simp [okE, h1]; omega
      rw [hk]
      clear h1 hk
      go_enter Try.func39, Try.ntmps39
      go_wp2_with (first | (go_at_call 35; refine hs.mono ?_; rintro e w' ⟨rfl, rfl⟩) | (go_at_call 48; refine (l1In_false _ _ _ _ (by omega)).mono ?_; rintro e w' ⟨rfl, rfl⟩))
      go_ret
      exact ⟨rfl, (Below.refl _ _).alloc (Nat.le_refl _) _⟩

/-- the cells of entries, from block g on -/
def RowE (w : World) (g : Nat) (es : List En) : Prop := ∀ j (h : j < es.length), w.cell? ⟨g, j * 3, none⟩ = some (.string ⟨(es[j]).nm.toArray⟩) ∧ w.cell? ⟨g, j * 3 + 1, none⟩ = some (.bool (es[j]).sh) ∧ w.cell? ⟨g, j * 3 + 2, none⟩ = some (.int .i64 (es[j]).id)
end Go.Proofs.Ytgbcgchnnmgmfaa.W
