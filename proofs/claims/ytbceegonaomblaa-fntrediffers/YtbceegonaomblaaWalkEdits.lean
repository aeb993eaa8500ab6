
/-
  The walks of the draws of edits: 'l20Edit', 'l20Edits', 'DrawTreSize'. No condition but that the reader is open.
-/
import Derived.Test.YtbceegonaomblaaWalkDraw3
import Derived.Test.YtbceegonaomblaaRowE
import Derived.Test.YtbceegonaomblaaMathNew
namespace Go.Proofs.Ytbceegonaomblaa.W
open Go.RowKit

/-- what a draw of an edit leaves -/
def DrewE (w : World) (rb p k : Nat) (a : Option Addr) (len cap : Nat) (zs : Nat → Int) (e : Ending) (w' : World) : Prop :=
  ∃ (s t : ByteArray) (g : Bool) (p' : Nat), e = .returned (.agg #[.string s, .string t, .bool g]) ∧ s.size ≤ 64 ∧ t.size ≤ 64 ∧ p' ≤ p + k ∧ Rd w' rb p' a len cap zs ∧ w.grownBy w' (some rb)

theorem keptC {w w2 : World} {rb g o : Nat} {v : Value} (hg : w.grownBy w2 (some rb)) (hc : w.cell? ⟨g, o, none⟩ = some v) (hlt : g < w.heap.size) (hne : g ≠ rb) : w2.cell? ⟨g, o, none⟩ = some v :=
  (World.cell?_of_block (w := w) (a := ⟨g, o, none⟩) (hg.block g hlt (fun e => hne (Option.some.inj e)))).trans hc
theorem keptF {w w2 : World} {rb g o : Nat} (hg : w.grownBy w2 (some rb)) (hc : w.frozen? ⟨g, o, none⟩ = false) (hlt : g < w.heap.size) (hne : g ≠ rb) : w2.frozen? ⟨g, o, none⟩ = false :=
  (World.frozen?_of_block (w := w) (a := ⟨g, o, none⟩) (hg.block g hlt (fun e => hne (Option.some.inj e)))).trans hc

theorem setGr {w w3 : World} {rb g o : Nat} {u : Value} (h : w.grownBy w3 (some rb)) (hg : w.heap.size ≤ g) : w.grownBy (w3.setCell ⟨g, o, none⟩ u) (some rb) :=
  ⟨h.os, h.tape, h.output, by simpa [World.setCell] using h.size, fun k hk hn => (Below.heap_setCell _ _ _ _ (by show k ≠ g; omega)).trans (h.block k hk hn)⟩
theorem setRd {w : World} {rb p g o : Nat} {a : Option Addr} {len cap : Nat} {zs : Nat → Int} {u : Value} (h : Rd w rb p a len cap zs) (hlt : rb < g) (hw : rb < w.heap.size) : Rd (w.setCell ⟨g, o, none⟩ u) rb p a len cap zs ∧ rb < (w.setCell ⟨g, o, none⟩ u).heap.size :=
  ⟨h.kept (row := some g) ⟨rfl, rfl, rfl, by simp [World.setCell], fun k _ hn => Below.heap_setCell _ _ _ _ (fun e => hn (by rw [e]))⟩ (fun r e => by cases e; exact hlt) hw, by simpa [World.setCell] using hw⟩
theorem setRd3 {w : World} {rb p g : Nat} {a : Option Addr} {len cap : Nat} {zs : Nat → Int} {u0 u1 u2 : Value} (h : Rd w rb p a len cap zs) (hlt : rb < g) (hw : rb < w.heap.size) : Rd (((w.setCell ⟨g, 0, none⟩ u0).setCell ⟨g, 1, none⟩ u1).setCell ⟨g, 2, none⟩ u2) rb p a len cap zs := by
  have h1 := setRd (o := 0) (u := u0) h hlt hw
  have h2 := setRd (o := 1) (u := u1) h1.1 hlt h1.2
  exact (setRd (o := 2) (u := u2) h2.1 hlt h2.2).1

set_option maxHeartbeats 1000000 in
theorem edit_any (w : World) (rb p : Nat) (a : Option Addr) (len cap : Nat) (zs : Nat → Int) (h : Rd w rb p a len cap zs) (hp : p ≤ 900000) (hlt : rb < w.heap.size) :
    Calls Try.prog 56 #[.pointer (some ⟨rb, 0, none⟩)] w (DrewE w rb p 3 a len cap zs) := by
  have HA := h.alloc hlt (.cells #[.string ⟨#[]⟩, .string ⟨#[]⟩, .bool false] 43)
  have GA : w.grownBy (w.alloc (.cells #[.string ⟨#[]⟩, .string ⟨#[]⟩, .bool false] 43)) (some rb) := galloc _ _
  have q0 : (w.alloc (.cells #[.string ⟨#[]⟩, .string ⟨#[]⟩, .bool false] 43)).cell? ⟨w.heap.size, 0, none⟩ = some (.string ⟨#[]⟩) := by simp
  have q1 : (w.alloc (.cells #[.string ⟨#[]⟩, .string ⟨#[]⟩, .bool false] 43)).cell? ⟨w.heap.size, 1, none⟩ = some (.string ⟨#[]⟩) := by simp
  have q2 : (w.alloc (.cells #[.string ⟨#[]⟩, .string ⟨#[]⟩, .bool false] 43)).cell? ⟨w.heap.size, 2, none⟩ = some (.bool false) := by simp
  have f0 : ∀ o, (w.alloc (.cells #[.string ⟨#[]⟩, .string ⟨#[]⟩, .bool false] 43)).frozen? ⟨w.heap.size, o, none⟩ = false := fun o => by simp
  have hz : (w.alloc (.cells #[.string ⟨#[]⟩, .string ⟨#[]⟩, .bool false] 43)).heap.size = w.heap.size + 1 := by simp
  go_enter Try.func56, Try.ntmps56
  generalize hA : w.alloc (.cells #[.string ⟨#[]⟩, .string ⟨#[]⟩, .bool false] 43) = wA at *
  go_wp2_with (first
    | (go_at_call 45; refine (path_any _ rb p a len cap zs HA (by omega) (by omega)).mono ?_; rintro e w1 ⟨s, p1, rfl, hs, hp1, R1, g1⟩; have z1 := g1.size)
    | (go_at_call 44; refine (bytes_any _ rb p1 a len cap zs R1 (by omega) (by omega)).mono ?_; rintro e w2 ⟨t, p2, rfl, ht, hp2, R2, g2⟩; have z2 := g2.size)
    | (go_at_call 43; refine (pick_any _ rb p2 a len cap 5 zs (R2.alloc (by omega) _) (by omega) (by omega) (by omega)).mono ?_; rintro e w3 ⟨v, hv, rfl, R3, g3⟩; have z3 := g3.size; simp at z3; have G13 : wA.grownBy (w2.alloc (.cells #[.string s, .string t, .bool false] 43)) (some rb) := gtrans (gtrans g1 g2) (galloc _ _); have G3 : wA.grownBy w3 (some rb) := gtrans G13 g3; have k0 := keptC G3 q0 (by omega) (by omega); have k1 := keptC G3 q1 (by omega) (by omega); have k2 := keptC G3 q2 (by omega) (by omega); have l0 := keptF G3 (f0 0) (by omega) (by omega); have l1 := keptF G3 (f0 1) (by omega) (by omega); have l2 := keptF G3 (f0 2) (by omega) (by omega); have m0 : w3.cell? ⟨w2.heap.size, 0, none⟩ = some (.string s) := keptC g3 (by simp) (by simp) (by omega); have m1 : w3.cell? ⟨w2.heap.size, 1, none⟩ = some (.string t) := keptC g3 (by simp) (by simp) (by omega); have m2 : w3.cell? ⟨w2.heap.size, 2, none⟩ = some (.bool false) := keptC g3 (by simp) (by simp) (by omega); have GW : w.grownBy w3 (some rb) := gtrans GA G3; by_cases hv0 : v = 0))
  · refine bodyPost_ret (v := .agg #[.string s, .string ⟨#[]⟩, .bool true]) (by simp [results, Try.results56, go_sem, k0, k1, k2]) rfl ?_
    exact ⟨s, ⟨#[]⟩, true, p2 + 1, rfl, hs, by decide, by omega, setRd3 R3 hlt (by omega), setGr (setGr (setGr GW (Nat.le_refl _)) (Nat.le_refl _)) (Nat.le_refl _)⟩
  · refine bodyPost_ret (v := .agg #[.string s, .string t, .bool false]) (by simp [results, Try.results56, go_sem, k0, k1, k2]) rfl ?_
    exact ⟨s, t, false, p2 + 1, rfl, hs, ht, by omega, setRd3 R3 hlt (by omega), setGr (setGr (setGr GW (Nat.le_refl _)) (Nat.le_refl _)) (Nat.le_refl _)⟩

/-- edits that were drawn: few, and short -/
def short (M : List TE) : Prop := ∀ x ∈ M, x.pa.size ≤ 64 ∧ x.by_.size ≤ 64
set_option maxHeartbeats 1000000 in
theorem edits_any (w : World) (rb p : Nat) (a : Option Addr) (len cap : Nat) (zs : Nat → Int) (h : Rd w rb p a len cap zs) (hp : p ≤ 100) (hlt : rb < w.heap.size) :
    Calls Try.prog 37 #[.pointer (some ⟨rb, 0, none⟩)] w fun e w' => (∃ (v : Value) (M : List TE), e = .returned v ∧ 1 ≤ M.length ∧ M.length ≤ 4 ∧ short M ∧ w'.ownsRow w.heap.size 43 3 v M.length (cellsE M)) ∧ w.grownBy w' (some rb) ∧ ∃ p', p' ≤ 300 ∧ Rd w' rb p' a len cap zs := by
  obtain ⟨i0, hi, hz0, hz1, hz2⟩ := info_parts infoE
  have O0 : (w.alloc (.cells #[] 43)).ownsRow w.heap.size 43 3 (.slice (some ⟨w.heap.size, 0, none⟩) 0 0) 0 [] := World.ownsRow_lit w #[] 0 (Nat.le_refl _) (by unfold maxLen; omega) rfl
  go_enter Try.func37, Try.ntmps37
  go_wp2_with (go_at_call 43; refine (pick_any _ rb p a len cap 4 zs (h.alloc hlt _) (by omega) (by omega) (by omega)).mono ?_; rintro e w1 ⟨n, hn, rfl, R1, g1⟩; have z1 := g1.size; simp at z1; have O1 := O0.kept g1 (.inr (by simp [Value.ownBlock]; omega)); have G1 : w.grownBy w1 (some rb) := gtrans (galloc _ _) g1)
  go_loopw [3, 4] (fun v kv wr => ∃ (m p' : Nat) (M : List TE), 1 ≤ M.length + m ∧ M.length + m ≤ 4 ∧ kv = .int .i64 m ∧ p' ≤ 200 + 3 * M.length ∧ Hid (short M) ∧ Rd wr rb p' a len cap zs ∧ wr.ownsRow w.heap.size 43 3 v M.length (cellsE M) ∧ w.grownBy wr (some rb)) (fun _ k _ => (intOf k).toNat)
  case atStart => exact ⟨n + 1, p + 1, [], by simp, by simp; omega, by go_num, by simp; omega, (show short [] from fun x hx => by simp at hx), R1, O1, G1⟩
  case round =>
    obtain ⟨m, p', M, hm1, hm, rfl, hp', HS, R, hown, G⟩ := hrel
    have hz := G.size
    have hM : M.length ≤ 4 := by omega
    by_cases hm0 : 0 < m
    · have hlts := hown.lt
      go_wp2_with (first
        | (go_at_call 56; refine (edit_any _ rb p' a len cap zs R (by omega) (by omega)).mono ?_; rintro e w2 ⟨s, t, gn, p2, rfl, hs, ht, hp2, R2, g2⟩; have z2 := g2.size; have O2 := hown.kept g2 (by cases hq : u3.ownBlock with | none => exact .inl rfl | some k => exact .inr (by have := (hlts k hq).1; simp; omega)))
        | (at_builtin; refine wpList_append_own _ rfl _ _ 41 rfl w.heap.size 43 i0 (.agg #[.string ByteArray.empty, .string ByteArray.empty, .bool false]) 3 40 Try.underlying41 hi hz0 hz1 hz2 rfl (by decide) _ _ _ rfl (O2.alloc _) ⟨w2.heap.size, 0, none⟩ 1 1 [.string s, .string t, .bool gn] rfl rfl (cells_new _ #[.string s, .string t, .bool gn] _) (fun u hu => by simp at hu; rcases hu with rfl | rfl | rfl <;> rfl) (by unfold maxLen; omega) (by omega) (by simp; omega) ?_; intro v' w3 hown' hgrow3 hnil3))
      have hal : ∀ r, u3.ownBlock = some r → rb < r := fun r hr => by have := (hlts r hr).1; omega
      have G3 : w.grownBy w3 (some rb) := by
        have ga : w.grownBy (w2.alloc (.cells #[.string s, .string t, .bool gn] 43)) (some rb) := gtrans (gtrans G g2) (galloc _ _)
        refine ⟨hgrow3.os.trans ga.os, hgrow3.tape.trans ga.tape, hgrow3.output.trans ga.output, Nat.le_trans ga.size hgrow3.size, fun k hk hn => (hgrow3.block k (Nat.lt_of_lt_of_le hk ga.size) (fun e => ?_)).trans (ga.block k hk hn)⟩
        have := (hlts k e.symm).1
        omega
      have R3 : Rd w3 rb p2 a len cap zs := (R2.alloc (by omega) _).kept hgrow3 hal (by simp; omega)
      go_roundw
      case rel =>
        refine ⟨m - 1, p2, M ++ [⟨s, t, gn⟩], by simp; omega, by simp; omega, by go_num, by simp; omega, ?_, R3, ?_, G3⟩
        · show short _
          intro x hx
          rcases List.mem_append.1 hx with hx | hx
          · exact HS.out x hx
          · obtain rfl : x = ⟨s, t, gn⟩ := by simpa using hx
            exact ⟨hs, ht⟩
        · rw [cellsE_snoc, List.length_append]; exact hown'
      case measure => simp [intOf]; omega
    · go_wp2
      go_ret
      exact ⟨⟨_, M, rfl, by omega, by omega, HS.out, hown⟩, G, p', by omega, R⟩

theorem ownsUpE {w : World} {base base' n z : Nat} {e : TypeId} {v : Value} {xs : List Value} (h : w.ownsRow base e z v n xs) (hb : base' ≤ base) : w.ownsRow base' e z v n xs := by
  refine ⟨h.1, ?_⟩
  rcases h.2 with h1 | ⟨g, cap, cur, h1, h2, h3⟩
  · exact .inl h1
  · exact .inr ⟨g, cap, cur, h1, by omega, h3⟩

end Go.Proofs.Ytbceegonaomblaa.W
