/-
  What was laid and put is read: putting text by text, what is found; DrawTreLay of the specification. Few files, short texts.
  The walk of the laws' chFiles over two rows of the same files: it says true. At most 1048576 files.
-/
import Derived.Test.YthfffpdkmoclbaaGreatDoorMg34
import Derived.Test.YthfffpdkmoclbaaGreatDoorMg46
import Derived.Test.YthfffpdkmoclbaaGreatDoorMg48
import Derived.Test.YthfffpdkmoclbaaGreatDoorMg17
namespace Go.Proofs.YthfffpdkmoclbaaGreatDoor.W
open Go.RowKit Go.Proofs.YthfffpdkmoclbaaGreatDoor.M
set_option linter.unusedVariables false

/-- what is put so far is found -/
def PutIn (P : List PI) (T : List ByteArray) : Prop := okP P = true ∧ shP P ∧ ∀ t ∈ T, findP P (idOfN t.data.toList : Int) = some t
theorem putIn_step (P : List PI) (T : List ByteArray) (s : ByteArray) (X : List PI) (n c : Int) (h : putR P s = (X, n, c)) (hP : PutIn P T) (hk : kd s ≠ 0) (hs : s.size ≤ 1000) : (c = 3 ∧ X.length ≤ 700) ∨ ((c = 1 ∨ c = 2) ∧ X.length ≤ 700 ∧ PutIn X (T ++ [s])) := by
  obtain ⟨h1, h2, h3⟩ := hP
  rcases putR_cases P s with ⟨h4, e⟩ | ⟨h4, h5, e⟩ | ⟨h4, h5, hp⟩
  · rcases h4 with h4 | h4
    · rw [h1] at h4; cases h4
    · exact absurd h4 hk
  · rw [h] at e
    cases e
    exact .inl ⟨rfl, ((okP_iff _).1 h1).1⟩
  · rw [h] at hp
    refine .inr ⟨hp.code, ((okP_iff _).1 hp.ok).1, hp.ok, fun x hx => ?_, fun t ht => ?_⟩
    · rcases hp.mem x hx with hx | rfl
      · exact h2 x hx
      · exact hs
    · rcases List.mem_append.1 ht with ht | ht
      · exact hp.kept _ (findP_in P _ t (h3 t ht))
      · obtain rfl := List.mem_singleton.1 ht
        have := hp.found
        rw [hp.id] at this
        exact this
theorem back_read (L : List TF) (P : List PI) (hk : okT L = true) (hP : PutIn P (texT L)) : treR P (texI L) = some L := by
  obtain ⟨h1, _, h3⟩ := hP
  have h60 := okT_60 L hk
  have hg := gd_ok L hk (okT_riseL L hk).1
  have e : texT L = layT 3 L := by unfold texT; rw [if_pos hk]
  have e2 : texI L = layI 3 L := by unfold texI; rw [if_pos hk]
  rw [e] at h3
  rw [treR_ok P _ h1, e2]
  refine ansT_yes ?_ hk
  have := read_laid (findP P) 3 L [] h60 hg (fun x hx => (ok_mem L hk x hx).2.2) (by omega) h3
  rw [this]
  congr 1
  conv => rhs; rw [← List.map_id L]
  exact List.map_congr_left fun x _ => preF_nil x
theorem back_last (L : List TF) (hk : okT L = true) : ∃ (h : (texT L).length - 1 < (texT L).length), idOfN ((texT L)[(texT L).length - 1]).data.toList = texI L := by
  have e : texT L = layT 3 L := by unfold texT; rw [if_pos hk]
  have e2 : texI L = layI 3 L := by unfold texI; rw [if_pos hk]
  rw [e2]
  simp only [e]
  unfold layT layI
  refine ⟨by simp, ?_⟩
  simp
theorem back_kind (L : List TF) (hk : okT L = true) : ∀ t ∈ texT L, kd t ≠ 0 := by
  have e : texT L = layT 3 L := by unfold texT; rw [if_pos hk]
  rw [e]
  exact laid_kind 3 L (okT_60 L hk) (gd_ok L hk (okT_riseL L hk).1) (fun x hx => (ok_mem L hk x hx).2.2) (by omega)
set_option maxHeartbeats 4000000 in
set_option maxRecDepth 100000 in
theorem drawTreLay_any (w : World) (a : Option Addr) (len cap : Nat) (zs : Nat → Int) (h : Src w a len cap zs) :
    Calls Tryz.prog 31 #[.slice a len cap] w fun e w' => (∃ (v : Value) (L : List TF), e = .returned v ∧ L.length ≤ 61 ∧ shortF L ∧ w'.ownsRow w.heap.size 98 2 v L.length (cellsF L)) ∧ Below w.heap.size w w' := by
  go_enter Tryz.func31, Tryz.ntmps31
  go_wp2_with (first
    | (go_at_call 47; refine (open_any _ a len cap zs h).mono ?_; rintro e w1 ⟨a', len', cap', rfl, hR1, hl1, hg1⟩)
    | (go_at_call 65; refine (anyFiles_any w1 w.heap.size 0 6 a' len' cap' zs hR1 (by omega) hl1 (by omega) (by omega)).mono ?_; rintro e w2 ⟨⟨v, L, rfl, hL, hS, O2⟩, g2, p2, hp2, R2⟩; have z2 := g2.size; have HS : Hid (shortF L) := hS; clear hS))
  go_ret
  have HBB : Below w.heap.size w w2 := ((Below.refl _ _).grown hg1 (Nat.le_refl _) (fun k e => by cases e)).grown g2 (by omega) (fun k e => by cases e; exact Nat.le_refl _)
  exact ⟨⟨_, L, rfl, hL, HS.out, ownsUpF O2 (by omega)⟩, HBB⟩
end Go.Proofs.YthfffpdkmoclbaaGreatDoor.W
namespace Go.Proofs.YthfffpdkmoclbaaGreatDoor.W
open Go.RowKit Go.Proofs.YthfffpdkmoclbaaGreatDoor.M

set_option maxHeartbeats 1000000 in
theorem chFiles_same (A B : Option Addr) (c d : Nat) (L : List TF) (w : World) (hA : RdF w.heap.size w A L) (hB : RdF w.heap.size w B L) (hn : L.length ≤ 1048576) :
    Calls Tryz.prog 37 #[.slice A L.length c, .slice B L.length d] w fun e w' => e = .returned (.bool true) ∧ Below w.heap.size w w' := by
  have HA : Hid (RdF w.heap.size w A L) := hA
  have HB : Hid (RdF w.heap.size w B L) := hB
  clear hA hB
  go_enter Tryz.func37, Tryz.ntmps37
  go_wp2
  go_loopw [5] (fun iv wr => ∃ j : Nat, j ≤ L.length ∧ iv = .int .i64 j ∧ Below w.heap.size w wr) (fun i _ => L.length - (intOf i).toNat)
  case atStart => exact ⟨0, Nat.zero_le _, rfl, Below.refl _ _⟩
  case round =>
    obtain ⟨j, hj, rfl, hb⟩ := hrel
    have hsz := hb.size
    by_cases hlt : j < L.length
    · obtain ⟨b, o, rfl, hbl, c1, c2⟩ := (HA.out.below hb (Nat.le_refl _)) j hlt
      obtain ⟨b', o', rfl, hbl', d1, d2⟩ := (HB.out.below hb (Nat.le_refl _)) j hlt
      generalize (L[j]).pa = q at *
      generalize (L[j]).by_ = t at *
      have x1 : ∀ x : Ext wr, x.world.cell? ⟨b, o + j * 2, none⟩ = some (.string q) := fun x => x.cell c1
      have x2 : ∀ x : Ext wr, x.world.cell? ⟨b, o + j * 2 + 1, none⟩ = some (.string t) := fun x => x.cell c2
      have x3 : ∀ x : Ext wr, x.world.cell? ⟨b', o' + j * 2, none⟩ = some (.string q) := fun x => x.cell d1
      have x4 : ∀ x : Ext wr, x.world.cell? ⟨b', o' + j * 2 + 1, none⟩ = some (.string t) := fun x => x.cell d2
      have hne : Nonempty (Ext wr) := ⟨⟨wr, Below.refl _ _⟩⟩
      go_wp2
      refine region_ext (by kernel_rfl) (by kernel_rfl) ?_
      repeat (go_big_quiet_step (fail))
      refine wpQuiet_nil ?_
      rintro _ ⟨x, rfl⟩
      have hbx := x.below
      go_wp2
      go_roundw
      case rel => exact ⟨j + 1, by omega, by go_num, hb.trans (hbx.mono (by omega))⟩
      case measure => simp [intOf]; omega
    · go_wp2
      go_ret
      exact ⟨rfl, hb⟩
end Go.Proofs.YthfffpdkmoclbaaGreatDoor.W
