
/-
  Edits that are ok: the program's 'editOk' and the specification's 'l6Edits'. Texts of at most 1048576 bytes.
-/
import Derived.Test.YtcdkjlbpcihcjaaRowE
import Derived.Test.YtcdkjlbpcihcjaaWalkPth3
namespace Go.Proofs.Ytcdkjlbpcihcjaa.W
open Go.RowKit Go.Proofs.Ytcdkjlbpcihcjaa.M

/-- an edit that is ok -/
def edB (x : TE) : Bool := decide (x.pa.data.toList ≠ []) && (pthB x.pa.data.toList && (decide (x.by_.size ≤ 6) && (!x.gone || decide (x.by_.data.toList = []))))
theorem edB_e (x : TE) (h : x.pa.data.toList = []) : edB x = false := by simp [edB, h]
theorem edB_p (x : TE) (h : pthB x.pa.data.toList = false) : edB x = false := by simp [edB, h]
theorem edB_l (x : TE) (h : 6 < x.by_.size) : edB x = false := by
  have : decide (x.by_.size ≤ 6) = false := decide_eq_false (by omega)
  unfold edB; rw [this]; simp
theorem edB_g (x : TE) (h : x.gone = true) (h2 : x.by_.data.toList ≠ []) : edB x = false := by simp [edB, h, h2]
theorem edB_y (x : TE) (h : x.pa.data.toList ≠ []) (h1 : pthB x.pa.data.toList = true) (h2 : x.by_.size ≤ 6) (h3 : x.gone = false ∨ x.by_.data.toList = []) : edB x = true := by
  have : decide (x.by_.size ≤ 6) = true := decide_eq_true h2
  unfold edB; rw [this]; rcases h3 with h3 | h3 <;> simp [h, h1, h3]
def edsB (L : List TE) : Bool := decide (L.length ≤ 4) && L.all edB
theorem edsB_l (L : List TE) (h : 4 < L.length) : edsB L = false := by
  have : decide (L.length ≤ 4) = false := decide_eq_false (by omega)
  unfold edsB; rw [this]; simp
theorem edsB_n (L : List TE) (j : Nat) (h : j < L.length) (hb : edB L[j] = false) : edsB L = false := by
  unfold edsB
  have : L.all edB = false := by
    rw [List.all_eq_false]; exact ⟨L[j], List.getElem_mem h, by simp [hb]⟩
  rw [this]; simp
theorem edsB_y (L : List TE) (h : L.length ≤ 4) (h2 : ∀ i (h : i < L.length), edB L[i] = true) : edsB L = true := by
  unfold edsB
  have e1 : L.all edB = true := by
    rw [List.all_eq_true]; intro x hx
    obtain ⟨i, hi, rfl⟩ := List.getElem_of_mem hx
    exact h2 i hi
  rw [e1]; simpa using h
set_option maxHeartbeats 1000000 in
theorem edit_impl (x : TE) (k : Bool) (w : World) (hp : x.pa.size ≤ 1048576) (hq : x.by_.size ≤ 1048576) (h : edB x = k) :
    Calls Try.prog 15 #[.agg #[.string x.pa, .string x.by_, .bool x.gone]] w fun e w' => e = .returned (.bool k) ∧ Below w.heap.size w w' := by
  have B0 : Below w.heap.size w (w.alloc (.cells #[.string x.pa, .string x.by_, .bool x.gone] 41)) := (Below.refl _ w).alloc (Nat.le_refl _) _
  subst h
  by_cases h1 : x.pa.data.toList = []
  · rw [edB_e x h1]
    have z1 : x.pa.toList.isEmpty = true := empty_t _ h1
    obtain ⟨p, t, g⟩ := x
    simp only at *
    go_enter Try.func15, Try.ntmps15
    go_wp2
    go_ret
    exact ⟨rfl, B0⟩
  have z1 : x.pa.toList.isEmpty = false := nonempty_f _ h1
  cases h2 : pthB x.pa.data.toList
  · rw [edB_p x h2]
    have HP : Hid (pthB x.pa.data.toList = false) := h2
    clear h1 h2
    obtain ⟨p, t, g⟩ := x
    simp only at *
    go_enter Try.func15, Try.ntmps15
    go_wp2_with (go_at_call 13; refine (pthOk_impl p _ (by omega)).mono ?_; rw [HP.out]; rintro e w1 ⟨rfl, hb⟩)
    go_ret
    exact ⟨rfl, B0.trans (hb.mono B0.size)⟩
  by_cases h3 : 6 < x.by_.size
  · rw [edB_l x h3]
    have HP : Hid (pthB x.pa.data.toList = true) := h2
    clear h1 h2
    obtain ⟨p, t, g⟩ := x
    simp only at *
    go_enter Try.func15, Try.ntmps15
    go_wp2_with (go_at_call 13; refine (pthOk_impl p _ (by omega)).mono ?_; rw [HP.out]; rintro e w1 ⟨rfl, hb⟩; have c1 : w1.cell? ⟨w.heap.size, 1, none⟩ = some (.string t) := (hb.cell (p := ⟨w.heap.size, 1, none⟩) (by simp)).trans (by simp); have c2 : w1.cell? ⟨w.heap.size, 2, none⟩ = some (.bool g) := (hb.cell (p := ⟨w.heap.size, 2, none⟩) (by simp)).trans (by simp))
    go_ret
    exact ⟨rfl, B0.trans (hb.mono B0.size)⟩
  by_cases h4 : x.by_.data.toList = []
  · rw [edB_y x h1 h2 (by omega) (.inr h4)]
    have z2 : x.by_.toList.isEmpty = true := empty_t _ h4
    have HP : Hid (pthB x.pa.data.toList = true) := h2
    clear h1 h2 h4
    obtain ⟨p, t, g⟩ := x
    simp only at *
    cases g
    all_goals
      go_enter Try.func15, Try.ntmps15
      go_wp2_with (go_at_call 13; refine (pthOk_impl p _ (by omega)).mono ?_; rw [HP.out]; rintro e w1 ⟨rfl, hb⟩; have c1 : w1.cell? ⟨w.heap.size, 1, none⟩ = some (.string t) := (hb.cell (p := ⟨w.heap.size, 1, none⟩) (by simp)).trans (by simp); have c2 : w1.cell? ⟨w.heap.size, 2, none⟩ = some (.bool _) := (hb.cell (p := ⟨w.heap.size, 2, none⟩) (by simp)).trans (by simp; rfl))
      go_ret
      exact ⟨rfl, B0.trans (hb.mono B0.size)⟩
  have z2 : x.by_.toList.isEmpty = false := nonempty_f _ h4
  have h3' : x.by_.size ≤ 6 := by omega
  cases h5 : x.gone
  · rw [edB_y x h1 h2 h3' (.inl h5)]
    have HP : Hid (pthB x.pa.data.toList = true) := h2
    clear h1 h2 h4
    obtain ⟨p, t, g⟩ := x
    simp only at *
    subst h5
    go_enter Try.func15, Try.ntmps15
    go_wp2_with (go_at_call 13; refine (pthOk_impl p _ (by omega)).mono ?_; rw [HP.out]; rintro e w1 ⟨rfl, hb⟩; have c1 : w1.cell? ⟨w.heap.size, 1, none⟩ = some (.string t) := (hb.cell (p := ⟨w.heap.size, 1, none⟩) (by simp)).trans (by simp); have c2 : w1.cell? ⟨w.heap.size, 2, none⟩ = some (.bool false) := (hb.cell (p := ⟨w.heap.size, 2, none⟩) (by simp)).trans (by simp))
    go_ret
    exact ⟨rfl, B0.trans (hb.mono B0.size)⟩
  · rw [edB_g x h5 h4]
    have HP : Hid (pthB x.pa.data.toList = true) := h2
    clear h1 h2 h4
    obtain ⟨p, t, g⟩ := x
    simp only at *
    subst h5
    go_enter Try.func15, Try.ntmps15
    go_wp2_with (go_at_call 13; refine (pthOk_impl p _ (by omega)).mono ?_; rw [HP.out]; rintro e w1 ⟨rfl, hb⟩; have c1 : w1.cell? ⟨w.heap.size, 1, none⟩ = some (.string t) := (hb.cell (p := ⟨w.heap.size, 1, none⟩) (by simp)).trans (by simp); have c2 : w1.cell? ⟨w.heap.size, 2, none⟩ = some (.bool true) := (hb.cell (p := ⟨w.heap.size, 2, none⟩) (by simp)).trans (by simp))
    go_ret
    exact ⟨rfl, B0.trans (hb.mono B0.size)⟩
set_option maxHeartbeats 2000000 in
theorem edits_spec (A : Option Addr) (c : Nat) (L : List TE) (k : Bool) (w : World) (hL : RdE w.heap.size w A L) (hn : L.length ≤ 1048576) (ht : ∀ j (h : j < L.length), (L[j]).pa.size ≤ 1048576 ∧ (L[j]).by_.size ≤ 1048576) (h : edsB L = k) :
    Calls Try.prog 17 #[.slice A L.length c] w fun e w' => e = .returned (.bool k) ∧ Below w.heap.size w w' := by
  subst h
  have HL : Hid (RdE w.heap.size w A L) := hL
  have HT : Hid (∀ j (h : j < L.length), (L[j]).pa.size ≤ 1048576 ∧ (L[j]).by_.size ≤ 1048576) := ht
  clear hL ht
  by_cases h4 : 4 < L.length
  · rw [edsB_l L h4]
    go_enter Try.func17, Try.ntmps17
    go_wp2
    go_ret
    exact ⟨rfl, Below.refl _ _⟩
  generalize hk : edsB L = k
  have HK : Hid (edsB L = k) := hk
  clear hk
  go_enter Try.func17, Try.ntmps17
  go_wp2
  go_loopw [3] (fun iv wr => ∃ j : Nat, j ≤ L.length ∧ iv = .int .i64 j ∧ Hid (∀ i (h : i < L.length), i < j → edB L[i] = true) ∧ Below w.heap.size w wr) (fun i _ => L.length - (intOf i).toNat)
  case atStart => exact ⟨0, Nat.zero_le _, rfl, fun i _ h => by omega, Below.refl _ _⟩
  case round =>
    obtain ⟨j, hj, rfl, HG, hb⟩ := hrel
    have hsz := hb.size
    by_cases hlt : j < L.length
    · obtain ⟨b, o, rfl, hbl, c1, c2, c3⟩ := (HL.out.below hb (Nat.le_refl _)) j hlt
      have hpx := HT.out j hlt
      have NO : Hid (edB (L[j]) = false → k = false) := fun h => by rw [← HK.out]; exact edsB_n L j hlt h
      have YES : Hid (edB (L[j]) = true → ∀ i (h : i < L.length), i < j + 1 → edB L[i] = true) := fun h i hi hl => by
        by_cases e : i = j
        · subst e; exact h
        · exact HG.out i hi (by omega)
      generalize L[j] = x at *
      obtain ⟨p, t, g⟩ := x
      simp only at *
      obtain ⟨m1, m2⟩ := hpx
      by_cases k1 : p.data.toList = []
      · have z1 : p.toList.isEmpty = true := empty_t _ k1
        have e := NO.out (edB_e _ k1)
        subst e
        clear k1
        go_wp2
        go_ret
        exact ⟨rfl, hb⟩
      have z1 : p.toList.isEmpty = false := nonempty_f _ k1
      cases k2 : pthB p.data.toList
      · have e := NO.out (edB_p _ k2)
        subst e
        have HP : Hid (pthB p.data.toList = false) := k2
        clear k1 k2
        go_wp2_with (go_at_call 20; refine (pthOk_spec p _ (by omega)).mono ?_; rw [HP.out]; rintro e w1 ⟨rfl, hb1⟩)
        go_ret
        exact ⟨rfl, hb.trans (hb1.mono (by omega))⟩
      have HP : Hid (pthB p.data.toList = true) := k2
      by_cases k3 : 6 < t.size
      · have e := NO.out (edB_l _ k3)
        subst e
        clear k1 k2
        go_wp2_with (go_at_call 20; refine (pthOk_spec p _ (by omega)).mono ?_; rw [HP.out]; rintro e w1 ⟨rfl, hb1⟩; replace c2 := (hb1.cell (p := ⟨b, _, none⟩) (by show b < _; omega)).trans c2; replace c3 := (hb1.cell (p := ⟨b, _, none⟩) (by show b < _; omega)).trans c3)
        go_ret
        exact ⟨rfl, hb.trans (hb1.mono (by omega))⟩
      have k3' : t.size ≤ 6 := by omega
      cases g
      · have HY : Hid (∀ i (h : i < L.length), i < j + 1 → edB L[i] = true) := YES.out (edB_y _ k1 k2 k3' (.inl rfl))
        clear k1 k2 k3'
        go_wp2_with (go_at_call 20; refine (pthOk_spec p _ (by omega)).mono ?_; rw [HP.out]; rintro e w1 ⟨rfl, hb1⟩; replace c2 := (hb1.cell (p := ⟨b, _, none⟩) (by show b < _; omega)).trans c2; replace c3 := (hb1.cell (p := ⟨b, _, none⟩) (by show b < _; omega)).trans c3)
        go_roundw
        case rel => exact ⟨j + 1, by omega, by go_num, HY, hb.trans (hb1.mono (by omega))⟩
        case measure => simp [intOf]; omega
      by_cases k4 : t.data.toList = []
      · have HY : Hid (∀ i (h : i < L.length), i < j + 1 → edB L[i] = true) := YES.out (edB_y _ k1 k2 k3' (.inr k4))
        have z2 : t.toList.isEmpty = true := empty_t _ k4
        clear k1 k2 k3' k4
        go_wp2_with (go_at_call 20; refine (pthOk_spec p _ (by omega)).mono ?_; rw [HP.out]; rintro e w1 ⟨rfl, hb1⟩; replace c2 := (hb1.cell (p := ⟨b, _, none⟩) (by show b < _; omega)).trans c2; replace c3 := (hb1.cell (p := ⟨b, _, none⟩) (by show b < _; omega)).trans c3)
        go_roundw
        case rel => exact ⟨j + 1, by omega, by go_num, HY, hb.trans (hb1.mono (by omega))⟩
        case measure => simp [intOf]; omega
      · have e := NO.out (edB_g _ rfl k4)
        subst e
        have z2 : t.toList.isEmpty = false := nonempty_f _ k4
        clear k1 k2 k3' k4
        go_wp2_with (go_at_call 20; refine (pthOk_spec p _ (by omega)).mono ?_; rw [HP.out]; rintro e w1 ⟨rfl, hb1⟩; replace c2 := (hb1.cell (p := ⟨b, _, none⟩) (by show b < _; omega)).trans c2; replace c3 := (hb1.cell (p := ⟨b, _, none⟩) (by show b < _; omega)).trans c3)
        go_ret
        exact ⟨rfl, hb.trans (hb1.mono (by omega))⟩
    · obtain rfl : j = L.length := by omega
      have e : k = true := by rw [← HK.out]; exact edsB_y L (by omega) (fun i hi => HG.out i hi hi)
      subst e
      go_wp2
      go_ret
      exact ⟨rfl, hb⟩
end Go.Proofs.Ytcdkjlbpcihcjaa.W
