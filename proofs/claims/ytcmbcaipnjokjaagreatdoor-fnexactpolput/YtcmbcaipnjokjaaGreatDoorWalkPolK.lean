
/-
  PolOk of the program and of the specification. Texts of at most 1048576 bytes.
-/
import Derived.Test.YtcmbcaipnjokjaaGreatDoorWalkObS2
import Derived.Test.YtcmbcaipnjokjaaGreatDoorWalkPol
import Derived.Test.YtcmbcaipnjokjaaGreatDoorWalkIdOf
namespace Go.Proofs.YtcmbcaipnjokjaaGreatDoor.W
open Go.RowKit Go.Proofs.YtcmbcaipnjokjaaGreatDoor.M

def idP (L : List PI) (i : Nat) : Int := (L.getD i ⟨0, ByteArray.empty⟩).id
def txP (L : List PI) (i : Nat) : ByteArray := (L.getD i ⟨0, ByteArray.empty⟩).tx
/-- an item that may stand at its place -/
def gP (L : List PI) (i : Nat) : Bool := decide (kd (txP L i) ≠ 0) && (decide (idP L i = (idOfN (txP L i).data.toList : Int)) && (decide (i = 0) || decide (idP L (i - 1) < idP L i)))
def okP (L : List PI) : Bool := decide (L.length ≤ 700) && (List.range L.length).all (gP L)
theorem idP_at (L : List PI) (i : Nat) (h : i < L.length) : idP L i = (L[i]).id := by simp [idP, List.getD, h]
theorem txP_at (L : List PI) (i : Nat) (h : i < L.length) : txP L i = (L[i]).tx := by simp [txP, List.getD, h]
theorem okP_long (L : List PI) (h : 700 < L.length) : okP L = false := by
  have : decide (L.length ≤ 700) = false := decide_eq_false (by omega)
  unfold okP; rw [this]; rfl
theorem okP_bad (L : List PI) (i : Nat) (h : i < L.length) (hb : gP L i = false) : okP L = false := by
  unfold okP
  have : (List.range L.length).all (gP L) = false := by
    rw [List.all_eq_false]; exact ⟨i, List.mem_range.2 h, by simp [hb]⟩
  simp [this]
theorem okP_good (L : List PI) (h : L.length ≤ 700) (h1 : ∀ i, i < L.length → gP L i = true) : okP L = true := by
  unfold okP
  have e1 : (List.range L.length).all (gP L) = true := List.all_eq_true.2 fun i hi => h1 i (List.mem_range.1 hi)
  simp [e1, h]

theorem idI (s : ByteArray) (n : Nat) (w : World) (hs : s.size ≤ 1048576) (h : idOfN s.data.toList = n) :
    Calls Tryz.prog 46 #[.string s] w fun e w' => e = .returned (.int .i64 (n : Int)) ∧ Below w.heap.size w w' := by
  subst h; exact (idOf_impl s w (by omega)).mono fun _ _ ⟨a, b⟩ => ⟨a, b ▸ Below.refl _ _⟩
theorem idS (s : ByteArray) (n : Nat) (w : World) (hs : s.size ≤ 1048576) (h : idOfN s.data.toList = n) :
    Calls Tryz.prog 40 #[.string s] w fun e w' => e = .returned (.int .i64 (n : Int)) ∧ Below w.heap.size w w' := by
  subst h; exact (idOf_spec s w (by omega)).mono fun _ _ ⟨a, b⟩ => ⟨a, b ▸ Below.refl _ _⟩
theorem kdI (s : ByteArray) (m : Nat) (w : World) (hs : s.size ≤ 1048576) (h : kd s = m) (hg : TypeCell w) :
    Calls Tryz.prog 45 #[.string s] w fun e w' => e = .returned (.int .i64 ((m : Nat) : Int)) ∧ Below w.heap.size w w' := by
  subst h; exact objKind_impl s w hs hg
theorem kdS (s : ByteArray) (m : Nat) (w : World) (hs : s.size ≤ 1048576) (h : kd s = m) :
    Calls Tryz.prog 26 #[.string s] w fun e w' => e = .returned (.int .i64 ((m : Nat) : Int)) ∧ Below w.heap.size w w' := by
  subst h; exact objKind_spec s w hs
set_option maxRecDepth 100000 in
set_option maxHeartbeats 4000000 in
theorem polOk_impl (A : Option Addr) (c : Nat) (L : List PI) (w : World) (hg : TypeCell w) (hL : RdP w.heap.size w A L) (hn : L.length ≤ 1048576) (ht : ∀ j (h : j < L.length), (L[j]).tx.size ≤ 1048576) :
    Calls Tryz.prog 44 #[.slice A L.length c] w fun e w' => e = .returned (.bool (okP L)) ∧ Below w.heap.size w w' := by
  have HL : Hid (RdP w.heap.size w A L) := hL
  have HT : Hid (∀ j (h : j < L.length), (L[j]).tx.size ≤ 1048576) := ht
  have hgl := hg.lt
  have HG : Hid (TypeCell w) := hg
  clear hL ht hg
  by_cases h7 : 700 < L.length
  · rw [okP_long L h7]
    go_enter Tryz.func44, Tryz.ntmps44
    go_wp2
    go_ret
    exact ⟨rfl, Below.refl _ _⟩
  generalize hk : okP L = k
  have HK : Hid (okP L = k) := hk
  clear hk
  go_enter Tryz.func44, Tryz.ntmps44
  go_wp2
  go_loopw [3, 11] (fun lv iv wr => ∃ (j : Nat) (la : Int), j ≤ L.length ∧ iv = .int .i64 j ∧ lv = .int .i64 la ∧ Hid (la = if j = 0 then 0 else idP L (j - 1)) ∧ Hid (∀ i, i < j → gP L i = true) ∧ Below w.heap.size w wr) (fun _ i _ => L.length - (intOf i).toNat)
  case atStart => exact ⟨0, 0, Nat.zero_le _, rfl, rfl, rfl, (show ∀ i, i < 0 → _ from fun i h => by omega), Below.refl _ _⟩
  case round =>
    obtain ⟨j, la, hj, rfl, rfl, HLA, HA, hb⟩ := hrel
    have hsz := hb.size
    by_cases hlt : j < L.length
    · obtain ⟨b, o, rfl, hbl, c1, c2⟩ := (HL.out.below hb (Nat.le_refl _)) j hlt
      have hts := HT.out j hlt
      have e1 : Hid (idP L j = (L[j]).id) := idP_at L j hlt
      have e2 : Hid (txP L j = (L[j]).tx) := txP_at L j hlt
      generalize (L[j]).id = id at *
      generalize (L[j]).tx = tx at *
      have hN1 := idOfN_bd tx.data.toList
      obtain ⟨n, hn'⟩ : ∃ n, idOfN tx.data.toList = n := ⟨_, rfl⟩
      obtain ⟨m, hm'⟩ : ∃ m, kd tx = m := ⟨_, rfl⟩
      rw [hn'] at hN1
      have HN : Hid (idOfN tx.data.toList = n) := hn'
      have HM : Hid (kd tx = m) := hm'
      have NO : Hid (gP L j = false → k = false) := fun h => by rw [← HK.out]; exact okP_bad L j hlt h
      have GE : Hid (gP L j = (decide (m ≠ 0) && (decide (id = (n : Int)) && (decide (j = 0) || decide (idP L (j - 1) < id))))) := by
        show _ = _
        unfold gP; rw [e1.out, e2.out, hn', hm']
      clear hn' hm'
      have x1 : ∀ x : Ext (wr.alloc (.cells #[.int .i64 id, .string tx] 49)), x.world.cell? ⟨wr.heap.size, 0, none⟩ = some (.int .i64 id) := fun x => x.cell (by simp)
      have x2 : ∀ x : Ext (wr.alloc (.cells #[.int .i64 id, .string tx] 49)), x.world.cell? ⟨wr.heap.size, 1, none⟩ = some (.string tx) := fun x => x.cell (by simp)
      have hgx : ∀ x : Ext (wr.alloc (.cells #[.int .i64 id, .string tx] 49)), TypeCell x.world := fun x => (HG.out.below (hb.alloc hsz (.cells #[.int .i64 id, .string tx] 49)) hgl).below x.below (by first | (simp; done) | (simp; omega))
      have hne : Nonempty (Ext (wr.alloc (.cells #[.int .i64 id, .string tx] 49))) := ⟨⟨_, Below.refl _ _⟩⟩
      by_cases k1 : id ≤ la
      · have e := NO.out (by
          rw [GE.out]
          by_cases hn0 : id = (n : Int)
          · have hla := HLA.out
            by_cases h0 : j = 0
            · rw [if_pos h0] at hla; exfalso; omega
            · rw [if_neg h0] at hla
              have : decide (idP L (j - 1) < id) = false := decide_eq_false (by omega)
              rw [this, decide_eq_false h0]; simp
          · rw [decide_eq_false hn0]; simp)
        subst e
        go_wp2
        refine region_ext (by kernel_rfl) (by kernel_rfl) ?_
        repeat (go_big_quiet_step (first | (go_at_call 46; exact calls_ext (idI tx n _ hts HN.out)) | (go_at_call 45; exact calls_ext (kdI tx m _ hts HM.out (hgx _)))))
        refine wpQuiet_nil ?_
        rintro _ ⟨x, rfl⟩
        have hbx := (hb.alloc hsz (.cells #[.int .i64 id, .string tx] 49)).trans (x.below.mono (by simp; omega))
        go_wp2
        go_ret
        exact ⟨rfl, hbx⟩
      have y1 : decide (id ≤ la) = false := decide_eq_false k1
      by_cases k2 : id = (n : Int)
      · have y2 : (id != (n : Int)) = false := by rw [k2]; simp
        have y2' : (id == (n : Int)) = true := by rw [k2]; simp
        by_cases k3 : m = 0
        · have e := NO.out (by rw [GE.out, k3]; rfl)
          subst e
          have y3 : (((m : Nat) : Int) == 0) = true := by rw [k3]; rfl
          clear k1 k2 GE NO
          go_wp2
          refine region_ext (by kernel_rfl) (by kernel_rfl) ?_
          repeat (go_big_quiet_step (first | (go_at_call 46; exact calls_ext (idI tx n _ hts HN.out)) | (go_at_call 45; exact calls_ext (kdI tx m _ hts HM.out (hgx _)))))
          refine wpQuiet_nil ?_
          rintro _ ⟨x, rfl⟩
          have hbx := (hb.alloc hsz (.cells #[.int .i64 id, .string tx] 49)).trans (x.below.mono (by simp; omega))
          go_wp2
          go_ret
          exact ⟨rfl, hbx⟩
        · have y3 : (((m : Nat) : Int) == 0) = false := beq_eq_false_iff_ne.2 (by omega)
          have HA' : Hid (∀ i, i < j + 1 → gP L i = true) := fun i hi => by
            by_cases h : i < j
            · exact HA.out i h
            · obtain rfl : i = j := by omega
              rw [GE.out, decide_eq_true k3, decide_eq_true k2]
              have hla := HLA.out
              by_cases h0 : i = 0
              · rw [decide_eq_true h0]; rfl
              · rw [if_neg h0] at hla
                have : decide (idP L (i - 1) < id) = true := decide_eq_true (by omega)
                rw [this]; simp
          have HLA' : Hid (id = if j + 1 = 0 then 0 else idP L (j + 1 - 1)) := by
            show _ = _
            rw [if_neg (by omega), Nat.add_sub_cancel, e1.out]
          clear k1 k2 k3 GE NO
          go_wp2
          refine region_ext (by kernel_rfl) (by kernel_rfl) ?_
          repeat (go_big_quiet_step (first | (go_at_call 46; exact calls_ext (idI tx n _ hts HN.out)) | (go_at_call 45; exact calls_ext (kdI tx m _ hts HM.out (hgx _)))))
          refine wpQuiet_nil ?_
          rintro _ ⟨x, rfl⟩
          have hbx := (hb.alloc hsz (.cells #[.int .i64 id, .string tx] 49)).trans (x.below.mono (by simp; omega))
          have x1' := x1 x
          go_wp2
          go_roundw
          case rel => exact ⟨j + 1, id, by omega, by go_num, rfl, HLA', HA', hbx⟩
          case measure => simp [intOf]; omega
      · have e := NO.out (by rw [GE.out, decide_eq_false k2]; simp)
        subst e
        have y2 : (id != (n : Int)) = true := by simpa using k2
        have y2' : (id == (n : Int)) = false := by simpa using k2
        clear k1 k2 GE NO
        go_wp2
        refine region_ext (by kernel_rfl) (by kernel_rfl) ?_
        repeat (go_big_quiet_step (first | (go_at_call 46; exact calls_ext (idI tx n _ hts HN.out)) | (go_at_call 45; exact calls_ext (kdI tx m _ hts HM.out (hgx _)))))
        refine wpQuiet_nil ?_
        rintro _ ⟨x, rfl⟩
        have hbx := (hb.alloc hsz (.cells #[.int .i64 id, .string tx] 49)).trans (x.below.mono (by simp; omega))
        go_wp2
        go_ret
        exact ⟨rfl, hbx⟩
    · obtain rfl : j = L.length := by omega
      have e : k = true := by rw [← HK.out]; exact okP_good L (by omega) HA.out
      subst e
      go_wp2
      go_ret
      exact ⟨rfl, hb⟩
set_option maxRecDepth 100000 in
set_option maxHeartbeats 4000000 in
theorem polOk_spec (A : Option Addr) (c : Nat) (L : List PI) (w : World) (hL : RdP w.heap.size w A L) (hn : L.length ≤ 1048576) (ht : ∀ j (h : j < L.length), (L[j]).tx.size ≤ 1048576) :
    Calls Tryz.prog 25 #[.slice A L.length c] w fun e w' => e = .returned (.bool (okP L)) ∧ Below w.heap.size w w' := by
  have HL : Hid (RdP w.heap.size w A L) := hL
  have HT : Hid (∀ j (h : j < L.length), (L[j]).tx.size ≤ 1048576) := ht
  clear hL ht
  by_cases h7 : 700 < L.length
  · rw [okP_long L h7]
    go_enter Tryz.func25, Tryz.ntmps25
    go_wp2
    go_ret
    exact ⟨rfl, Below.refl _ _⟩
  generalize hk : okP L = k
  have HK : Hid (okP L = k) := hk
  clear hk
  go_enter Tryz.func25, Tryz.ntmps25
  go_wp2
  go_loopw [3] (fun iv wr => ∃ (j : Nat), j ≤ L.length ∧ iv = .int .i64 j ∧ Hid (∀ i, i < j → gP L i = true) ∧ Below w.heap.size w wr) (fun i _ => L.length - (intOf i).toNat)
  case atStart => exact ⟨0, Nat.zero_le _, rfl, (show ∀ i, i < 0 → _ from fun i h => by omega), Below.refl _ _⟩
  case round =>
    obtain ⟨j, hj, rfl, HA, hb⟩ := hrel
    have hsz := hb.size
    by_cases hlt : j < L.length
    · obtain ⟨b, o, rfl, hbl, c1, c2⟩ := (HL.out.below hb (Nat.le_refl _)) j hlt
      have hts := HT.out j hlt
      have e1 : Hid (idP L j = (L[j]).id) := idP_at L j hlt
      have e2 : Hid (txP L j = (L[j]).tx) := txP_at L j hlt
      generalize (L[j]).id = id at *
      generalize (L[j]).tx = tx at *
      obtain ⟨n, hn'⟩ : ∃ n, idOfN tx.data.toList = n := ⟨_, rfl⟩
      obtain ⟨m, hm'⟩ : ∃ m, kd tx = m := ⟨_, rfl⟩
      have HN : Hid (idOfN tx.data.toList = n) := hn'
      have HM : Hid (kd tx = m) := hm'
      have NO : Hid (gP L j = false → k = false) := fun h => by rw [← HK.out]; exact okP_bad L j hlt h
      have GE : Hid (gP L j = (decide (m ≠ 0) && (decide (id = (n : Int)) && (decide (j = 0) || decide (idP L (j - 1) < id))))) := by
        show _ = _
        unfold gP; rw [e1.out, e2.out, hn', hm']
      clear hn' hm'
      have x1 : ∀ x : Ext wr, x.world.cell? ⟨b, o + j * 2, none⟩ = some (.int .i64 id) := fun x => x.cell c1
      have x2 : ∀ x : Ext wr, x.world.cell? ⟨b, o + j * 2 + 1, none⟩ = some (.string tx) := fun x => x.cell c2
      have hne : Nonempty (Ext wr) := ⟨⟨wr, Below.refl _ _⟩⟩
      by_cases k3 : m = 0
      · have e := NO.out (by rw [GE.out, k3]; rfl)
        subst e
        have y3 : (((m : Nat) : Int) == 0) = true := by rw [k3]; rfl
        clear GE NO k3
        go_wp2
        refine region_ext (by kernel_rfl) (by kernel_rfl) ?_
        repeat (go_big_quiet_step (first | (go_at_call 40; exact calls_ext (idS tx n _ hts HN.out)) | (go_at_call 26; exact calls_ext (kdS tx m _ hts HM.out))))
        refine wpQuiet_nil ?_
        rintro _ ⟨x, rfl⟩
        have hbx := hb.trans (x.below.mono hsz)
        go_wp2
        go_ret
        exact ⟨rfl, hbx⟩
      have y3 : (((m : Nat) : Int) == 0) = false := beq_eq_false_iff_ne.2 (by omega)
      by_cases k2 : id = (n : Int)
      rotate_left
      · have e := NO.out (by rw [GE.out, decide_eq_false k2]; simp)
        subst e
        have y2 : (id != (n : Int)) = true := by simpa using k2
        have y2' : (id == (n : Int)) = false := by simpa using k2
        clear GE NO k2 k3
        go_wp2
        refine region_ext (by kernel_rfl) (by kernel_rfl) ?_
        repeat (go_big_quiet_step (first | (go_at_call 40; exact calls_ext (idS tx n _ hts HN.out)) | (go_at_call 26; exact calls_ext (kdS tx m _ hts HM.out))))
        refine wpQuiet_nil ?_
        rintro _ ⟨x, rfl⟩
        have hbx := hb.trans (x.below.mono hsz)
        go_wp2
        go_ret
        exact ⟨rfl, hbx⟩
      have y2 : (id != (n : Int)) = false := by rw [k2]; simp
      have y2' : (id == (n : Int)) = true := by rw [k2]; simp
      by_cases k4 : j = 0
      · have HA' : Hid (∀ i, i < 1 → gP L i = true) := fun i hi => by
          obtain rfl : i = 0 := by omega
          subst k4
          rw [GE.out, decide_eq_true k3, decide_eq_true k2]; rfl
        subst k4
        simp only [Nat.zero_mul, Nat.add_zero] at x1 x2 c1 c2
        clear GE NO k2 k3
        go_wp2
        refine region_ext (by kernel_rfl) (by kernel_rfl) ?_
        repeat (go_big_quiet_step (first | (go_at_call 40; exact calls_ext (idS tx n _ hts HN.out)) | (go_at_call 26; exact calls_ext (kdS tx m _ hts HM.out))))
        refine wpQuiet_nil ?_
        rintro _ ⟨x, rfl⟩
        have hbx := hb.trans (x.below.mono hsz)
        go_wp2
        go_roundw
        case rel => exact ⟨1, by omega, rfl, HA', hbx⟩
        case measure => simp [intOf]; omega
      obtain ⟨i, rfl⟩ : ∃ i, j = i + 1 := ⟨j - 1, by omega⟩
      obtain ⟨b', o', ea, hbl', d1, d2⟩ := (HL.out.below hb (Nat.le_refl _)) i (by omega)
      simp only [Option.some.injEq, Addr.mk.injEq] at ea
      obtain ⟨rfl, rfl, _⟩ := ea
      have e3 : Hid (idP L i = (L[i]).id) := idP_at L i (by omega)
      generalize (L[i]).id = id' at *
      have x3 : ∀ x : Ext wr, x.world.cell? ⟨b, o + i * 2, none⟩ = some (.int .i64 id') := fun x => x.cell d1
      clear d1 d2 k4
      have y4 : (0 : Int) < ((i + 1 : Nat) : Int) := by omega
      have y5 : (0 : Int) < (i : Int) + 1 := by omega
      by_cases k5 : id ≤ id'
      · have e := NO.out (by
          rw [GE.out, Nat.add_sub_cancel, e3.out]
          have : decide (id' < id) = false := decide_eq_false (by omega)
          rw [this]; simp)
        subst e
        clear GE NO k2 k3
        go_wp2
        refine region_ext (by kernel_rfl) (by kernel_rfl) ?_
        repeat (go_big_quiet_step (first | (go_at_call 40; exact calls_ext (idS tx n _ hts HN.out)) | (go_at_call 26; exact calls_ext (kdS tx m _ hts HM.out))))
        refine wpQuiet_nil ?_
        rintro _ ⟨x, rfl⟩
        have hbx := hb.trans (x.below.mono hsz)
        go_wp2
        go_ret
        exact ⟨rfl, hbx⟩
      · have y6 : decide (id ≤ id') = false := decide_eq_false k5
        have HA' : Hid (∀ t, t < i + 1 + 1 → gP L t = true) := fun t ht => by
          by_cases h : t < i + 1
          · exact HA.out t h
          · obtain rfl : t = i + 1 := by omega
            rw [GE.out, decide_eq_true k3, decide_eq_true k2, Nat.add_sub_cancel, e3.out]
            have : decide (id' < id) = true := decide_eq_true (by omega)
            rw [this]; simp
        clear GE NO k2 k3 k5
        go_wp2
        refine region_ext (by kernel_rfl) (by kernel_rfl) ?_
        repeat (go_big_quiet_step (first | (go_at_call 40; exact calls_ext (idS tx n _ hts HN.out)) | (go_at_call 26; exact calls_ext (kdS tx m _ hts HM.out))))
        refine wpQuiet_nil ?_
        rintro _ ⟨x, rfl⟩
        have hbx := hb.trans (x.below.mono hsz)
        go_wp2
        go_roundw
        case rel => exact ⟨i + 1 + 1, by omega, by go_num, HA', hbx⟩
        case measure => simp [intOf]; omega
    · obtain rfl : j = L.length := by omega
      have e : k = true := by rw [← HK.out]; exact okP_good L (by omega) HA.out
      subst e
      go_wp2
      go_ret
      exact ⟨rfl, hb⟩
end Go.Proofs.YtcmbcaipnjokjaaGreatDoor.W
