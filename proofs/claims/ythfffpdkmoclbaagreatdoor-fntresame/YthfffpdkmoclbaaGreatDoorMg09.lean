/-
  Plain mathematics of reading an id's digits. No condition.
  Plain mathematics: an id's digits there and back. No condition but that the number is an id, or that the digits are read.
  Plain mathematics of sheets: entries, how they are written, and that both ways of reading a text find just the entries of which it is written. No condition.
-/
import Derived.WalkKit
import Derived.Lib.Bytealg
import Derived.Test.YthfffpdkmoclbaaGreatDoorMg08
import Derived.Lib.Strings
import Derived.Test.YthfffpdkmoclbaaGreatDoorMg02
namespace Go.Proofs.YthfffpdkmoclbaaGreatDoor.M
open Go.RowKit

/-- the number of a digit; -1 of any other byte -/
def hexV (c : UInt8) : Int := if 48 ≤ c.toNat ∧ c.toNat ≤ 57 then (c.toNat : Int) - 48 else if 97 ≤ c.toNat ∧ c.toNat ≤ 102 then (c.toNat : Int) - 87 else -1
def rdF : Nat → List UInt8 → Option Nat
  | acc, [] => some acc
  | acc, c :: r => if hexV c < 0 then none else rdF (acc * 16 + (hexV c).toNat) r
/-- the number that eight digits are, 0 if they are none -/
def rdN (l : List UInt8) : Nat := if l.length = 8 then (rdF 0 l).getD 0 else 0
def rdB (l : List UInt8) : Bool := decide (0 < rdN l)

theorem hexV_bd (c : UInt8) : -1 ≤ hexV c ∧ hexV c ≤ 15 := by unfold hexV; split <;> (try split) <;> omega
theorem idx_hex : ∀ c : UInt8, Lib.indexByte [48, 49, 50, 51, 52, 53, 54, 55, 56, 57, 97, 98, 99, 100, 101, 102] c = hexV c := by
  have h : ∀ n : Fin 256, Lib.indexByte [48, 49, 50, 51, 52, 53, 54, 55, 56, 57, 97, 98, 99, 100, 101, 102] (UInt8.ofNat n.val) = hexV (UInt8.ofNat n.val) := by decide +kernel
  intro c
  have := h ⟨c.toNat, c.toNat_lt⟩
  simpa using this
theorem rdF_none (m : Nat) (c : UInt8) (r : List UInt8) (h : hexV c < 0) : rdF m (c :: r) = none := by simp [rdF, h]
theorem rdF_some (m : Nat) (c : UInt8) (r : List UInt8) (h : ¬ hexV c < 0) : rdF m (c :: r) = rdF (m * 16 + (hexV c).toNat) r := by simp [rdF, h]
theorem drop_at (s : ByteArray) (k : Nat) (h : k < s.size) : s.data.toList.drop k = s[k] :: s.data.toList.drop (k + 1) := by
  rw [List.drop_eq_getElem_cons (by simpa using h)]; rfl
theorem rdN_short (l : List UInt8) (h : ¬ l.length = 8) : rdN l = 0 := by simp [rdN, h]
theorem rdN_no (l : List UInt8) (h : l.length = 8) (h2 : rdF 0 l = none) : rdN l = 0 := by simp [rdN, h, h2]
theorem rdN_yes (l : List UInt8) (m : Nat) (h : l.length = 8) (h2 : rdF 0 l = some m) : rdN l = m := by simp [rdN, h, h2]
theorem rdB_of0 (l : List UInt8) (h : rdN l = 0) : rdB l = false := by simp [rdB, h]
theorem pow_step (m k : Nat) (v : Int) (h : m < 16 ^ k) (h1 : 0 ≤ v) (h2 : v ≤ 15) : m * 16 + v.toNat < 16 ^ (k + 1) := by
  rw [Nat.pow_succ]; omega
end Go.Proofs.YthfffpdkmoclbaaGreatDoor.M
namespace Go.Proofs.YthfffpdkmoclbaaGreatDoor.M
open Go.RowKit

theorem hexV_hexD : ∀ d : Fin 16, hexV (hexD d.val) = (d.val : Int) := by decide
theorem hexD_hexV (c : UInt8) (h : ¬ hexV c < 0) : hexD (hexV c).toNat = c := by
  have key : ∀ n : Fin 256, ¬ hexV (UInt8.ofNat n.val) < 0 → hexD (hexV (UInt8.ofNat n.val)).toNat = UInt8.ofNat n.val := by decide +kernel
  have := key ⟨c.toNat, c.toNat_lt⟩
  simp only [UInt8.ofNat_toNat] at this
  exact this h
theorem hexV_lt (c : UInt8) : (hexV c).toNat < 16 := by have := hexV_bd c; omega
theorem rdF_digs (n : Nat) : ∀ (k acc : Nat), rdF acc (digs k n) = some (acc * 16 ^ k + n % 16 ^ k) := by
  intro k
  induction k with
  | zero => intro acc; simp [digs, rdF, Nat.mod_one]
  | succ k ih =>
    intro acc
    have hd : n / 16 ^ k % 16 < 16 := Nat.mod_lt _ (by omega)
    have hv : hexV (hexD (n / 16 ^ k % 16)) = ((n / 16 ^ k % 16 : Nat) : Int) := hexV_hexD ⟨_, hd⟩
    rw [digs, rdF_some _ _ _ (by rw [hv]; omega), hv, ih]
    congr 1
    rw [Nat.mod_pow_succ, Nat.pow_succ]
    have : ((n / 16 ^ k % 16 : Nat) : Int).toNat = n / 16 ^ k % 16 := by omega
    rw [this, Nat.add_mul, Nat.mul_assoc, Nat.mul_comm 16 (16 ^ k), Nat.mul_comm (n / 16 ^ k % 16) (16 ^ k)]
    omega
theorem rdN_hex (n : Nat) (h2 : n ≤ 4294967295) : rdN (hexL n) = n := by
  have h := rdF_digs n 8 0
  have : (16 : Nat) ^ 8 = 4294967296 := by decide
  rw [this] at h
  rw [rdN_yes (hexL n) (0 * 4294967296 + n % 4294967296) (hexL_length n) h]
  omega
theorem rdF_val (l : List UInt8) : ∀ (acc m : Nat), rdF acc l = some m → m / 16 ^ l.length = acc := by
  induction l with
  | nil => intro acc m h; simp [rdF] at h; subst h; simp
  | cons c r ih =>
    intro acc m h
    by_cases hc : hexV c < 0
    · rw [rdF_none _ _ _ hc] at h; cases h
    · rw [rdF_some _ _ _ hc] at h
      have := ih _ _ h
      have hl := hexV_lt c
      rw [List.length_cons, Nat.pow_succ, ← Nat.div_div_eq_div_mul, this]
      omega
theorem digs_rdF (l : List UInt8) : ∀ (acc m : Nat), rdF acc l = some m → digs l.length m = l := by
  induction l with
  | nil => intro acc m _; rfl
  | cons c r ih =>
    intro acc m h
    by_cases hc : hexV c < 0
    · rw [rdF_none _ _ _ hc] at h; cases h
    · rw [rdF_some _ _ _ hc] at h
      have h1 := rdF_val r _ _ h
      have h2 := ih _ _ h
      have hl := hexV_lt c
      rw [List.length_cons, digs, h1, h2]
      have : (acc * 16 + (hexV c).toNat) % 16 = (hexV c).toNat := by omega
      rw [this, hexD_hexV c hc]
theorem rdN_lt (l : List UInt8) : rdN l ≤ 4294967295 := by
  by_cases h8 : l.length = 8
  · cases e : rdF 0 l with
    | none => rw [rdN_no l h8 e]; omega
    | some m =>
      rw [rdN_yes l m h8 e]
      have := rdF_val l 0 m e
      rw [h8, show (16 : Nat) ^ 8 = 4294967296 by decide] at this
      omega
  · rw [rdN_short l h8]; omega
theorem hex_rdN (l : List UInt8) (h : rdB l = true) : hexL (rdN l) = l := by
  unfold rdB at h
  have hpos : 0 < rdN l := of_decide_eq_true h
  by_cases h8 : l.length = 8
  · cases e : rdF 0 l with
    | none => rw [rdN_no l h8 e] at hpos; omega
    | some m =>
      rw [rdN_yes l m h8 e]
      have := digs_rdF l 0 m e
      rw [h8] at this; exact this
  · rw [rdN_short l h8] at hpos; omega
theorem idHex_rd (t : ByteArray) (h : rdB t.data.toList = true) : idHexB ((rdN t.data.toList : Nat) : Int) = t := by
  have hpos : 0 < rdN t.data.toList := of_decide_eq_true h
  rw [idHexB_in _ hpos (rdN_lt _)]
  unfold hexB; rw [hex_rdN _ h]
theorem rd_idHex (n : Nat) (h1 : 1 ≤ n) (h2 : n ≤ 4294967295) : rdN (idHexB (n : Int)).data.toList = n := by
  rw [idHexB_in n h1 h2]; exact rdN_hex n h2
theorem rdB_idHex (n : Nat) (h1 : 1 ≤ n) (h2 : n ≤ 4294967295) : rdB (idHexB (n : Int)).data.toList = true := by
  unfold rdB; rw [rd_idHex n h1 h2]; exact decide_eq_true h1
theorem idHex_ne (n : Nat) (h1 : 1 ≤ n) (h2 : n ≤ 4294967295) : (idHexB (n : Int)).toList.isEmpty = false := by
  rw [idHexB_in n h1 h2, Lib.toList_data]
  show (hexL n).isEmpty = false
  have := hexL_length n
  cases e : hexL n
  · rw [e] at this; cases this
  · rfl
theorem idHex_255 : idHexB 255 = ⟨#[48, 48, 48, 48, 48, 48, 102, 102]⟩ := by decide
end Go.Proofs.YthfffpdkmoclbaaGreatDoor.M
namespace Go.Proofs.YthfffpdkmoclbaaGreatDoor.M
open Go.RowKit

structure En where
  nm : List UInt8
  sh : Bool
  id : Int

def mrk (b : Bool) : UInt8 := if b then 47 else 61
def encE (e : En) : List UInt8 := e.nm ++ mrk e.sh :: (idHexB e.id).data.toList
def encL : List En → List UInt8
  | [] => []
  | e :: r => encE e ++ encL r
def okE (e : En) : Bool := namB e.nm && decide (1 ≤ e.id ∧ e.id ≤ 4294967295)
def riseB : List En → Bool
  | [] => true
  | [_] => true
  | a :: b :: r => Op.bytesLess a.nm b.nm && riseB (b :: r)
/-- entries of which a sheet is made -/
def okL (es : List En) : Bool := decide (es.length ≤ 60) && (es.all okE && riseB es)
/-- the text of a sheet; empty, if there is none -/
def sheetT (es : List En) : List UInt8 := if okL es then 83 :: encL es else []

theorem bl_tri : ∀ (x y : List UInt8), (Op.bytesLess x y || x == y) = !(Op.bytesLess y x) := by
  intro x
  induction x with
  | nil => intro y; cases y <;> rfl
  | cons a x ih =>
    intro y
    cases y with
    | nil => rfl
    | cons b y =>
      have h := ih y
      by_cases e : a = b
      · subst e
        have hlt : ¬ a < a := UInt8.lt_irrefl a
        simp only [Op.bytesLess, hlt, decide_false, beq_self_eq_true, Bool.true_and, Bool.false_or]
        rw [← h]
        simp [BEq.beq, List.beq]
      · have hb : (a == b) = false := by simpa using e
        have hb' : (b == a) = false := by simpa using Ne.symm e
        have hl : ((a :: x) == (b :: y)) = false := by simp [e]
        simp only [Op.bytesLess, hb, hb', hl, Bool.false_and, Bool.or_false]
        have : (a < b) ∨ (b < a) := by
          have h1 : a.toNat ≠ b.toNat := fun q => e (UInt8.toNat.inj q)
          rw [UInt8.lt_iff_toNat_lt, UInt8.lt_iff_toNat_lt]; omega
        rcases this with q | q
        · have q' : ¬ b < a := by rw [UInt8.lt_iff_toNat_lt] at *; omega
          simp [q, q']
        · have q' : ¬ a < b := by rw [UInt8.lt_iff_toNat_lt] at *; omega
          simp [q, q']

theorem idHex_length (n : Int) (h : 1 ≤ n ∧ n ≤ 4294967295) : (idHexB n).data.toList.length = 8 := by
  obtain ⟨m, rfl⟩ := Int.eq_ofNat_of_zero_le (show 0 ≤ n by omega)
  rw [idHexB_in m (by omega) (by omega)]; exact hexL_length m
theorem idHex_rdN (n : Int) (h : 1 ≤ n ∧ n ≤ 4294967295) : ((rdN (idHexB n).data.toList : Nat) : Int) = n ∧ rdB (idHexB n).data.toList = true := by
  obtain ⟨m, rfl⟩ := Int.eq_ofNat_of_zero_le (show 0 ≤ n by omega)
  exact ⟨by rw [rd_idHex m (by omega) (by omega)], rdB_idHex m (by omega) (by omega)⟩
theorem rd_enc (ds : List UInt8) (h : rdB ds = true) : (idHexB ((rdN ds : Nat) : Int)).data.toList = ds ∧ 1 ≤ ((rdN ds : Nat) : Int) ∧ ((rdN ds : Nat) : Int) ≤ 4294967295 := by
  have hpos : 0 < rdN ds := of_decide_eq_true h
  have hle := rdN_lt ds
  refine ⟨?_, by omega, by omega⟩
  rw [idHexB_in _ hpos hle]; exact hex_rdN ds h

/-- an entry at the beginning of a text, and the rest -/
def cutL (l : List UInt8) : Option (En × List UInt8) :=
  if l.length < letN l + 9 then none else
  match l.drop (letN l) with
  | [] => none
  | c :: r => if c = 61 ∨ c = 47 then (if rdB (r.take 8) then some (⟨l.take (letN l), decide (c = 47), ((rdN (r.take 8) : Nat) : Int)⟩, r.drop 8) else none) else none
def parseF : Nat → List UInt8 → Option (List En)
  | 0, _ => none
  | _ + 1, [] => some []
  | f + 1, c :: l => match cutL (c :: l) with
    | none => none
    | some (e, r) => (parseF f r).map (e :: ·)

theorem letN_app (x : List UInt8) (c : UInt8) (r : List UInt8) (hx : x.all low = true) (hc : low c = false) : letN (x ++ c :: r) = x.length := by
  induction x with
  | nil => simp [letN, hc]
  | cons a x ih =>
    simp at hx
    have := ih (by simpa using hx.2)
    simp [letN, hx.1] at this ⊢; exact this
theorem mrk_low (b : Bool) : low (mrk b) = false := by cases b <;> decide
theorem mrk_is (b : Bool) : mrk b = 61 ∨ mrk b = 47 := by cases b <;> simp [mrk]
theorem mrk_sh (b : Bool) : decide (mrk b = 47) = b := by cases b <;> decide
theorem mrk_of (c : UInt8) (h : c = 61 ∨ c = 47) : mrk (decide (c = 47)) = c := by rcases h with rfl | rfl <;> rfl
theorem nam_low (x : List UInt8) (h : namB x = true) : x.all low = true := by unfold namB at h; simp at h; simp; exact h.2.2
theorem okE_parts (e : En) (h : okE e = true) : namB e.nm = true ∧ 1 ≤ e.id ∧ e.id ≤ 4294967295 := by
  unfold okE at h; simp at h; exact ⟨h.1, h.2.1, h.2.2⟩

theorem cut_enc (e : En) (r : List UInt8) (h : okE e = true) : cutL (encE e ++ r) = some (e, r) := by
  obtain ⟨h1, h2, h3⟩ := okE_parts e h
  have hl := idHex_length e.id ⟨h2, h3⟩
  obtain ⟨hr, hb⟩ := idHex_rdN e.id ⟨h2, h3⟩
  have hlet : letN (encE e ++ r) = e.nm.length := by
    unfold encE; rw [List.append_assoc, List.cons_append]; exact letN_app _ _ _ (nam_low _ h1) (mrk_low _)
  have hd : (encE e ++ r).drop e.nm.length = mrk e.sh :: ((idHexB e.id).data.toList ++ r) := by
    unfold encE; rw [List.append_assoc, List.cons_append, List.drop_left]
  have ht : (encE e ++ r).take e.nm.length = e.nm := by
    unfold encE; rw [List.append_assoc, List.take_left]
  have hlen : (encE e ++ r).length = e.nm.length + 9 + r.length := by unfold encE; simp [hl]; omega
  have h8 : ((idHexB e.id).data.toList ++ r).take 8 = (idHexB e.id).data.toList := by rw [← hl, List.take_left]
  have h8d : ((idHexB e.id).data.toList ++ r).drop 8 = r := by rw [← hl, List.drop_left]
  unfold cutL
  rw [hlet, if_neg (by omega), hd]
  simp only []
  rw [if_pos (mrk_is _), h8, if_pos hb, ht, h8d, mrk_sh, hr]
theorem enc_cut (l : List UInt8) (e : En) (r : List UInt8) (h : cutL l = some (e, r)) : l = encE e ++ r ∧ r.length < l.length := by
  unfold cutL at h
  split at h
  · cases h
  · rename_i hlen
    split at h
    · cases h
    · rename_i c t hd
      split at h
      · rename_i hc
        split at h
        · rename_i hb
          simp only [Option.some.injEq, Prod.mk.injEq] at h
          obtain ⟨rfl, rfl⟩ := h
          obtain ⟨he, _, _⟩ := rd_enc _ hb
          have hl : l = l.take (letN l) ++ c :: t := by rw [← hd, List.take_append_drop]
          have hlt : l.length = letN l + 1 + t.length := by
            have := congrArg List.length hd; simp at this; omega
          constructor
          · unfold encE
            simp only []
            rw [he, mrk_of c hc, List.append_assoc, List.cons_append, List.take_append_drop]
            exact hl
          · simp; omega
        · cases h
      · cases h

theorem parse_enc (es : List En) : ∀ f, es.length < f → es.all okE = true → parseF f (encL es) = some es := by
  induction es with
  | nil => intro f hf _; cases f with
    | zero => omega
    | succ f => rfl
  | cons e es ih =>
    intro f hf h
    simp at h
    cases f with
    | zero => omega
    | succ f =>
      have hi := ih f (by simpa using hf) (by simpa using h.2)
      have hc := cut_enc e (encL es) h.1
      have hne : ∃ c l, encE e ++ encL es = c :: l := by
        unfold encE; cases e.nm with
        | nil => exact ⟨_, _, rfl⟩
        | cons a x => exact ⟨_, _, rfl⟩
      obtain ⟨c, l, hcl⟩ := hne
      show parseF (f + 1) (encE e ++ encL es) = _
      rw [hcl] at hc ⊢
      simp only [parseF, hc, hi, Option.map_some]
theorem enc_parse : ∀ (f : Nat) (l : List UInt8) (es : List En), parseF f l = some es → encL es = l ∧ es.length ≤ l.length := by
  intro f
  induction f with
  | zero => intro l es h; cases h
  | succ f ih =>
    intro l es h
    cases l with
    | nil => simp only [parseF, Option.some.injEq] at h; subst h; exact ⟨rfl, Nat.le_refl _⟩
    | cons c l =>
      simp only [parseF] at h
      cases hc : cutL (c :: l) with
      | none => rw [hc] at h; cases h
      | some p =>
        obtain ⟨e, r⟩ := p
        rw [hc] at h
        simp only [Option.map_eq_some_iff] at h
        obtain ⟨es', h1, rfl⟩ := h
        obtain ⟨h2, h3⟩ := ih r es' h1
        obtain ⟨h4, h5⟩ := enc_cut _ _ _ hc
        exact ⟨by show encE e ++ encL es' = _; rw [h2, ← h4], by simp at h5 ⊢; omega⟩
end Go.Proofs.YthfffpdkmoclbaaGreatDoor.M
