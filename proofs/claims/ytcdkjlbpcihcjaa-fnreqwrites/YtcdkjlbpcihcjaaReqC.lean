
/-
  What a drawn request's walk wants: contracts over its state, its frame, pieces of its code. (Written by genreqw.py.) No condition but that the reader is open.
-/
import Derived.Test.YtcdkjlbpcihcjaaSlotQA
import Derived.Test.YtcdkjlbpcihcjaaSlotQB
import Derived.Test.YtcdkjlbpcihcjaaSlotQC
import Derived.Test.YtcdkjlbpcihcjaaReqB
import Derived.Test.YtcdkjlbpcihcjaaWalkRule3
import Derived.Test.YtcdkjlbpcihcjaaWalkReqW
import Derived.Deep.DeepCutAuto
import Derived.Deep.Cut
namespace Go.Proofs.Ytcdkjlbpcihcjaa.W
open Go.RowKit Go.Proofs.Ytcdkjlbpcihcjaa.M
set_option linter.unusedVariables false

/-- what a drawn request is -/
def DrewQ (w : World) (rb p n k : Nat) (ad : Option Addr) (len cap : Nat) (zs : Nat → Int) (e : Ending) (w' : World) : Prop :=
  ∃ (x : RQ) (E : Value) (q : Nat), e = .returned (.agg (x.at_ E)) ∧ q ≤ p + k ∧ Rd w' rb q ad len cap zs ∧ w.grownBy w' (some rb) ∧ w'.ownsRow (w.heap.size + 2) 41 3 E x.edits.length (cellsE x.edits) ∧ x.edits.length ≤ n ∧ short x.edits ∧ smallQ x

set_option maxHeartbeats 1000000 in
theorem edits_rd (w : World) (rb p : Nat) (a : Option Addr) (len cap : Nat) (zs : Nat → Int) (h : Rd w rb p a len cap zs) (hp : p ≤ 800000) (hlt : rb < w.heap.size) :
    Calls Try.prog 31 #[.pointer (some ⟨rb, 0, none⟩)] w fun e w' => ∃ (v : Value) (M : List TE) (q : Nat), e = .returned v ∧ M.length ≤ 4 ∧ short M ∧ w'.ownsRow w.heap.size 41 3 v M.length (cellsE M) ∧ q ≤ p + 20 ∧ Rd w' rb q a len cap zs ∧ w.grownBy w' (some rb) := by
  obtain ⟨i0, hi, hz0, hz1, hz2⟩ := info_parts infoE
  have O0 : (w.alloc (.cells #[] 41)).ownsRow w.heap.size 41 3 (.slice (some ⟨w.heap.size, 0, none⟩) 0 0) 0 [] := World.ownsRow_lit w #[] 0 (Nat.le_refl _) (by unfold maxLen; omega) rfl
  go_enter Try.func31, Try.ntmps31
  go_wp2_with (go_at_call 22; refine (pick_any _ rb p a len cap 4 zs (h.alloc hlt _) (by omega) (by omega) (by omega)).mono ?_; rintro e w1 ⟨n, hn, rfl, R1, g1⟩; have z1 := g1.size; simp at z1; have O1 := O0.kept g1 (.inr (by simp [Value.ownBlock]; omega)); have G1 : w.grownBy w1 (some rb) := gtrans (galloc _ _) g1)
  go_loopw [3, 4] (fun v kv wr => ∃ (m p' : Nat) (M : List TE), 1 ≤ M.length + m ∧ M.length + m ≤ 4 ∧ kv = .int .i64 m ∧ p' ≤ p + 1 + 3 * M.length ∧ Hid (short M) ∧ Rd wr rb p' a len cap zs ∧ wr.ownsRow w.heap.size 41 3 v M.length (cellsE M) ∧ w.grownBy wr (some rb)) (fun _ k _ => (intOf k).toNat)
  case atStart => exact ⟨n + 1, p + 1, [], by simp, by simp; omega, by go_num, by simp, (show short [] from fun x hx => by simp at hx), R1, O1, G1⟩
  case round =>
    obtain ⟨m, p', M, hm1, hm, rfl, hp', HS, R, hown, G⟩ := hrel
    have hz := G.size
    have hM : M.length ≤ 4 := by omega
    by_cases hm0 : 0 < m
    · have hlts := hown.lt
      go_wp2_with (first
        | (go_at_call 32; refine (edit_any _ rb p' a len cap zs R (by omega) (by omega)).mono ?_; rintro e w2 ⟨s, t, gn, p2, rfl, hs, ht, hp2, R2, g2⟩; have z2 := g2.size; have O2 := hown.kept g2 (by cases hq : u3.ownBlock with | none => exact .inl rfl | some k => exact .inr (by have := (hlts k hq).1; simp; omega)))
        | (at_builtin; refine wpList_append_own _ rfl _ _ 23 rfl w.heap.size 41 i0 (.agg #[.string ByteArray.empty, .string ByteArray.empty, .bool false]) 3 40 Try.underlying23 hi hz0 hz1 hz2 rfl (by decide) _ _ _ rfl (O2.alloc _) ⟨w2.heap.size, 0, none⟩ 1 1 [.string s, .string t, .bool gn] rfl rfl (cells_new _ #[.string s, .string t, .bool gn] _) (fun u hu => by simp at hu; rcases hu with rfl | rfl | rfl <;> rfl) (by unfold maxLen; omega) (by omega) (by simp; omega) ?_; intro v' w3 hown' hgrow3 hnil3))
      have hal : ∀ r, u3.ownBlock = some r → rb < r := fun r hr => by have := (hlts r hr).1; omega
      have G3 : w.grownBy w3 (some rb) := by
        have ga : w.grownBy (w2.alloc (.cells #[.string s, .string t, .bool gn] 41)) (some rb) := gtrans (gtrans G g2) (galloc _ _)
        refine ⟨hgrow3.os.trans ga.os, hgrow3.tape.trans ga.tape, hgrow3.output.trans ga.output, Nat.le_trans ga.size hgrow3.size, fun k hk hn => (hgrow3.block k (Nat.lt_of_lt_of_le hk ga.size) (fun e => ?_)).trans (ga.block k hk hn)⟩
        have := (hlts k e.symm).1
        omega
      have R3 : Rd w3 rb p2 a len cap zs := (R2.alloc (by omega) _).kept hgrow3 hal (by simp; omega)
      go_roundw
      case rel =>
        refine ⟨m - 1, p2, M ++ [⟨s, t, gn⟩], by simp; omega, by simp; omega, by go_num, by simp; omega, ?_, R3, ?_, G3⟩
        · show short _
          intro x hx
          rcases List.mem_append.1 hx with hx | hx
          · exact HS.out x hx
          · obtain rfl : x = ⟨s, t, gn⟩ := by simpa using hx
            exact ⟨hs, ht⟩
        · rw [cellsE_snoc, List.length_append]; exact hown'
      case measure => simp [intOf]; omega
    · go_wp2
      go_ret
      exact ⟨_, M, _, rfl, by omega, HS.out, hown, by omega, R, G⟩


theorem editsS {w wc : World} {rb k m q : Nat} {ad : Option Addr} {len cap : Nat} {zs : Nat → Int} {x : RQ} {E : Value} (h : S21 w rb k m ad len cap zs wc x E q) (hq : q ≤ 800000) :
    Calls Try.prog 31 #[.pointer (some ⟨rb, 0, none⟩)] wc fun e w' => ∃ (A : Option Addr) (n c : Nat) (M : List TE) (q' : Nat), e = .returned (.slice A n c) ∧ M.length ≤ 4 ∧ short M ∧ w'.ownsRow (k + 1) 41 3 (.slice A n c) M.length (cellsE M) ∧ q' ≤ q + 20 ∧ S21 w rb k m ad len cap zs w' x E q' := by
  refine (edits_rd wc rb q ad len cap zs h.rd hq h.lt2).mono ?_
  rintro e w' ⟨v, M, q', rfl, hM, hS, hO, hq', hR, hG⟩
  have hk := h.lk2
  have h1 := h.g.size
  have h2 := h.lk
  obtain ⟨A, n, c, rfl⟩ : ∃ A n c, v = .slice A n c := by
    rcases hO.2 with ⟨rfl, _⟩ | ⟨g', cap', cur', rfl, _⟩
    · exact ⟨_, _, _, rfl⟩
    · exact ⟨_, _, _, rfl⟩
  exact ⟨A, n, c, M, q', rfl, hM, hS, ownsUpE hO (by omega), hq', h.call hG hR⟩
theorem editS {w wc : World} {rb k m q : Nat} {ad : Option Addr} {len cap : Nat} {zs : Nat → Int} {x : RQ} {E : Value} (h : S21 w rb k m ad len cap zs wc x E q) (hq : q ≤ 800000) :
    Calls Try.prog 32 #[.pointer (some ⟨rb, 0, none⟩)] wc fun e w' => ∃ (s t : ByteArray) (g : Bool) (q' : Nat), e = .returned (.agg #[.string s, .string t, .bool g]) ∧ s.size ≤ 64 ∧ t.size ≤ 64 ∧ q' ≤ q + 3 ∧ S21 w rb k m ad len cap zs w' x E q' := by
  refine (edit_any wc rb q ad len cap zs h.rd (by omega) h.lt2).mono ?_
  rintro e w' ⟨s, t, g, q', rfl, hs, ht, hq', hR, hG⟩
  exact ⟨s, t, g, q', rfl, hs, ht, hq', h.call hG hR⟩
theorem ruleS (n : Int) (hn : 1 ≤ n) (hn2 : n ≤ 1000000) {w wc : World} {rb k m q : Nat} {ad : Option Addr} {len cap : Nat} {zs : Nat → Int} {x : RQ} {E : Value} (h : S21 w rb k m ad len cap zs wc x E q) (hq : q ≤ 800000) :
    Calls Try.prog 25 #[.pointer (some ⟨rb, 0, none⟩), .int .i64 n] wc fun e w' => ∃ (u : Int) (r t : ByteArray) (g : Bool) (q' : Nat), e = .returned (.agg #[.int .i64 u, .string r, .string t, .bool g]) ∧ (r.size ≤ 64 ∧ t.size ≤ 64) ∧ q' ≤ q + 30 ∧ S21 w rb k m ad len cap zs w' x E q' := by
  obtain ⟨n', rfl⟩ := Int.eq_ofNat_of_zero_le (show 0 ≤ n by omega)
  refine (rule_any wc rb n' q ad len cap zs h.rd (by omega) h.lt2 (by omega) (by omega)).mono ?_
  rintro e w' ⟨y, q', rfl, _, _, h1, h2, hq', hR, hG⟩
  exact ⟨y.user, y.ref, y.path, y.write, q', rfl, ⟨h1, h2⟩, hq', h.call hG hR⟩
/-- a row that is owned: its cells -/
theorem ownCells {w : World} {base n z c : Nat} {e : TypeId} {g : Nat} {xs : List Value} (h : w.ownsRow base e z (.slice (some ⟨g, 0, none⟩) n c) n xs) : ∀ j u, xs[j]? = some u → w.cell? ((⟨g, 0, none⟩ : Addr).add j) = some u := by
  intro j u hj
  have ea : (⟨g, 0, none⟩ : Addr).add j = ⟨g, j, none⟩ := by unfold Addr.add; split <;> simp_all
  rcases h.2 with ⟨h1, _⟩ | ⟨g', cap', cur', h1, h2, h3, h4, h5, h6, h7⟩
  · cases h1
  · cases h1
    rw [ea]
    have hl : j < n * z := by
      have := (List.getElem?_eq_some_iff.1 hj).1
      rw [h.1] at this
      exact this
    rw [← h7, List.getElem?_take, if_pos hl] at hj
    exact bkCell h3 (by simpa using hj)
/-- one edit in a row of its own -/
theorem S21.one {w wc : World} {rb k m q : Nat} {ad : Option Addr} {len cap : Nat} {zs : Nat → Int} {x : RQ} {E : Value} (h : S21 w rb k m ad len cap zs wc x E q) (s t : ByteArray) (g : Bool) (hs : s.size ≤ 64 ∧ t.size ≤ 64) (hm : 1 ≤ m) : S21 w rb k m ad len cap zs ((wc.setCell ⟨k, 8, none⟩ (.slice (some ⟨wc.heap.size, 0, none⟩) 1 1)).alloc (.cells #[.string s, .string t, .bool g] 41)) { x with edits := [⟨s, t, g⟩] } (.slice (some ⟨wc.heap.size, 0, none⟩) 1 1) q := by
  have h1 := h.g.size
  have h2 := h.lk
  have h3 := h.lk2
  rw [← World.setCell_alloc_past _ _ _ _ h3]
  exact (h.al _).put (L := [⟨s, t, g⟩]) (World.ownsRow_lit wc #[.string s, .string t, .bool g] 1 (by omega) (by unfold maxLen; omega) rfl) hm (fun x hx => by (obtain rfl : x = ⟨s, t, g⟩ := (by simpa using hx)); exact hs)

/-- the frame of l21Req behind its first region -/
def FrQ (w : World) (rb k : Nat) (a : Act) : Prop := a.tmps.size = 250 ∧ a.defers = [] ∧ a.tmps[0]? = some (.pointer (some ⟨rb, 0, none⟩)) ∧ a.tmps[3]? = some (.pointer (some ⟨w.heap.size, 0, none⟩)) ∧ a.tmps[4]? = some (.pointer (some ⟨w.heap.size + 1, 0, none⟩)) ∧ a.tmps[5]? = some (.pointer (some ⟨k, 0, none⟩))
set_option maxRecDepth 100000 in
theorem frQ_lit {w : World} {rb k : Nat} {a : Act} (h : FrQ w rb k a) : ∃ y : Nat → Value, (∀ i u, a.tmps[i]? = some u → y i = u) ∧ a = ⟨List.toArray (.pointer (some ⟨rb, 0, none⟩) :: y 1 :: y 2 :: .pointer (some ⟨w.heap.size, 0, none⟩) :: .pointer (some ⟨w.heap.size + 1, 0, none⟩) :: .pointer (some ⟨k, 0, none⟩) :: y 6 :: y 7 :: y 8 :: y 9 :: y 10 :: y 11 :: y 12 :: y 13 :: y 14 :: y 15 :: y 16 :: y 17 :: y 18 :: y 19 :: y 20 :: y 21 :: y 22 :: y 23 :: y 24 :: y 25 :: y 26 :: y 27 :: y 28 :: y 29 :: y 30 :: y 31 :: y 32 :: y 33 :: y 34 :: y 35 :: y 36 :: y 37 :: y 38 :: y 39 :: y 40 :: y 41 :: y 42 :: y 43 :: y 44 :: y 45 :: y 46 :: y 47 :: y 48 :: y 49 :: y 50 :: y 51 :: y 52 :: y 53 :: y 54 :: y 55 :: y 56 :: y 57 :: y 58 :: y 59 :: y 60 :: y 61 :: y 62 :: y 63 :: y 64 :: y 65 :: y 66 :: y 67 :: y 68 :: y 69 :: y 70 :: y 71 :: y 72 :: y 73 :: y 74 :: y 75 :: y 76 :: y 77 :: y 78 :: y 79 :: y 80 :: y 81 :: y 82 :: y 83 :: y 84 :: y 85 :: y 86 :: y 87 :: y 88 :: y 89 :: y 90 :: y 91 :: y 92 :: y 93 :: y 94 :: y 95 :: y 96 :: y 97 :: y 98 :: y 99 :: y 100 :: y 101 :: y 102 :: y 103 :: y 104 :: y 105 :: y 106 :: y 107 :: y 108 :: y 109 :: y 110 :: y 111 :: y 112 :: y 113 :: y 114 :: y 115 :: y 116 :: y 117 :: y 118 :: y 119 :: y 120 :: y 121 :: y 122 :: y 123 :: y 124 :: y 125 :: y 126 :: y 127 :: y 128 :: y 129 :: y 130 :: y 131 :: y 132 :: y 133 :: y 134 :: y 135 :: y 136 :: y 137 :: y 138 :: y 139 :: y 140 :: y 141 :: y 142 :: y 143 :: y 144 :: y 145 :: y 146 :: y 147 :: y 148 :: y 149 :: y 150 :: y 151 :: y 152 :: y 153 :: y 154 :: y 155 :: y 156 :: y 157 :: y 158 :: y 159 :: y 160 :: y 161 :: y 162 :: y 163 :: y 164 :: y 165 :: y 166 :: y 167 :: y 168 :: y 169 :: y 170 :: y 171 :: y 172 :: y 173 :: y 174 :: y 175 :: y 176 :: y 177 :: y 178 :: y 179 :: y 180 :: y 181 :: y 182 :: y 183 :: y 184 :: y 185 :: y 186 :: y 187 :: y 188 :: y 189 :: y 190 :: y 191 :: y 192 :: y 193 :: y 194 :: y 195 :: y 196 :: y 197 :: y 198 :: y 199 :: y 200 :: y 201 :: y 202 :: y 203 :: y 204 :: y 205 :: y 206 :: y 207 :: y 208 :: y 209 :: y 210 :: y 211 :: y 212 :: y 213 :: y 214 :: y 215 :: y 216 :: y 217 :: y 218 :: y 219 :: y 220 :: y 221 :: y 222 :: y 223 :: y 224 :: y 225 :: y 226 :: y 227 :: y 228 :: y 229 :: y 230 :: y 231 :: y 232 :: y 233 :: y 234 :: y 235 :: y 236 :: y 237 :: y 238 :: y 239 :: y 240 :: y 241 :: y 242 :: y 243 :: y 244 :: y 245 :: y 246 :: y 247 :: y 248 :: y 249 :: []), []⟩ := by
  obtain ⟨t, d⟩ := a
  obtain ⟨h1, rfl, h0, h3, h4, h5⟩ := h
  obtain ⟨y, hy⟩ : ∃ y : Nat → Value, y = fun i => t[i]?.getD undef := ⟨_, rfl⟩
  have e : t = ((List.range 250).map y).toArray := by
    apply Array.ext_getElem?
    intro i
    by_cases hi : i < 250
    · have : i < t.size := by rw [h1]; exact hi
      simp [hy, hi, Array.getElem?_eq_getElem this]
    · simp [hi, h1]
  have e0 : y 0 = .pointer (some ⟨rb, 0, none⟩) := by rw [hy]; simp only [h0, Option.getD_some]
  have e3 : y 3 = .pointer (some ⟨w.heap.size, 0, none⟩) := by rw [hy]; simp only [h3, Option.getD_some]
  have e4 : y 4 = .pointer (some ⟨w.heap.size + 1, 0, none⟩) := by rw [hy]; simp only [h4, Option.getD_some]
  have e5 : y 5 = .pointer (some ⟨k, 0, none⟩) := by rw [hy]; simp only [h5, Option.getD_some]
  refine ⟨y, fun i u hu => by rw [hy]; simp only [hu, Option.getD_some], ?_⟩
  rw [e, show ((List.range 250).map y).toArray = List.toArray (y 0 :: y 1 :: y 2 :: y 3 :: y 4 :: y 5 :: y 6 :: y 7 :: y 8 :: y 9 :: y 10 :: y 11 :: y 12 :: y 13 :: y 14 :: y 15 :: y 16 :: y 17 :: y 18 :: y 19 :: y 20 :: y 21 :: y 22 :: y 23 :: y 24 :: y 25 :: y 26 :: y 27 :: y 28 :: y 29 :: y 30 :: y 31 :: y 32 :: y 33 :: y 34 :: y 35 :: y 36 :: y 37 :: y 38 :: y 39 :: y 40 :: y 41 :: y 42 :: y 43 :: y 44 :: y 45 :: y 46 :: y 47 :: y 48 :: y 49 :: y 50 :: y 51 :: y 52 :: y 53 :: y 54 :: y 55 :: y 56 :: y 57 :: y 58 :: y 59 :: y 60 :: y 61 :: y 62 :: y 63 :: y 64 :: y 65 :: y 66 :: y 67 :: y 68 :: y 69 :: y 70 :: y 71 :: y 72 :: y 73 :: y 74 :: y 75 :: y 76 :: y 77 :: y 78 :: y 79 :: y 80 :: y 81 :: y 82 :: y 83 :: y 84 :: y 85 :: y 86 :: y 87 :: y 88 :: y 89 :: y 90 :: y 91 :: y 92 :: y 93 :: y 94 :: y 95 :: y 96 :: y 97 :: y 98 :: y 99 :: y 100 :: y 101 :: y 102 :: y 103 :: y 104 :: y 105 :: y 106 :: y 107 :: y 108 :: y 109 :: y 110 :: y 111 :: y 112 :: y 113 :: y 114 :: y 115 :: y 116 :: y 117 :: y 118 :: y 119 :: y 120 :: y 121 :: y 122 :: y 123 :: y 124 :: y 125 :: y 126 :: y 127 :: y 128 :: y 129 :: y 130 :: y 131 :: y 132 :: y 133 :: y 134 :: y 135 :: y 136 :: y 137 :: y 138 :: y 139 :: y 140 :: y 141 :: y 142 :: y 143 :: y 144 :: y 145 :: y 146 :: y 147 :: y 148 :: y 149 :: y 150 :: y 151 :: y 152 :: y 153 :: y 154 :: y 155 :: y 156 :: y 157 :: y 158 :: y 159 :: y 160 :: y 161 :: y 162 :: y 163 :: y 164 :: y 165 :: y 166 :: y 167 :: y 168 :: y 169 :: y 170 :: y 171 :: y 172 :: y 173 :: y 174 :: y 175 :: y 176 :: y 177 :: y 178 :: y 179 :: y 180 :: y 181 :: y 182 :: y 183 :: y 184 :: y 185 :: y 186 :: y 187 :: y 188 :: y 189 :: y 190 :: y 191 :: y 192 :: y 193 :: y 194 :: y 195 :: y 196 :: y 197 :: y 198 :: y 199 :: y 200 :: y 201 :: y 202 :: y 203 :: y 204 :: y 205 :: y 206 :: y 207 :: y 208 :: y 209 :: y 210 :: y 211 :: y 212 :: y 213 :: y 214 :: y 215 :: y 216 :: y 217 :: y 218 :: y 219 :: y 220 :: y 221 :: y 222 :: y 223 :: y 224 :: y 225 :: y 226 :: y 227 :: y 228 :: y 229 :: y 230 :: y 231 :: y 232 :: y 233 :: y 234 :: y 235 :: y 236 :: y 237 :: y 238 :: y 239 :: y 240 :: y 241 :: y 242 :: y 243 :: y 244 :: y 245 :: y 246 :: y 247 :: y 248 :: y 249 :: []) from rfl, e0, e3, e4, e5]
/-- a piece of a function's code: to the left (false: also what a test leads to, a block's inside), to the right -/
def codeAt : List Bool → Code → Option Code
  | [], c => some c
  | false :: p, .seq a _ => codeAt p a
  | true :: p, .seq _ b => codeAt p b
  | false :: p, .cond _ a _ => codeAt p a
  | true :: p, .cond _ _ b => codeAt p b
  | false :: p, .block _ a => codeAt p a
  | _, _ => none
theorem oneE : ∀ L : List TE, ∀ u ∈ cellsE L, u.oneCell' = true
  | [], u, hu => by simp [cellsE] at hu
  | x :: L, u, hu => by
    have e : cellsE (x :: L) = [.string x.pa, .string x.by_, .bool x.gone] ++ cellsE L := rfl
    rw [e] at hu
    rcases List.mem_append.1 hu with hu | hu
    · simp at hu; rcases hu with rfl | rfl | rfl <;> rfl
    · exact oneE L u hu
end Go.Proofs.Ytcdkjlbpcihcjaa.W
