/-
  Small facts that all walks of this seat use: endings that answer equal values are equal. No condition.
  errors.As at the program's own error 'notObject' and a target of that type: false of a nil error, true of a notObject; of what lay nothing but the target turns. Go's own text of errors.As and errors.as is walked; the entries of internal/reflectlite are the model's.
  Texts that rise, each once: what the library's sorting and compacting makes of a list is what putting each in its place makes of it. No condition.
-/
import Derived.Test.YthfffpdkmoclbaaGreatDoorRows
import Derived.WalkKit
import Derived.WalkLawsBesides
import Derived.Outline
import Derived.LaidEql
import Derived.Stop.Asserts
import Derived.RowKitTokens
import Derived.Below
import Derived.Lib.SlicesCompact
import Derived.Sort.Walk0
import Derived.Lib.RowBridge
namespace Go.Proofs.YthfffpdkmoclbaaGreatDoor.W
open Go.RowKit
theorem ret_int {k : IntKind} {a b : Int} (h : a = b) : Ending.returned (.int k a) = .returned (.int k b) := by rw [h]
theorem ret_bool {a b : Bool} (h : a = b) : Ending.returned (.bool a) = .returned (.bool b) := by rw [h]
theorem ret_str {a b : ByteArray} (h : a = b) : Ending.returned (.string a) = .returned (.string b) := by rw [h]
theorem ret_ssb {a b c d : ByteArray} {x y : Bool} (h1 : a = b) (h2 : c = d) (h3 : x = y) : Ending.returned (.tuple #[.string a, .string c, .bool x]) = .returned (.tuple #[.string b, .string d, .bool y]) := by rw [h1, h2, h3]
end Go.Proofs.YthfffpdkmoclbaaGreatDoor.W
namespace Go.Proofs.YthfffpdkmoclbaaGreatDoor.W
open Go.RowKit Go.Extern.Stop Go.Stop Go.Extern

theorem as_nil (t : Value) (w : World) :
    Calls Tryz.prog 118 #[.nilIface, t] w fun e w' => e = .returned (.bool false) ∧ w = w' := by
  go_enter Tryz.func118, Tryz.ntmps118
  go_wp2
  go_ret
  exact ⟨rfl, rfl⟩

theorem rValueP (t : Addr) (w : World) : (ReflectliteValue.unpack (.iface 161 (.pointer (some t)))).run Tryz.prog w
    = .ok (.agg #[.pointer (some ⟨2, 161, none⟩), .pointer (some ⟨w.heap.size, 0, none⟩), .int .u64 150]) (w.alloc (.cells #[.pointer (some t)] 161)) := by kernel_rfl
theorem rTypeP (a : Addr) (w : World) : (ReflectliteValue.methodAny (ReflectliteValue.valueError "reflectlite.Value.Type" 0) (fun t _ _ _ => ReflectliteType.toType t) #[.agg #[.pointer (some ⟨2, 161, none⟩), .pointer (some a), .int .u64 150]]).run Tryz.prog w
    = .ok (.iface 206 (.agg #[.pointer (some ⟨2, 161, none⟩)])) w := by kernel_rfl
theorem rMethodKind (h : Value) (w : World) : (Go.method 382 206 (.agg #[h]) "Kind").run Tryz.prog w = .ok (213, h) w := by kernel_rfl
theorem rKindP (w : World) : ((ReflectliteType.abiMethod fun t => (fun a : Nat => Value.int IntKind.u8 (a : Int)) <$> Rtype.kind t) #[.pointer (some ⟨2, 161, none⟩)]).run Tryz.prog w = .ok (.int .u8 22) w := by kernel_rfl
theorem rKindE (w : World) : ((ReflectliteType.abiMethod fun t => (fun a : Nat => Value.int IntKind.u8 (a : Int)) <$> Rtype.kind t) #[.pointer (some ⟨2, 159, none⟩)]).run Tryz.prog w = .ok (.int .u8 25) w := by kernel_rfl
theorem rlm (z : Sem Value) (f : TypeId → Addr → Nat → Nat → Sem Value) (v : Value) :
    ReflectliteValue.method z f #[v] = (do match ← ReflectliteValue.parts v with | none => z | some (t, a, fl) => f t a fl (fl % 32)) := rfl
theorem rPartsP (a : Addr) (w : World) : (ReflectliteValue.parts (.agg #[.pointer (some ⟨2, 161, none⟩), .pointer (some a), .int .u64 150])).run Tryz.prog w = .ok (some (161, a, 150)) w := by kernel_rfl
theorem rIsNilP (a p : Addr) (W : World) (ha : W.cell? a = some (.pointer (some p))) :
    (ReflectliteValue.method (ReflectliteValue.valueError "reflectlite.Value.IsNil" 0) ReflectliteValue.isNil #[.agg #[.pointer (some ⟨2, 161, none⟩), .pointer (some a), .int .u64 150]]).run Tryz.prog W = .ok (.bool false) W := by
  rw [rlm]
  simp only [Sem.run_bind, rPartsP, Result.andThen]
  simp [ReflectliteValue.isNil, loadVar, isAgg, underlying, Tryz.underlying161, ha, Result.andThen]
theorem rMethodElem (h : Value) (w : World) : (Go.method 382 206 (.agg #[h]) "Elem").run Tryz.prog w = .ok (231, .agg #[h]) w := by kernel_rfl
theorem rMethodImplements (h : Value) (w : World) : (Go.method 382 206 (.agg #[h]) "Implements").run Tryz.prog w = .ok (232, .agg #[h]) w := by kernel_rfl
theorem rMethodAssignableTo (h : Value) (w : World) : (Go.method 382 206 (.agg #[h]) "AssignableTo").run Tryz.prog w = .ok (229, .agg #[h]) w := by kernel_rfl
theorem rElemP (w : World) : (ReflectliteType.method ReflectliteType.elem #[.agg #[.pointer (some ⟨2, 161, none⟩)]]).run Tryz.prog w = .ok (.iface 206 (.agg #[.pointer (some ⟨2, 159, none⟩)])) w := by kernel_rfl
theorem rImplements (w : World) : (ReflectliteType.relation "Implements" ReflectliteType.implements_ #[.agg #[.pointer (some ⟨2, 159, none⟩)], .iface 206 (.agg #[.pointer (some ⟨2, 155, none⟩)])]).run Tryz.prog w = .ok (.bool true) w := by kernel_rfl
theorem rTypeOf (v : Value) (w : World) : (ReflectliteType.typeOf #[.iface 159 v]).run Tryz.prog w = .ok (.iface 206 (.agg #[.pointer (some ⟨2, 159, none⟩)])) w := by kernel_rfl
theorem rAssignable (w : World) : (ReflectliteType.relation "AssignableTo" ReflectliteType.assignableTo #[.agg #[.pointer (some ⟨2, 159, none⟩)], .iface 206 (.agg #[.pointer (some ⟨2, 159, none⟩)])]).run Tryz.prog w = .ok (.bool true) w := by kernel_rfl
theorem rValueE (x : Value) (w : World) : (ReflectliteValue.unpack (.iface 159 (.agg #[x]))).run Tryz.prog w
    = .ok (.agg #[.pointer (some ⟨2, 159, none⟩), .pointer (some ⟨w.heap.size, 0, none⟩), .int .u64 153]) (w.alloc (.cells #[x] 159)) := by kernel_rfl
theorem rElemOf (w : World) : (Rtype.elem? 161).run Tryz.prog w = .ok (some 159) w := by kernel_rfl
theorem rMkE (p : Addr) (w : World) : (ReflectliteValue.mk 159 p ReflectliteValue.flagAddr).run Tryz.prog w = .ok (.agg #[.pointer (some ⟨2, 159, none⟩), .pointer (some p), .int .u64 409]) w := by kernel_rfl
theorem rElemV (a p : Addr) (W : World) (ha : W.cell? a = some (.pointer (some p))) :
    (ReflectliteValue.method (ReflectliteValue.valueError "reflectlite.Value.Elem" 0) ReflectliteValue.elem #[.agg #[.pointer (some ⟨2, 161, none⟩), .pointer (some a), .int .u64 150]]).run Tryz.prog W
      = .ok (.agg #[.pointer (some ⟨2, 159, none⟩), .pointer (some p), .int .u64 409]) W := by
  rw [rlm]
  simp only [Sem.run_bind, rPartsP, Result.andThen]
  simp [ReflectliteValue.elem, loadVar, isAgg, underlying, Tryz.underlying161, ha, Result.andThen, rElemOf, rMkE]
theorem rls (v x : Value) : ReflectliteValue.set #[v, x] = (do
    let (some (dst, a, fl), some (src, b, _)) := (← ReflectliteValue.parts v, ← ReflectliteValue.parts x)
      | unsupported (.noEntry "extern/(internal/reflectlite.Value).Set.zeroValue")
    if fl / ReflectliteValue.flagAddr % 2 == 0 then unsupported (.noEntry "extern/(internal/reflectlite.Value).Set.unaddressable")
    let val ← loadVar src b
    if ← Rtype.directlyAssignable dst src then storeVar dst a val
    else if ← Rtype.implements dst src then
      if (← Rtype.kind src) == 20 then
        match val with
        | .nilIface => unsupported (.noEntry "extern/reflectlite: a nil value of one interface type handed on as a value of another")
        | _ => storeVar dst a val
      else storeVar dst a (.iface src val)
    else panicString ("reflectlite.Set: value of type " ++ (← Rtype.spelt src) ++ " is not assignable to type " ++ (← Rtype.spelt dst))
    pure (.tuple #[])) := rfl
theorem rPartsEa (a : Addr) (w : World) : (ReflectliteValue.parts (.agg #[.pointer (some ⟨2, 159, none⟩), .pointer (some a), .int .u64 409])).run Tryz.prog w = .ok (some (159, a, 409)) w := by kernel_rfl
theorem rPartsE (a : Addr) (w : World) : (ReflectliteValue.parts (.agg #[.pointer (some ⟨2, 159, none⟩), .pointer (some a), .int .u64 153])).run Tryz.prog w = .ok (some (159, a, 153)) w := by kernel_rfl
theorem rDirect (w : World) : (Rtype.directlyAssignable 159 159).run Tryz.prog w = .ok true w := by kernel_rfl
theorem rSizeE (w : World) : (Go.sizeOf 159).run Tryz.prog w = .ok 1 w := by kernel_rfl
theorem rAggE (w : World) : (isAgg 159).run Tryz.prog w = .ok true w := by kernel_rfl
theorem rLoadE (b : Addr) (why : ByteArray) (W : World) (hb : W.cell? b = some (.string why)) : (loadVar 159 b).run Tryz.prog W = .ok (.agg #[.string why]) W := by
  have hl := run_loadCells_list (P := Tryz.prog) W b [.string why] (fun j v hj => by
    cases j with
    | zero => simp at hj; subst hj; simpa [Addr.add] using hb
    | succ j => simp at hj)
  have hl' : (loadCells b 1).run Tryz.prog W = .ok #[.string why] W := hl
  unfold loadVar
  simp only [Sem.run_bind, rAggE, Result.andThen, if_true, rSizeE, hl', Sem.run_pure]
theorem rStoreE (ta : Addr) (why : ByteArray) (old : Value) (W : World) (ht : W.cell? ta = some old) (hf : W.frozen? ta = false) : (storeVar 159 ta (.agg #[.string why])).run Tryz.prog W = .ok () (W.setCell ta (.string why)) := by
  unfold storeVar
  simp only [Sem.run_bind, rSizeE, Result.andThen]
  simp [Value.cells, storeCells, Addr.add]
  rw [run_store Tryz.prog W ta _ _ (by rfl)]
  simp [ht, hf]
theorem rSet (ta b : Addr) (why : ByteArray) (old : Value) (W : World) (hb : W.cell? b = some (.string why)) (ht : W.cell? ta = some old) (hf : W.frozen? ta = false) :
    (ReflectliteValue.set #[.agg #[.pointer (some ⟨2, 159, none⟩), .pointer (some ta), .int .u64 409], .agg #[.pointer (some ⟨2, 159, none⟩), .pointer (some b), .int .u64 153]]).run Tryz.prog W
      = .ok (.tuple #[]) (W.setCell ta (.string why)) := by
  have h1 := rLoadE b why W hb
  have h2 := rStoreE ta why old W ht hf
  rw [rls]
  simp only [Sem.run_bind, rPartsEa, rPartsE, Result.andThen]
  simp [ReflectliteValue.flagAddr, h1, h2, Result.andThen, rDirect]

/-- the cell of errors' own variable -/
def TypeCell (w : World) : Prop := w.cell? ⟨0, 0, none⟩ = some (.iface 206 (.agg #[.pointer (some ⟨2, 155, none⟩)]))
theorem TypeCell.below {w w' : World} {B : Nat} (h : TypeCell w) (hb : Below B w w') (hB : 0 < B) : TypeCell w' := (hb.cell (p := ⟨0, 0, none⟩) hB).trans h
theorem TypeCell.lt {w : World} (h : TypeCell w) : 0 < w.heap.size := World.block_lt_of_cell? _ _ h

set_option maxHeartbeats 4000000 in
theorem as_hit (why : ByteArray) (t : Addr) (old : Value) (w : World) (hg : TypeCell w) (ht0 : w.cell? t = some old) (hf0 : w.frozen? t = false) :
    Calls Tryz.prog 118 #[.iface 159 (.agg #[.string why]), .iface 161 (.pointer (some t))] w fun ev w' => ev = .returned (.bool true) ∧ Below t.block w w' := by
  have x1 := @run_callFunc_extern Tryz.prog 143 _ (fun args => ReflectliteValue.unpack (args.getD 0 (.tuple #[]))) Tryz.func143 (by kernel_rfl) (by kernel_rfl) (by kernel_rfl) (by kernel_rfl)
  have x2 := @run_callFunc_extern Tryz.prog 144 _ (ReflectliteValue.methodAny (ReflectliteValue.valueError "reflectlite.Value.Type" 0) (fun t _ _ _ => ReflectliteType.toType t)) Tryz.func144 (by kernel_rfl) (by kernel_rfl) (by kernel_rfl) (by kernel_rfl)
  have x3 := @run_callFunc_extern Tryz.prog 145 _ (ReflectliteValue.method (ReflectliteValue.valueError "reflectlite.Value.IsNil" 0) ReflectliteValue.isNil) Tryz.func145 (by kernel_rfl) (by kernel_rfl) (by kernel_rfl) (by kernel_rfl)
  have x4 := @run_callFunc_extern Tryz.prog 213 _ (ReflectliteType.abiMethod fun t => do pure (.int .u8 (← Rtype.kind t))) Tryz.func213 (by kernel_rfl) (by kernel_rfl) (by kernel_rfl) (by kernel_rfl)
  have x5 := @run_callFunc_extern Tryz.prog 231 _ (ReflectliteType.method ReflectliteType.elem) Tryz.func231 (by kernel_rfl) (by kernel_rfl) (by kernel_rfl) (by kernel_rfl)
  have x6 := @run_callFunc_extern Tryz.prog 232 _ (ReflectliteType.relation "Implements" ReflectliteType.implements_) Tryz.func232 (by kernel_rfl) (by kernel_rfl) (by kernel_rfl) (by kernel_rfl)
  have x7 := @run_callFunc_extern Tryz.prog 161 _ (ReflectliteType.typeOf) Tryz.func161 (by kernel_rfl) (by kernel_rfl) (by kernel_rfl) (by kernel_rfl)
  have x8 := @run_callFunc_extern Tryz.prog 229 _ (ReflectliteType.relation "AssignableTo" ReflectliteType.assignableTo) Tryz.func229 (by kernel_rfl) (by kernel_rfl) (by kernel_rfl) (by kernel_rfl)
  have x9 := @run_callFunc_extern Tryz.prog 162 _ (ReflectliteValue.method (ReflectliteValue.valueError "reflectlite.Value.Elem" 0) ReflectliteValue.elem) Tryz.func162 (by kernel_rfl) (by kernel_rfl) (by kernel_rfl) (by kernel_rfl)
  have x10 := @run_callFunc_extern Tryz.prog 163 _ (ReflectliteValue.set) Tryz.func163 (by kernel_rfl) (by kernel_rfl) (by kernel_rfl) (by kernel_rfl)
  have y1 := rTypeOf
  have y2 := rMethodAssignableTo
  have y3 := rAssignable
  have y4 := rValueE
  have y5 := rValueP
  have y6 := rTypeP
  have y7 := rMethodKind
  have y8 := rMethodElem
  have y9 := rMethodImplements
  have y10 := rKindP
  have y11 := rKindE
  have y12 := rElemP
  have y13 := rImplements
  have hlt := hg.lt
  have htl : t.block < w.heap.size := World.block_lt_of_cell? _ _ ht0
  have n8 := rIsNilP ⟨w.heap.size, 0, none⟩ t ((w.alloc (.cells #[.pointer (some t)] 161)).alloc (.cells #[.pointer (some ⟨2, 161, none⟩), .pointer (some ⟨w.heap.size, 0, none⟩), .int .u64 150] 181)) (by simp)
  have hg2 : ((w.alloc (.cells #[.pointer (some t)] 161)).alloc (.cells #[.pointer (some ⟨2, 161, none⟩), .pointer (some ⟨w.heap.size, 0, none⟩), .int .u64 150] 181)).cell? ⟨0, 0, none⟩ = some (.iface 206 (.agg #[.pointer (some ⟨2, 155, none⟩)])) := by
    rw [World.cell?_alloc_lt _ _ ⟨0, 0, none⟩ (by simp), World.cell?_alloc_lt _ _ ⟨0, 0, none⟩ hlt]; exact hg
  have el := rElemV ⟨w.heap.size, 0, none⟩ t (((w.alloc (.cells #[.pointer (some t)] 161)).alloc (.cells #[.pointer (some ⟨2, 161, none⟩), .pointer (some ⟨w.heap.size, 0, none⟩), .int .u64 150] 181)).alloc (.cells #[.pointer (some ⟨2, 161, none⟩), .pointer (some ⟨w.heap.size, 0, none⟩), .int .u64 150] 181)) (by rw [World.cell?_alloc_lt _ _ ⟨w.heap.size, 0, none⟩ (by simp; omega)]; simp)
  have st := rSet t ⟨w.heap.size + 1 + 1 + 1, 0, none⟩ why old ((((w.alloc (.cells #[.pointer (some t)] 161)).alloc (.cells #[.pointer (some ⟨2, 161, none⟩), .pointer (some ⟨w.heap.size, 0, none⟩), .int .u64 150] 181)).alloc (.cells #[.pointer (some ⟨2, 161, none⟩), .pointer (some ⟨w.heap.size, 0, none⟩), .int .u64 150] 181)).alloc (.cells #[.string why] 159))
    (by rw [World.cell?_alloc_at _ _ _ _ (by simp)]; rfl)
    (by rw [World.cell?_alloc_lt _ _ t (by simp; omega), World.cell?_alloc_lt _ _ t (by simp; omega), World.cell?_alloc_lt _ _ t (by simp; omega), World.cell?_alloc_lt _ _ t htl]; exact ht0)
    (by rw [World.frozen?_alloc_old _ _ t (by simp; omega), World.frozen?_alloc_old _ _ t (by simp; omega), World.frozen?_alloc_old _ _ t (by simp; omega), World.frozen?_alloc_old _ _ t (Nat.ne_of_lt htl)]; exact hf0)
  clear hg
  go_enter Tryz.func118, Tryz.ntmps118
  go_wp2
  refine wp_loop_rounds 1 ?_
  rw [rounds_succ]
  go_wp2
  go_ret
  refine ⟨rfl, ?_⟩
  exact (((((Below.refl _ w).alloc (by omega) _).alloc (by simp; omega) _).alloc (by simp; omega) _).alloc (by simp; omega) _).setCell (Nat.le_refl _) _
end Go.Proofs.YthfffpdkmoclbaaGreatDoor.W
namespace Go.Proofs.YthfffpdkmoclbaaGreatDoor.M

/-- they rise -/
def Rises (L : List (List UInt8)) : Prop := L.Pairwise (· < ·)
/-- a text is put ahead of the first one that is greater -/
def before : List (List UInt8) → List UInt8 → List (List UInt8)
  | [], s => [s]
  | x :: l, s => if s < x then s :: x :: l else x :: before l s
/-- a text is put among others, if it is not there -/
def nameB (L : List (List UInt8)) (s : List UInt8) : List (List UInt8) := if s ∈ L then L else before L s
def namesB (l : List (List UInt8)) : List (List UInt8) := l.foldl nameB []

theorem mem_before (L : List (List UInt8)) (s y : List UInt8) : y ∈ before L s ↔ y ∈ L ∨ y = s := by
  induction L with
  | nil => simp [before]
  | cons x l ih =>
    unfold before
    split
    · simp only [List.mem_cons]
      constructor
      · rintro (h | h | h)
        · exact .inr h
        · exact .inl (.inl h)
        · exact .inl (.inr h)
      · rintro ((h | h) | h)
        · exact .inr (.inl h)
        · exact .inr (.inr h)
        · exact .inl h
    · simp only [List.mem_cons, ih]
      constructor
      · rintro (h | h | h)
        · exact .inl (.inl h)
        · exact .inl (.inr h)
        · exact .inr h
      · rintro ((h | h) | h)
        · exact .inl h
        · exact .inr (.inl h)
        · exact .inr (.inr h)
theorem tri (a b : List UInt8) : a < b ∨ a = b ∨ b < a := by
  by_cases h : a < b
  · exact .inl h
  by_cases h' : b < a
  · exact .inr (.inr h')
  · exact .inr (.inl (List.le_antisymm (List.not_lt.1 h') (List.not_lt.1 h)))
theorem rises_before (L : List (List UInt8)) (s : List UInt8) (h : Rises L) (hs : s ∉ L) : Rises (before L s) := by
  induction L with
  | nil => simp [before, Rises]
  | cons x l ih =>
    obtain ⟨h1, h2⟩ := List.pairwise_cons.1 h
    unfold before
    split
    · rename_i hlt
      refine List.pairwise_cons.2 ⟨fun y hy => ?_, h⟩
      rcases List.mem_cons.1 hy with rfl | hy
      · exact hlt
      · exact List.lt_trans hlt (h1 y hy)
    · rename_i hlt
      refine List.pairwise_cons.2 ⟨fun y hy => ?_, ih h2 (fun hm => hs (List.mem_cons_of_mem _ hm))⟩
      rcases (mem_before l s y).1 hy with hy | rfl
      · exact h1 y hy
      · rcases tri x y with h3 | rfl | h3
        · exact h3
        · exact absurd (List.mem_cons_self ..) hs
        · exact absurd h3 hlt
theorem mem_nameB (L : List (List UInt8)) (s y : List UInt8) : y ∈ nameB L s ↔ y ∈ L ∨ y = s := by
  unfold nameB
  split
  · rename_i h
    constructor
    · exact .inl
    · rintro (h' | rfl)
      · exact h'
      · exact h
  · exact mem_before L s y
theorem rises_nameB (L : List (List UInt8)) (s : List UInt8) (h : Rises L) : Rises (nameB L s) := by
  unfold nameB
  split
  · exact h
  · exact rises_before L s h (by assumption)
theorem foldl_nameB (l : List (List UInt8)) : ∀ L, Rises L → Rises (l.foldl nameB L) ∧ ∀ y, y ∈ l.foldl nameB L ↔ y ∈ L ∨ y ∈ l := by
  induction l with
  | nil => intro L h; exact ⟨h, fun y => by simp⟩
  | cons s l ih =>
    intro L h
    obtain ⟨h1, h2⟩ := ih (nameB L s) (rises_nameB L s h)
    refine ⟨h1, fun y => ?_⟩
    rw [List.foldl_cons, h2, mem_nameB, List.mem_cons]
    constructor
    · rintro ((h | h) | h)
      · exact .inl h
      · exact .inr (.inl h)
      · exact .inr (.inr h)
    · rintro (h | h | h)
      · exact .inl (.inl h)
      · exact .inl (.inr h)
      · exact .inr h
theorem rises_namesB (l : List (List UInt8)) : Rises (namesB l) := (foldl_nameB l [] List.Pairwise.nil).1
theorem mem_namesB (l : List (List UInt8)) (y : List UInt8) : y ∈ namesB l ↔ y ∈ l := by
  have := (foldl_nameB l [] List.Pairwise.nil).2 y
  simpa [namesB] using this
theorem namesB_snoc (l : List (List UInt8)) (s : List UInt8) : namesB (l ++ [s]) = nameB (namesB l) s := by simp [namesB]

/-- lists that rise and have the same are one -/
theorem rises_uniq : ∀ a b : List (List UInt8), Rises a → Rises b → (∀ x, x ∈ a ↔ x ∈ b) → a = b := by
  intro a
  induction a with
  | nil =>
    intro b _ _ h
    cases b with
    | nil => rfl
    | cons y b => exact absurd ((h y).2 (List.mem_cons_self ..)) (by simp)
  | cons x a ih =>
    intro b ha hb h
    cases b with
    | nil => exact absurd ((h x).1 (List.mem_cons_self ..)) (by simp)
    | cons y b =>
      obtain ⟨a1, a2⟩ := List.pairwise_cons.1 ha
      obtain ⟨b1, b2⟩ := List.pairwise_cons.1 hb
      have e : x = y := by
        rcases List.mem_cons.1 ((h x).1 (List.mem_cons_self ..)) with e | hx
        · exact e
        · rcases List.mem_cons.1 ((h y).2 (List.mem_cons_self ..)) with e | hy
          · exact e.symm
          · exact absurd (List.lt_trans (a1 y hy) (b1 x hx)) (List.lt_irrefl x)
      subst e
      congr 1
      refine ih b a2 b2 (fun z => ?_)
      constructor
      · intro hz
        rcases List.mem_cons.1 ((h z).1 (List.mem_cons_of_mem _ hz)) with rfl | h'
        · exact absurd (a1 z hz) (List.lt_irrefl z)
        · exact h'
      · intro hz
        rcases List.mem_cons.1 ((h z).2 (List.mem_cons_of_mem _ hz)) with rfl | h'
        · exact absurd (b1 z hz) (List.lt_irrefl z)
        · exact h'

/-- what compacting leaves of a list that does not fall -/
theorem compact_rises (zs : List (List UInt8)) (h : zs.Pairwise (· ≤ ·)) : Rises (Lib.compact zs) ∧ ∀ x, x ∈ Lib.compact zs ↔ x ∈ zs := by
  have key : ∀ m, m ≤ zs.length → Rises (Lib.compactUpTo zs.toArray m) ∧ (∀ x, x ∈ Lib.compactUpTo zs.toArray m ↔ ∃ j, j < m ∧ zs[j]? = some x) := by
    intro m
    induction m with
    | zero => intro _; exact ⟨by simp [Lib.compactUpTo, Rises], fun x => by simp [Lib.compactUpTo]⟩
    | succ m ih =>
      intro hm
      obtain ⟨h1, h2⟩ := ih (by omega)
      have hml : m < zs.length := by omega
      have em : (zs.toArray)[m]! = zs[m] := by simp [getElem!_pos, hml]
      have hmem : ∀ x, (∃ j, j < m + 1 ∧ zs[j]? = some x) ↔ (∃ j, j < m ∧ zs[j]? = some x) ∨ x = zs[m] := by
        intro x
        constructor
        · rintro ⟨j, hj, e⟩
          by_cases hjm : j < m
          · exact .inl ⟨j, hjm, e⟩
          · obtain rfl : j = m := by omega
            rw [List.getElem?_eq_getElem hml] at e
            exact .inr (Option.some.inj e).symm
        · rintro (⟨j, hj, e⟩ | rfl)
          · exact ⟨j, by omega, e⟩
          · exact ⟨m, by omega, List.getElem?_eq_getElem hml⟩
      rw [Lib.compactUpTo_succ]
      by_cases hm0 : m = 0
      · subst hm0
        have hk : Lib.keeps zs.toArray 0 = true := by simp [Lib.keeps]
        rw [if_pos hk, em]
        have e0 : Lib.compactUpTo zs.toArray 0 = [] := by simp [Lib.compactUpTo]
        rw [e0]
        refine ⟨by simp [Rises], fun x => ?_⟩
        rw [hmem]
        simp
      · have hpl : m - 1 < zs.length := by omega
        have ep : (zs.toArray)[m - 1]! = zs[m - 1] := by simp [getElem!_pos, hpl]
        have hle : zs[m - 1] ≤ zs[m] := List.pairwise_iff_getElem.1 h (m - 1) m hpl hml (by omega)
        have hall : ∀ x, x ∈ Lib.compactUpTo zs.toArray m → x ≤ zs[m - 1] := by
          intro x hx
          obtain ⟨j, hj, e⟩ := (h2 x).1 hx
          have hjl : j < zs.length := by omega
          rw [List.getElem?_eq_getElem hjl] at e
          obtain rfl := Option.some.inj e
          by_cases hj1 : j = m - 1
          · subst hj1; exact List.le_refl _
          · exact List.pairwise_iff_getElem.1 h j (m - 1) hjl hpl (by omega)
        by_cases he : zs[m] = zs[m - 1]
        · have hk : Lib.keeps zs.toArray m = false := Lib.keeps_neg (by omega) (by rw [em, ep, he])
          rw [hk]
          simp only [Bool.false_eq_true, if_false, List.append_nil]
          refine ⟨h1, fun x => ?_⟩
          rw [hmem, h2]
          constructor
          · exact .inl
          · rintro (h' | rfl)
            · exact h'
            · exact ⟨m - 1, by omega, by rw [he]; exact List.getElem?_eq_getElem hpl⟩
        · have hk : Lib.keeps zs.toArray m = true := Lib.keeps_pos (by rw [em, ep]; exact he)
          rw [if_pos hk, em]
          have hlt : zs[m - 1] < zs[m] := by
            rcases tri zs[m - 1] zs[m] with h' | h' | h'
            · exact h'
            · exact absurd h'.symm he
            · exact absurd h' (List.not_lt.2 hle)
          refine ⟨List.pairwise_append.2 ⟨h1, by simp, fun x hx y hy => ?_⟩, fun x => ?_⟩
          · obtain rfl : y = zs[m] := by simpa using hy
            rcases tri x zs[m - 1] with h' | rfl | h'
            · exact List.lt_trans h' hlt
            · exact hlt
            · exact absurd h' (List.not_lt.2 (hall x hx))
          · rw [hmem, List.mem_append, h2]
            simp
  obtain ⟨k1, k2⟩ := key zs.length (Nat.le_refl _)
  refine ⟨k1, fun x => ?_⟩
  rw [show Lib.compact zs = Lib.compactUpTo zs.toArray zs.length from rfl, k2]
  constructor
  · rintro ⟨j, _, e⟩; exact List.mem_of_getElem? e
  · intro hx
    obtain ⟨j, hj, e⟩ := List.getElem_of_mem hx
    exact ⟨j, hj, by rw [← e]; exact List.getElem?_eq_getElem hj⟩
/-- sorted and compacted, a list is what putting each text in its place makes of it -/
theorem sortCompact (l : List (List UInt8)) : Lib.compact (l.mergeSort fun x y => decide (x ≤ y)) = namesB l := by
  have hs : (l.mergeSort fun x y => decide (x ≤ y)).Pairwise (· ≤ ·) := by
    have := List.pairwise_mergeSort (le := fun x y : List UInt8 => decide (x ≤ y)) (fun a b c h1 h2 => by simp only [decide_eq_true_eq] at *; exact List.le_trans h1 h2) (fun a b => by simp only [Bool.or_eq_true, decide_eq_true_eq]; exact List.le_total a b) l
    exact this.imp (fun h => by simpa using h)
  obtain ⟨h1, h2⟩ := compact_rises _ hs
  refine rises_uniq _ _ h1 (rises_namesB l) (fun x => ?_)
  rw [h2, mem_namesB]
  exact (List.mergeSort_perm l _).mem_iff
theorem bl_lt (x y : List UInt8) : Op.bytesLess x y = decide (x < y) := Go.Proofs.bytesLess_eq x y
end Go.Proofs.YthfffpdkmoclbaaGreatDoor.M
