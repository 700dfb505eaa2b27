/- errors.As: of nil, and of a fault. -/
import Derived.Test.YtkjjjbipmobdaaaGreatDoorBR11
import Derived.Test.YtkjjjbipmobdaaaGreatDoorBR02
import Derived.Test.YtkjjjbipmobdaaaGreatDoorBR06
import Derived.Test.YtkjjjbipmobdaaaGreatDoorBR10
namespace Go.Proofs.YtkjjjbipmobdaaaGreatDoor
open Go.RowKit Go.Extern.Stop Go.Stop Go.Extern

theorem as11_nil (v : Value) (w : World) : Calls Tryz.prog 50 #[.nilIface, v] w fun e w' => e = .returned (.bool false) ∧ w = w' := by
  go_enter Tryz.func50, Tryz.ntmps50
  go_wp2
  go_ret
  exact ⟨rfl, rfl⟩

def rowType : Array Value → Sem Value := Extern.ReflectliteValue.methodAny (Extern.ReflectliteValue.valueError "reflectlite.Value.Type" 0) fun t _ _ _ => Extern.ReflectliteType.toType t
def rowIsNil : Array Value → Sem Value := Extern.ReflectliteValue.method (Extern.ReflectliteValue.valueError "reflectlite.Value.IsNil" 0) Extern.ReflectliteValue.isNil
def rowElemV : Array Value → Sem Value := Extern.ReflectliteValue.method (Extern.ReflectliteValue.valueError "reflectlite.Value.Elem" 0) Extern.ReflectliteValue.elem
theorem as_load (t : TypeId) (a : Addr) (v : Value) (W : World) (ht : ∀ W, (isAgg t).run Tryz.prog W = .ok false W) (h : W.cell? a = some v) : (loadVar t a).run Tryz.prog W = .ok v W := by
  simp [loadVar, Sem.run_bind, ht, h]
theorem as_isNil (x : Nat) (q : Addr) (W : World) (h : W.cell? ⟨x, 0, none⟩ = some (.pointer (some q))) : (rowIsNil #[.agg #[.pointer (some ⟨4, 79, none⟩), .pointer (some ⟨x, 0, none⟩), .int .u64 150]]).run Tryz.prog W = .ok (.bool false) W := by
  have hp : (Extern.ReflectliteValue.parts (.agg #[.pointer (some ⟨4, 79, none⟩), .pointer (some ⟨x, 0, none⟩), .int .u64 150])).run Tryz.prog W = .ok (some (79, ⟨x, 0, none⟩, 150)) W := by kernel_rfl
  have hl := as_load 79 ⟨x, 0, none⟩ _ W Tryz.isAgg79 h
  have hm : rowIsNil #[.agg #[.pointer (some ⟨4, 79, none⟩), .pointer (some ⟨x, 0, none⟩), .int .u64 150]] = (do match ← Extern.ReflectliteValue.parts (.agg #[.pointer (some ⟨4, 79, none⟩), .pointer (some ⟨x, 0, none⟩), .int .u64 150]) with | none => Extern.ReflectliteValue.valueError "reflectlite.Value.IsNil" 0 | some (t, a, fl) => Extern.ReflectliteValue.isNil t a fl (fl % 32)) := rfl
  rw [hm, Sem.run_bind, hp, Result.andThen_ok]
  show (Extern.ReflectliteValue.isNil 79 ⟨x, 0, none⟩ 150 22).run _ _ = _
  have hc : ([18, 19, 20, 21, 22, 23, 26] : List Nat).contains 22 = true := by decide
  unfold Extern.ReflectliteValue.isNil
  rw [hc]
  simp [hl]
theorem as_elemV (x : Nat) (q : Addr) (W : World) (h : W.cell? ⟨x, 0, none⟩ = some (.pointer (some q))) : (rowElemV #[.agg #[.pointer (some ⟨4, 79, none⟩), .pointer (some ⟨x, 0, none⟩), .int .u64 150]]).run Tryz.prog W = .ok (.agg #[.pointer (some ⟨4, 71, none⟩), .pointer (some q), .int .u64 406]) W := by
  have hp : (Extern.ReflectliteValue.parts (.agg #[.pointer (some ⟨4, 79, none⟩), .pointer (some ⟨x, 0, none⟩), .int .u64 150])).run Tryz.prog W = .ok (some (79, ⟨x, 0, none⟩, 150)) W := by kernel_rfl
  have hl := as_load 79 ⟨x, 0, none⟩ _ W Tryz.isAgg79 h
  have hm : rowElemV #[.agg #[.pointer (some ⟨4, 79, none⟩), .pointer (some ⟨x, 0, none⟩), .int .u64 150]] = (do match ← Extern.ReflectliteValue.parts (.agg #[.pointer (some ⟨4, 79, none⟩), .pointer (some ⟨x, 0, none⟩), .int .u64 150]) with | none => Extern.ReflectliteValue.valueError "reflectlite.Value.Elem" 0 | some (t, a, fl) => Extern.ReflectliteValue.elem t a fl (fl % 32)) := rfl
  rw [hm, Sem.run_bind, hp, Result.andThen_ok]
  show (Extern.ReflectliteValue.elem 79 ⟨x, 0, none⟩ 150 22).run _ _ = _
  have he : (Extern.Rtype.elem? 79).run Tryz.prog W = .ok (some 71) W := by kernel_rfl
  have hk : ∀ q : Addr, (Extern.ReflectliteValue.mk 71 q Extern.ReflectliteValue.flagAddr).run Tryz.prog W = .ok (.agg #[.pointer (some ⟨4, 71, none⟩), .pointer (some q), .int .u64 406]) W := fun q => by kernel_rfl
  unfold Extern.ReflectliteValue.elem
  simp [hl, he, hk]
theorem as_set (y : Nat) (p q : Addr) (T : Value) (W : World) (h : W.cell? ⟨y, 0, none⟩ = some (.pointer (some p))) (hq : W.cell? q = some T) (hf : W.frozen? q = false) : (Extern.ReflectliteValue.set #[.agg #[.pointer (some ⟨4, 71, none⟩), .pointer (some q), .int .u64 406], .agg #[.pointer (some ⟨4, 71, none⟩), .pointer (some ⟨y, 0, none⟩), .int .u64 150]]).run Tryz.prog W = .ok (.tuple #[]) (W.setCell q (.pointer (some p))) := by
  have hp1 : (Extern.ReflectliteValue.parts (.agg #[.pointer (some ⟨4, 71, none⟩), .pointer (some q), .int .u64 406])).run Tryz.prog W = .ok (some (71, q, 406)) W := by kernel_rfl
  have hp2 : (Extern.ReflectliteValue.parts (.agg #[.pointer (some ⟨4, 71, none⟩), .pointer (some ⟨y, 0, none⟩), .int .u64 150])).run Tryz.prog W = .ok (some (71, ⟨y, 0, none⟩, 150)) W := by kernel_rfl
  have hl := as_load 71 ⟨y, 0, none⟩ _ W Tryz.isAgg71 h
  have hd : (Extern.Rtype.directlyAssignable 71 71).run Tryz.prog W = .ok true W := by kernel_rfl
  have hst : (storeVar 71 q (.pointer (some p))).run Tryz.prog W = .ok () (W.setCell q (.pointer (some p))) := by
    have hadd : q.add 0 = q := by unfold Addr.add; split <;> simp_all
    simp [storeVar, Sem.run_bind, Tryz.sizeOf71, Value.cells, storeCells, hadd, run_store _ _ _ _ _ (show (Value.pointer (some p)).oneCell' = true from rfl), hq, hf]
  show (Bind.bind (Extern.ReflectliteValue.parts (.agg #[.pointer (some ⟨4, 71, none⟩), .pointer (some q), .int .u64 406])) _ : Sem Value).run Tryz.prog W = _
  rw [Sem.run_bind, hp1, Result.andThen_ok]
  show (Bind.bind (Extern.ReflectliteValue.parts (.agg #[.pointer (some ⟨4, 71, none⟩), .pointer (some ⟨y, 0, none⟩), .int .u64 150])) _ : Sem Value).run Tryz.prog W = _
  rw [Sem.run_bind, hp2, Result.andThen_ok]
  show (Bind.bind (loadVar 71 ⟨y, 0, none⟩) _ : Sem Value).run Tryz.prog W = _
  rw [Sem.run_bind, hl, Result.andThen_ok]
  show (Bind.bind (Extern.Rtype.directlyAssignable 71 71) _ : Sem Value).run Tryz.prog W = _
  rw [Sem.run_bind, hd, Result.andThen_ok]
  show (Bind.bind (storeVar 71 q (.pointer (some p))) _ : Sem Value).run Tryz.prog W = _
  rw [Sem.run_bind, hst, Result.andThen_ok]
  rfl
theorem as_kind_m (n : Nat) (t : TypeId) (w : World) : (Go.method (n + 1) 136 (.agg #[.pointer (some ⟨4, t, none⟩)]) "Kind").run Tryz.prog w = .ok (182, .pointer (some ⟨4, t, none⟩)) w := by kernel_rfl
theorem as_elem_m (n : Nat) (v : Value) (w : World) : (Go.method (n + 1) 136 v "Elem").run Tryz.prog w = .ok (194, v) w := by kernel_rfl
theorem as_impl_m (n : Nat) (v : Value) (w : World) : (Go.method (n + 1) 136 v "Implements").run Tryz.prog w = .ok (195, v) w := by kernel_rfl
theorem as_assi_m (n : Nat) (v : Value) (w : World) : (Go.method (n + 1) 136 v "AssignableTo").run Tryz.prog w = .ok (192, v) w := by kernel_rfl
def rowKind : Array Value → Sem Value := Extern.ReflectliteType.abiMethod fun t => do pure (.int .u8 (← Extern.Rtype.kind t))
def rowElemT : Array Value → Sem Value := Extern.ReflectliteType.method Extern.ReflectliteType.elem
def rowImpl : Array Value → Sem Value := Extern.ReflectliteType.relation "Implements" Extern.ReflectliteType.implements_
def rowAssi : Array Value → Sem Value := Extern.ReflectliteType.relation "AssignableTo" Extern.ReflectliteType.assignableTo
def rowValueOf : Array Value → Sem Value := fun args => Extern.ReflectliteValue.unpack (args.getD 0 (.tuple #[]))
theorem as_type_r (x : Nat) (W : World) : (rowType #[.agg #[.pointer (some ⟨4, 79, none⟩), .pointer (some ⟨x, 0, none⟩), .int .u64 150]]).run Tryz.prog W = .ok (.iface 136 (.agg #[.pointer (some ⟨4, 79, none⟩)])) W := by kernel_rfl
theorem as_kind_p (W : World) : (rowKind #[.pointer (some ⟨4, 79, none⟩)]).run Tryz.prog W = .ok (.int .u8 22) W := by kernel_rfl
theorem as_kind_q (W : World) : (rowKind #[.pointer (some ⟨4, 71, none⟩)]).run Tryz.prog W = .ok (.int .u8 22) W := by kernel_rfl
theorem as_elem_r (W : World) : (rowElemT #[.agg #[.pointer (some ⟨4, 79, none⟩)]]).run Tryz.prog W = .ok (.iface 136 (.agg #[.pointer (some ⟨4, 71, none⟩)])) W := by kernel_rfl
theorem as_impl_r (W : World) : (rowImpl #[.agg #[.pointer (some ⟨4, 71, none⟩)], .iface 136 (.agg #[.pointer (some ⟨4, 26, none⟩)])]).run Tryz.prog W = .ok (.bool true) W := by kernel_rfl
theorem as_assi_r (W : World) : (rowAssi #[.agg #[.pointer (some ⟨4, 71, none⟩)], .iface 136 (.agg #[.pointer (some ⟨4, 71, none⟩)])]).run Tryz.prog W = .ok (.bool true) W := by kernel_rfl
theorem as_val_q (q : Addr) (W : World) : (rowValueOf #[.iface 79 (.pointer (some q))]).run Tryz.prog W = .ok (.agg #[.pointer (some ⟨4, 79, none⟩), .pointer (some ⟨W.heap.size, 0, none⟩), .int .u64 150]) (W.alloc (.cells #[.pointer (some q)] 79)) := by kernel_rfl
theorem as_val_p (p : Addr) (W : World) : (rowValueOf #[.iface 71 (.pointer (some p))]).run Tryz.prog W = .ok (.agg #[.pointer (some ⟨4, 71, none⟩), .pointer (some ⟨W.heap.size, 0, none⟩), .int .u64 150]) (W.alloc (.cells #[.pointer (some p)] 71)) := by kernel_rfl
theorem as_typeOf (v : Value) (w : World) : (Extern.ReflectliteType.typeOf #[.iface 71 v]).run Tryz.prog w = .ok (.iface 136 (.agg #[.pointer (some ⟨4, 71, none⟩)])) w := by kernel_rfl
end Go.Proofs.YtkjjjbipmobdaaaGreatDoor

/- errors.As of a fault. -/
namespace Go.Proofs.YtkjjjbipmobdaaaGreatDoor
open Go.RowKit Go.Extern.Stop Go.Stop Go.Extern

set_option maxRecDepth 100000 in
set_option maxHeartbeats 1000000 in
theorem as11_fault (p q : Nat) (w : World) (T : Value) (hq : w.cell? ⟨q, 0, none⟩ = some T) (hf : w.frozen? ⟨q, 0, none⟩ = false) (hT : w.cell? ⟨0, 0, none⟩ = some (.iface 136 (.agg #[.pointer (some ⟨4, 26, none⟩)]))) :
    Calls Tryz.prog 50 #[.iface 71 (.pointer (some ⟨p, 0, none⟩)), .iface 79 (.pointer (some ⟨q, 0, none⟩))] w fun e w' => e = .returned (.bool true) ∧ ∃ w1, Below w.heap.size w w1 ∧ w' = w1.setCell ⟨q, 0, none⟩ (.pointer (some ⟨p, 0, none⟩)) := by
  have heq1 : ∀ W : World, (binOp .eql 26 (.iface 71 (.pointer (some ⟨p, 0, none⟩))) .nilIface).run Tryz.prog W = .ok (.bool false) W := fun W => by kernel_rfl
  have heq2 : ∀ W : World, (binOp .eql 20 (.iface 79 (.pointer (some ⟨q, 0, none⟩))) .nilIface).run Tryz.prog W = .ok (.bool false) W := fun W => by kernel_rfl
  have x1 := @run_callFunc_extern Tryz.prog 79 _ rowValueOf Tryz.func79 (by kernel_rfl) (by kernel_rfl) (by kernel_rfl) (by kernel_rfl)
  have x2 := @run_callFunc_extern Tryz.prog 80 _ rowType Tryz.func80 (by kernel_rfl) (by kernel_rfl) (by kernel_rfl) (by kernel_rfl)
  have x3 := @run_callFunc_extern Tryz.prog 182 _ rowKind Tryz.func182 (by kernel_rfl) (by kernel_rfl) (by kernel_rfl) (by kernel_rfl)
  have x4 := @run_callFunc_extern Tryz.prog 81 _ rowIsNil Tryz.func81 (by kernel_rfl) (by kernel_rfl) (by kernel_rfl) (by kernel_rfl)
  have x5 := @run_callFunc_extern Tryz.prog 194 _ rowElemT Tryz.func194 (by kernel_rfl) (by kernel_rfl) (by kernel_rfl) (by kernel_rfl)
  have x6 := @run_callFunc_extern Tryz.prog 195 _ rowImpl Tryz.func195 (by kernel_rfl) (by kernel_rfl) (by kernel_rfl) (by kernel_rfl)
  have x7 := @run_callFunc_extern Tryz.prog 63 _ Extern.ReflectliteType.typeOf Tryz.func63 (by kernel_rfl) (by kernel_rfl) (by kernel_rfl) (by kernel_rfl)
  have x8 := @run_callFunc_extern Tryz.prog 192 _ rowAssi Tryz.func192 (by kernel_rfl) (by kernel_rfl) (by kernel_rfl) (by kernel_rfl)
  have x9 := @run_callFunc_extern Tryz.prog 123 _ rowElemV Tryz.func123 (by kernel_rfl) (by kernel_rfl) (by kernel_rfl) (by kernel_rfl)
  have x10 := @run_callFunc_extern Tryz.prog 124 _ Extern.ReflectliteValue.set Tryz.func124 (by kernel_rfl) (by kernel_rfl) (by kernel_rfl) (by kernel_rfl)
  have m1 := as_kind_m
  have m2 := as_elem_m
  have m3 := as_impl_m
  have m4 := as_assi_m
  have r1 := as_val_q
  have r2 := as_type_r
  have r3 := as_kind_p
  have r4 := as_kind_q
  have r5 := as_elem_r
  have r6 := as_impl_r
  have r7 := as_assi_r
  have r8 := as_val_p
  have r9 := as_typeOf
  have ra := fun (x : Nat) (W : World) (h : W.cell? ⟨x, 0, none⟩ = some (.pointer (some ⟨q, 0, none⟩))) => as_isNil x ⟨q, 0, none⟩ W h
  have rb := fun (x : Nat) (W : World) (h : W.cell? ⟨x, 0, none⟩ = some (.pointer (some ⟨q, 0, none⟩))) => as_elemV x ⟨q, 0, none⟩ W h
  have hgl : 0 < w.heap.size := World.block_lt_of_cell? w ⟨0, 0, none⟩ hT
  have hql : q < w.heap.size := World.block_lt_of_cell? w ⟨q, 0, none⟩ hq
  have hT1 := fun X => (World.cell?_alloc_lt w X ⟨0, 0, none⟩ hgl).trans hT
  have hT2 := fun X Y => (World.cell?_alloc_lt (w.alloc X) Y ⟨0, 0, none⟩ (by show 0 < _; simp <;> omega)).trans (hT1 X)
  go_enter Tryz.func50, Tryz.ntmps50
  go_wp2
  refine wp_loop_rounds 1 ?_
  rw [rounds_succ]
  clear x1 x2 x3 x4 x5 x6
  have x1 := @run_callFunc_extern Tryz.prog 79 _ rowValueOf Tryz.func79 (by kernel_rfl) (by kernel_rfl) (by kernel_rfl) (by kernel_rfl)
  have hc1 : ∀ Y Z, (((w.alloc (.cells #[.pointer (some ⟨q, 0, none⟩)] 79)).alloc Y).alloc Z).cell? ⟨w.heap.size, 0, none⟩ = some (.pointer (some ⟨q, 0, none⟩)) := fun Y Z => by
    rw [World.cell?_alloc_lt _ _ _ (by show w.heap.size < _; simp; omega), World.cell?_alloc_lt _ _ _ (by show w.heap.size < _; simp), ArrAt.cell (arrAt_new w 79 [.pointer (some ⟨q, 0, none⟩)])]; rfl
  have rb := fun Y Z => as_elemV w.heap.size ⟨q, 0, none⟩ _ (hc1 Y Z)
  have rc : ∀ X Y Z, (Extern.ReflectliteValue.set #[.agg #[.pointer (some ⟨4, 71, none⟩), .pointer (some ⟨q, 0, none⟩), .int .u64 406], .agg #[.pointer (some ⟨4, 71, none⟩), .pointer (some ⟨w.heap.size + 1 + 1 + 1, 0, none⟩), .int .u64 150]]).run Tryz.prog ((((w.alloc X).alloc Y).alloc Z).alloc (.cells #[.pointer (some ⟨p, 0, none⟩)] 71)) = .ok (.tuple #[]) (((((w.alloc X).alloc Y).alloc Z).alloc (.cells #[.pointer (some ⟨p, 0, none⟩)] 71)).setCell ⟨q, 0, none⟩ (.pointer (some ⟨p, 0, none⟩))) := fun X Y Z => by
    have hb : Below w.heap.size w ((((w.alloc X).alloc Y).alloc Z).alloc (.cells #[.pointer (some ⟨p, 0, none⟩)] 71)) := ((((Below.refl w.heap.size w).alloc (Nat.le_refl _) X).alloc (by simp) Y).alloc (by simp; omega) Z).alloc (by simp; omega) _
    have hn := ArrAt.cell (arrAt_new (((w.alloc X).alloc Y).alloc Z) 71 [.pointer (some ⟨p, 0, none⟩)]) 0
    have hsz : (((w.alloc X).alloc Y).alloc Z).heap.size = w.heap.size + 1 + 1 + 1 := by simp
    rw [hsz] at hn
    refine as_set _ ⟨p, 0, none⟩ ⟨q, 0, none⟩ T _ hn ((hb.cell (p := ⟨q, 0, none⟩) hql).trans hq) ?_
    rw [← hf]
    simp only [World.frozen?]
    rw [hb.block q hql]
  go_wp2
  go_ret
  exact ⟨rfl, _, ((((Below.refl w.heap.size w).alloc (Nat.le_refl _) _).alloc (by simp) _).alloc (by simp; omega) _).alloc (by simp; omega) _, rfl⟩
end Go.Proofs.YtkjjjbipmobdaaaGreatDoor

/- Faults in memory; errors.As and errors.Is of the program's own error. -/
namespace Go.Proofs.YtkjjjbipmobdaaaGreatDoor
open Go.RowKit Go.Extern.Stop Go.Stop Go.Extern

/-- What errors.As asks: the type of errors lies as laid. -/
def EnvT (w : World) : Prop := w.cell? ⟨0, 0, none⟩ = some (.iface 136 (.agg #[.pointer (some ⟨4, 26, none⟩)]))
theorem EnvT.below {w w' : World} (h : EnvT w) (hb : Below w.heap.size w w') : EnvT w' := (hb.cell (p := ⟨0, 0, none⟩) (World.block_lt_of_cell? w ⟨0, 0, none⟩ h)).trans h
/-- A fault in memory. -/
def FaultAt (w : World) (f : Nat) (q : Nat) (v : Value) : Prop := ArrAt w f 73 [.int .i64 q, v]
def faultV (f : Nat) : Value := .iface 71 (.pointer (some ⟨f, 0, none⟩))
theorem FaultAt.below {w w' : World} {f q : Nat} {v : Value} (h : FaultAt w f q v) (hb : Below w.heap.size w w') : FaultAt w' f q v := ArrAt.next h hb
end Go.Proofs.YtkjjjbipmobdaaaGreatDoor

/- Layer 14: first, Field, Channel, Short, fault; the reference's Field, Channel, Short. -/
namespace Go.Proofs.YtkjjjbipmobdaaaGreatDoor
open Go.RowKit

/-- The place of the first kid of a name. -/
def firstB (l : List Nd) (i : Int) (nm : List UInt8) : Option Int := (namedB l i nm).head?
def FstPost (w : World) (o : Option Int) (e : Ending) (w' : World) : Prop := e = .returned (.tuple #[.int .i64 (o.getD 0), .bool o.isSome]) ∧ Below w.heap.size w w'
def FldPost (w : World) (o : Option (List UInt8)) (e : Ending) (w' : World) : Prop := e = .returned (.tuple #[.string ⟨(o.getD []).toArray⟩, .bool o.isSome]) ∧ Below w.heap.size w w'
theorem fieldB_first (l : List Nd) (i : Int) (nm : List UInt8) : fieldB l i nm = (firstB l i nm).map fun j => cleanB (textB l j) := by
  unfold fieldB firstB
  cases namedB l i nm <;> rfl
theorem FldPost.mk {w w' : World} {o : Option (List UInt8)} {e : Ending} (x : List UInt8) (b : Bool) (h1 : o.getD [] = x) (h2 : o.isSome = b) (he : e = .returned (.tuple #[.string ⟨x.toArray⟩, .bool b])) (hb : Below w.heap.size w w') : FldPost w o e w' := by subst h1 h2; exact ⟨he, hb⟩
/-- The first of numbers that can be read. -/
theorem rd_first {w : World} {v : Value} {xs : List Int} (h : RdSl .i64 w v xs) : (xs = [] ∧ ∃ a c, v = .slice a 0 c) ∨ ∃ x r b off c, xs = x :: r ∧ v = .slice (some ⟨b, off, none⟩) (r.length + 1) c ∧ w.cell? ⟨b, off, none⟩ = some (.int .i64 x) := by
  rcases h.sl with ⟨h1, a, c, h2⟩ | ⟨b, off, c, hv, hc⟩
  · exact Or.inl ⟨h1, a, c, h2⟩
  · cases xs with
    | nil => exact Or.inl ⟨rfl, _, c, by simpa using hv⟩
    | cons x r =>
      have := hc 0 (by simp)
      rw [Nat.add_zero] at this
      exact Or.inr ⟨x, r, b, off, c, rfl, by simpa using hv, this⟩

set_option maxHeartbeats 1000000 in
theorem first14_any (P : List (Nd × Value)) (v : Value) (i : Int) (nm : List UInt8) (w : World) (h : NdSl w v P) (hn : P.length ≤ 1000000) :
    Calls Tryz.prog 46 #[v, .int .i64 i, .string ⟨nm.toArray⟩] w (FstPost w (firstB (nodes P) i nm)) := by
  have hnm := named12_any P v i nm w h hn
  unfold firstB
  generalize namedB (nodes P) i nm = xs at hnm
  obtain ⟨a, c, rfl⟩ := h.form
  replace hnm := Lib.hid hnm
  replace h := Lib.hid h
  go_enter Tryz.func46, Tryz.ntmps46
  go_wp2_with fail
  refine hnm.out.mono ?_
  rintro e w1 ⟨u, rfl, hu, hb⟩
  clear hnm
  rcases rd_first hu.rd with ⟨rfl, a1, c1, rfl⟩ | ⟨x, r, b, off, c1, rfl, rfl, hc⟩
  · clear hu
    replace hb := Lib.hid hb
    go_wp2_with fail
    go_ret2
    exact ⟨rfl, hb.out⟩
  · clear hu
    replace hb := Lib.hid hb
    have hl0 : ((r.length : Int) + 1 == 0) = false := by rw [beq_eq_false_iff_ne]; omega
    have hl1 : (r.length + 1 == 0) = false := by rw [beq_eq_false_iff_ne]; omega
    have hl2 : (0 : Int) < (r.length : Int) + 1 := by omega
    go_wp2_with fail
    go_ret2
    exact ⟨rfl, hb.out⟩

set_option maxHeartbeats 1000000 in
theorem field14_any (P : List (Nd × Value)) (v : Value) (i : Int) (nm : List UInt8) (w : World) (h : NdSl w v P) (hn : P.length ≤ 1000000) (hT : sumT (nodes P) ≤ 2000000) :
    Calls Tryz.prog 24 #[v, .int .i64 i, .string ⟨nm.toArray⟩] w (FldPost w (fieldB (nodes P) i nm)) := by
  have hf := first14_any P v i nm w h hn
  rw [fieldB_first]
  generalize firstB (nodes P) i nm = o at hf
  obtain ⟨a, c, hv⟩ := h.form
  have hnx := fun W (hb : Below w.heap.size w W) => h.next hb
  subst hv
  replace hf := Lib.hid hf
  replace hnx := Lib.hid hnx
  replace h := Lib.hid h
  go_enter Tryz.func24, Tryz.ntmps24
  go_wp2_with fail
  refine hf.out.mono ?_
  rintro e w1 ⟨rfl, hb⟩
  clear hf
  cases o with
  | none =>
    replace hb := Lib.hid hb
    go_wp2_with fail
    go_ret2
    exact ⟨rfl, hb.out⟩
  | some j =>
    have ht := text12_any P _ j w1 (hnx.out w1 hb) hn (by omega)
    have hl := textB_len (nodes P) j
    replace hb := Lib.hid hb
    replace ht := Lib.hid ht
    go_wp2_with fail
    refine ht.out.mono ?_
    rintro e w2 ⟨rfl, hb2⟩
    have hb3 := Lib.hid (hb.out.andThen hb2)
    clear hb2
    go_wp2_with fail
    refine (clean_any _ _ (by omega)).mono ?_
    rintro e w3 ⟨rfl, hb4⟩
    have hb5 := Lib.hid (hb3.out.andThen hb4)
    clear hb4
    go_wp2_with fail
    go_ret2
    exact ⟨rfl, hb5.out⟩
end Go.Proofs.YtkjjjbipmobdaaaGreatDoor

/- Layer 14: Channel, Short, fault, a part's field; the reference's Field, Channel, Short. -/
namespace Go.Proofs.YtkjjjbipmobdaaaGreatDoor
open Go.RowKit

def rssL : List UInt8 := [114, 115, 115]
def chanL : List UInt8 := [99, 104, 97, 110, 110, 101, 108]
/-- The channel's place. -/
def chanB (l : List Nd) : Option Int := if l = [] ∨ (atN l 0).name ≠ rssL then none else firstB l 0 chanL
/-- An entry. -/
structure It where
  guid : List UInt8
  title : List UInt8
  link : List UInt8
  body : List UInt8
  date : Int
  dated : Bool
def itC (x : It) : List Value := [strV x.guid, strV x.title, strV x.link, strV x.body, .int .i64 x.date, .bool x.dated]
def itV (x : It) : Value := .agg (itC x).toArray
def shortB (x : It) (most : Int) : Bool := decide ((x.guid.length : Int) ≤ most) && decide ((x.guid.length : Int) ≤ 256) && decide ((x.title.length : Int) ≤ most) && decide ((x.link.length : Int) ≤ most) && decide ((x.body.length : Int) ≤ most)

set_option maxHeartbeats 1000000 in
theorem channel14_any (P : List (Nd × Value)) (v : Value) (w : World) (h : NdSl w v P) (hn : P.length ≤ 1000000) :
    Calls Tryz.prog 26 #[v] w (FstPost w (chanB (nodes P))) := by
  by_cases h0 : P = []
  · subst h0
    obtain ⟨a, c, rfl⟩ := h.form
    have hP : chanB (nodes []) = none := if_pos (Or.inl rfl)
    rw [hP]
    clear h
    replace hP := Lib.hid hP
    go_enter Tryz.func26, Tryz.ntmps26
    go_wp2_with fail
    go_ret2
    exact ⟨rfl, Below.refl _ _⟩
  have hp0 : 0 < P.length := List.length_pos_iff.2 h0
  have hf := first14_any P v 0 chanL w h hn
  obtain ⟨b, off, cap, hcap, hbl, rfl, hcl⟩ := h.some hp0
  obtain ⟨d0, _, _, _⟩ := hcl 0 hp0
  have hna : (P[0]'hp0).1 = atN (nodes P) 0 := nodes_at hp0
  rw [hna] at d0
  clear hcl hna
  have hP := show chanB (nodes P) = _ from by unfold chanB; rfl
  have hne : nodes P ≠ [] := fun e => h0 (List.map_eq_nil_iff.1 e)
  have hl0 : ((P.length : Int) == 0) = false := by rw [beq_eq_false_iff_ne]; omega
  have hl1 : (P.length == 0) = false := by rw [beq_eq_false_iff_ne]; omega
  have hl2 : (0 : Int) < P.length := by omega
  unfold strV at d0
  rw [Nat.zero_mul, Nat.add_zero] at d0
  unfold chanL at hf
  replace hf := Lib.hid hf
  replace h := Lib.hid h
  replace h0 := Lib.hid h0
  by_cases hq : (atN (nodes P) 0).name = rssL
  · have hP2 := hP.trans (if_neg (by rintro (e | e); exact hne e; exact e hq))
    rw [hP2]
    rw [hq] at d0
    unfold rssL at d0
    replace hP := Lib.hid hP
    replace hP2 := Lib.hid hP2
    replace hq := Lib.hid hq
    go_enter Tryz.func26, Tryz.ntmps26
    go_wp2_with fail
    refine hf.out.mono ?_
    rintro e w1 ⟨rfl, hb⟩
    replace hb := Lib.hid hb
    go_wp2_with fail
    go_ret2
    exact ⟨rfl, hb.out⟩
  · have hP2 := hP.trans (if_pos (Or.inr hq))
    rw [hP2]
    have hq1 : ((atN (nodes P) 0).name == [114, 115, 115]) = false := by rw [beq_eq_false_iff_ne]; exact hq
    generalize (atN (nodes P) 0).name = nm at d0 hq1
    replace hP := Lib.hid hP
    replace hP2 := Lib.hid hP2
    replace hq := Lib.hid hq
    go_enter Tryz.func26, Tryz.ntmps26
    go_wp2_with fail
    go_ret2
    exact ⟨rfl, Below.refl _ _⟩

set_option maxHeartbeats 2000000 in
theorem short14_any (x : It) (most : Int) (w : World) : Calls Tryz.prog 28 #[itV x, .int .i64 most] w fun e w' => e = .returned (.bool (shortB x most)) ∧ Below w.heap.size w w' := by
  obtain ⟨xg, xt, xl, xb, xd, xk⟩ := x
  unfold itV itC strV shortB
  simp only
  have hb : ∀ c : Array Value, Below w.heap.size w (w.alloc (.cells c 40)) := fun c => (Below.refl _ _).alloc (Nat.le_refl _) _
  replace hb := Lib.hid hb
  have e1 : (decide ((xg.length : Int) ≤ most) && decide ((xg.length : Int) ≤ 256)) = decide ((xg.length : Int) ≤ min most 256) := by
    rw [Bool.eq_iff_iff]; simp only [Bool.and_eq_true, decide_eq_true_eq]; omega
  rw [e1]
  clear e1
  generalize hq : min most 256 = q
  have hq1 : (if most ≤ 256 then most else 256) = q := by omega
  cases h1 : decide ((xg.length : Int) ≤ q) <;> cases h2 : decide ((xt.length : Int) ≤ most) <;> cases h3 : decide ((xl.length : Int) ≤ most) <;> cases h4 : decide ((xb.length : Int) ≤ most)
  all_goals
    go_enter Tryz.func28, Tryz.ntmps28
    go_wp2_with fail
    go_ret
    exact ⟨rfl, hb.out _⟩
set_option maxHeartbeats 2000000 in
theorem refshort14_any (x : It) (most : Int) (w : World) : Calls Tryz.prog 18 #[itV x, .int .i64 most] w fun e w' => e = .returned (.bool (shortB x most)) ∧ Below w.heap.size w w' := by
  obtain ⟨xg, xt, xl, xb, xd, xk⟩ := x
  unfold itV itC strV shortB
  simp only
  have hb : ∀ c : Array Value, Below w.heap.size w (w.alloc (.cells c 40)) := fun c => (Below.refl _ _).alloc (Nat.le_refl _) _
  replace hb := Lib.hid hb
  cases h1 : decide ((xg.length : Int) ≤ most) <;> cases h2 : decide ((xt.length : Int) ≤ most) <;> cases h3 : decide ((xl.length : Int) ≤ most) <;> cases h4 : decide ((xb.length : Int) ≤ most) <;> cases h5 : decide ((xg.length : Int) ≤ 256)
  all_goals
    go_enter Tryz.func18, Tryz.ntmps18
    go_wp2_with fail
    go_ret
    exact ⟨rfl, hb.out _⟩
/-- A fault with a code. -/
def codeV (q : Int) : Value := .iface 29 (.int .i64 q)
theorem fault14_any (q : Int) (w : World) : Calls Tryz.prog 29 #[.int .i64 q] w fun e w' => e = .returned (faultV w.heap.size) ∧ FaultAt w' w.heap.size 0 (codeV q) ∧ Below w.heap.size w w' := by
  have hf := arrAt_new w 73 [.int .i64 0, codeV q]
  have hb : Below w.heap.size w (w.alloc (.cells [.int .i64 0, codeV q].toArray 73)) := (Below.refl _ _).alloc (Nat.le_refl _) _
  replace hf := Lib.hid hf
  replace hb := Lib.hid hb
  go_enter Tryz.func29, Tryz.ntmps29
  go_wp2_with fail
  go_ret
  exact ⟨rfl, hf.out, hb.out⟩

set_option maxHeartbeats 1000000 in
theorem refchannel14_any (P : List (Nd × Value)) (v : Value) (w : World) (h : NdSl w v P) (hn : P.length ≤ 1000000) :
    Calls Tryz.prog 27 #[v] w (FstPost w (chanB (nodes P))) := by
  by_cases h0 : P = []
  · subst h0
    obtain ⟨a, c, rfl⟩ := h.form
    have hP : chanB (nodes []) = none := if_pos (Or.inl rfl)
    rw [hP]
    clear h
    replace hP := Lib.hid hP
    go_enter Tryz.func27, Tryz.ntmps27
    go_wp2_with fail
    go_ret2
    exact ⟨rfl, Below.refl _ _⟩
  have hp0 : 0 < P.length := List.length_pos_iff.2 h0
  have hf := refnamed12_any P v 0 chanL w h hn
  obtain ⟨b, off, cap, hcap, hbl, rfl, hcl⟩ := h.some hp0
  obtain ⟨d0, _, _, _⟩ := hcl 0 hp0
  have hna : (P[0]'hp0).1 = atN (nodes P) 0 := nodes_at hp0
  rw [hna] at d0
  clear hcl hna
  have hP := show chanB (nodes P) = _ from by unfold chanB; rfl
  have hne : nodes P ≠ [] := fun e => h0 (List.map_eq_nil_iff.1 e)
  have hl0 : ((P.length : Int) == 0) = false := by rw [beq_eq_false_iff_ne]; omega
  have hl1 : (P.length == 0) = false := by rw [beq_eq_false_iff_ne]; omega
  have hl2 : (0 : Int) < P.length := by omega
  unfold strV at d0
  rw [Nat.zero_mul, Nat.add_zero] at d0
  unfold chanL at hf
  replace h := Lib.hid h
  replace h0 := Lib.hid h0
  by_cases hq : (atN (nodes P) 0).name = rssL
  · have hP2 := hP.trans (if_neg (by rintro (e | e); exact hne e; exact e hq))
    rw [hP2]
    rw [hq] at d0
    unfold rssL at d0
    unfold firstB chanL
    generalize namedB (nodes P) 0 [99, 104, 97, 110, 110, 101, 108] = xs at hf hP2
    replace hf := Lib.hid hf
    replace hP := Lib.hid hP
    replace hP2 := Lib.hid hP2
    replace hq := Lib.hid hq
    go_enter Tryz.func27, Tryz.ntmps27
    go_wp2_with fail
    refine hf.out.mono ?_
    rintro e w1 ⟨u, rfl, hu, hb⟩
    rcases rd_first hu.rd with ⟨rfl, a1, c1, rfl⟩ | ⟨x, r, b, off, c1, rfl, rfl, hc⟩
    · clear hu
      replace hb := Lib.hid hb
      go_wp2_with fail
      go_ret2
      exact ⟨rfl, hb.out⟩
    · clear hu
      replace hb := Lib.hid hb
      have hl0 : ((r.length : Int) + 1 == 0) = false := by rw [beq_eq_false_iff_ne]; omega
      have hl1 : (r.length + 1 == 0) = false := by rw [beq_eq_false_iff_ne]; omega
      have hl2 : (0 : Int) < (r.length : Int) + 1 := by omega
      go_wp2_with fail
      go_ret2
      exact ⟨rfl, hb.out⟩
  · have hP2 := hP.trans (if_pos (Or.inr hq))
    rw [hP2]
    have hq1 : ((atN (nodes P) 0).name == [114, 115, 115]) = false := by rw [beq_eq_false_iff_ne]; exact hq
    generalize (atN (nodes P) 0).name = nm at d0 hq1
    clear hf
    replace hP := Lib.hid hP
    replace hP2 := Lib.hid hP2
    replace hq := Lib.hid hq
    go_enter Tryz.func27, Tryz.ntmps27
    go_wp2_with fail
    go_ret2
    exact ⟨rfl, Below.refl _ _⟩

set_option maxHeartbeats 1000000 in
theorem reffield14_any (P : List (Nd × Value)) (v : Value) (i : Int) (nm : List UInt8) (w : World) (h : NdSl w v P) (hn : P.length ≤ 1000000) (hT : sumT (nodes P) ≤ 2000000) :
    Calls Tryz.prog 25 #[v, .int .i64 i, .string ⟨nm.toArray⟩] w (FldPost w (fieldB (nodes P) i nm)) := by
  have hnm := refnamed12_any P v i nm w h hn
  rw [fieldB_first]
  unfold firstB
  generalize namedB (nodes P) i nm = xs at hnm
  obtain ⟨a, c, hv⟩ := h.form
  have hnx := fun W (hb : Below w.heap.size w W) => h.next hb
  subst hv
  replace hnm := Lib.hid hnm
  replace hnx := Lib.hid hnx
  replace h := Lib.hid h
  go_enter Tryz.func25, Tryz.ntmps25
  go_wp2_with fail
  refine hnm.out.mono ?_
  rintro e w1 ⟨u, rfl, hu, hb⟩
  clear hnm
  rcases rd_first hu.rd with ⟨rfl, a1, c1, rfl⟩ | ⟨x, r, b, off, c1, rfl, rfl, hc⟩
  · clear hu
    replace hb := Lib.hid hb
    go_wp2_with fail
    go_ret2
    exact ⟨rfl, hb.out⟩
  · clear hu
    have ht := reftext12_any P _ x w1 (hnx.out w1 hb) hn (by omega)
    have hl := textB_len (nodes P) x
    have hl0 : ((r.length : Int) + 1 == 0) = false := by rw [beq_eq_false_iff_ne]; omega
    have hl1 : (r.length + 1 == 0) = false := by rw [beq_eq_false_iff_ne]; omega
    have hl2 : (0 : Int) < (r.length : Int) + 1 := by omega
    replace hb := Lib.hid hb
    replace ht := Lib.hid ht
    go_wp2_with fail
    refine ht.out.mono ?_
    rintro e w2 ⟨rfl, hb2⟩
    have hb3 := Lib.hid (hb.out.andThen hb2)
    clear hb2
    go_wp2_with fail
    refine (refclean_any _ _ (by omega)).mono ?_
    rintro e w3 ⟨rfl, hb4⟩
    have hb5 := Lib.hid (hb3.out.andThen hb4)
    clear hb4
    go_wp2_with fail
    go_ret2
    exact ⟨rfl, hb5.out⟩
end Go.Proofs.YtkjjjbipmobdaaaGreatDoor
