/- errors.As: of nil, and of a fault. -/
import Derived.Test.YtkgjbamkinfmeaaGreatDoorBR01
namespace Go.Proofs.YtkgjbamkinfmeaaGreatDoor
open Go.RowKit Go.Extern.Stop Go.Stop Go.Extern

theorem as11_nil (v : Value) (w : World) : Calls Tryz.prog 29 #[.nilIface, v] w fun e w' => e = .returned (.bool false) ∧ w = w' := by
  go_enter Tryz.func29, Tryz.ntmps29
  go_wp2
  go_ret
  exact ⟨rfl, rfl⟩

def rowType : Array Value → Sem Value := Extern.ReflectliteValue.methodAny (Extern.ReflectliteValue.valueError "reflectlite.Value.Type" 0) fun t _ _ _ => Extern.ReflectliteType.toType t
def rowIsNil : Array Value → Sem Value := Extern.ReflectliteValue.method (Extern.ReflectliteValue.valueError "reflectlite.Value.IsNil" 0) Extern.ReflectliteValue.isNil
def rowElemV : Array Value → Sem Value := Extern.ReflectliteValue.method (Extern.ReflectliteValue.valueError "reflectlite.Value.Elem" 0) Extern.ReflectliteValue.elem
theorem as_load (t : TypeId) (a : Addr) (v : Value) (W : World) (ht : ∀ W, (isAgg t).run Tryz.prog W = .ok false W) (h : W.cell? a = some v) : (loadVar t a).run Tryz.prog W = .ok v W := by
  simp [loadVar, Sem.run_bind, ht, h]
theorem as_isNil (x : Nat) (q : Addr) (W : World) (h : W.cell? ⟨x, 0, none⟩ = some (.pointer (some q))) : (rowIsNil #[.agg #[.pointer (some ⟨6, 81, none⟩), .pointer (some ⟨x, 0, none⟩), .int .u64 150]]).run Tryz.prog W = .ok (.bool false) W := by
  have hp : (Extern.ReflectliteValue.parts (.agg #[.pointer (some ⟨6, 81, none⟩), .pointer (some ⟨x, 0, none⟩), .int .u64 150])).run Tryz.prog W = .ok (some (81, ⟨x, 0, none⟩, 150)) W := by kernel_rfl
  have hl := as_load 81 ⟨x, 0, none⟩ _ W Tryz.isAgg81 h
  have hm : rowIsNil #[.agg #[.pointer (some ⟨6, 81, none⟩), .pointer (some ⟨x, 0, none⟩), .int .u64 150]] = (do match ← Extern.ReflectliteValue.parts (.agg #[.pointer (some ⟨6, 81, none⟩), .pointer (some ⟨x, 0, none⟩), .int .u64 150]) with | none => Extern.ReflectliteValue.valueError "reflectlite.Value.IsNil" 0 | some (t, a, fl) => Extern.ReflectliteValue.isNil t a fl (fl % 32)) := rfl
  rw [hm, Sem.run_bind, hp, Result.andThen_ok]
  show (Extern.ReflectliteValue.isNil 81 ⟨x, 0, none⟩ 150 22).run _ _ = _
  have hc : ([18, 19, 20, 21, 22, 23, 26] : List Nat).contains 22 = true := by decide
  unfold Extern.ReflectliteValue.isNil
  rw [hc]
  simp [hl]
theorem as_elemV (x : Nat) (q : Addr) (W : World) (h : W.cell? ⟨x, 0, none⟩ = some (.pointer (some q))) : (rowElemV #[.agg #[.pointer (some ⟨6, 81, none⟩), .pointer (some ⟨x, 0, none⟩), .int .u64 150]]).run Tryz.prog W = .ok (.agg #[.pointer (some ⟨6, 38, none⟩), .pointer (some q), .int .u64 406]) W := by
  have hp : (Extern.ReflectliteValue.parts (.agg #[.pointer (some ⟨6, 81, none⟩), .pointer (some ⟨x, 0, none⟩), .int .u64 150])).run Tryz.prog W = .ok (some (81, ⟨x, 0, none⟩, 150)) W := by kernel_rfl
  have hl := as_load 81 ⟨x, 0, none⟩ _ W Tryz.isAgg81 h
  have hm : rowElemV #[.agg #[.pointer (some ⟨6, 81, none⟩), .pointer (some ⟨x, 0, none⟩), .int .u64 150]] = (do match ← Extern.ReflectliteValue.parts (.agg #[.pointer (some ⟨6, 81, none⟩), .pointer (some ⟨x, 0, none⟩), .int .u64 150]) with | none => Extern.ReflectliteValue.valueError "reflectlite.Value.Elem" 0 | some (t, a, fl) => Extern.ReflectliteValue.elem t a fl (fl % 32)) := rfl
  rw [hm, Sem.run_bind, hp, Result.andThen_ok]
  show (Extern.ReflectliteValue.elem 81 ⟨x, 0, none⟩ 150 22).run _ _ = _
  have he : (Extern.Rtype.elem? 81).run Tryz.prog W = .ok (some 38) W := by kernel_rfl
  have hk : ∀ q : Addr, (Extern.ReflectliteValue.mk 38 q Extern.ReflectliteValue.flagAddr).run Tryz.prog W = .ok (.agg #[.pointer (some ⟨6, 38, none⟩), .pointer (some q), .int .u64 406]) W := fun q => by kernel_rfl
  unfold Extern.ReflectliteValue.elem
  simp [hl, he, hk]
theorem as_set (y : Nat) (p q : Addr) (T : Value) (W : World) (h : W.cell? ⟨y, 0, none⟩ = some (.pointer (some p))) (hq : W.cell? q = some T) (hf : W.frozen? q = false) : (Extern.ReflectliteValue.set #[.agg #[.pointer (some ⟨6, 38, none⟩), .pointer (some q), .int .u64 406], .agg #[.pointer (some ⟨6, 38, none⟩), .pointer (some ⟨y, 0, none⟩), .int .u64 150]]).run Tryz.prog W = .ok (.tuple #[]) (W.setCell q (.pointer (some p))) := by
  have hp1 : (Extern.ReflectliteValue.parts (.agg #[.pointer (some ⟨6, 38, none⟩), .pointer (some q), .int .u64 406])).run Tryz.prog W = .ok (some (38, q, 406)) W := by kernel_rfl
  have hp2 : (Extern.ReflectliteValue.parts (.agg #[.pointer (some ⟨6, 38, none⟩), .pointer (some ⟨y, 0, none⟩), .int .u64 150])).run Tryz.prog W = .ok (some (38, ⟨y, 0, none⟩, 150)) W := by kernel_rfl
  have hl := as_load 38 ⟨y, 0, none⟩ _ W Tryz.isAgg38 h
  have hd : (Extern.Rtype.directlyAssignable 38 38).run Tryz.prog W = .ok true W := by kernel_rfl
  have hst : (storeVar 38 q (.pointer (some p))).run Tryz.prog W = .ok () (W.setCell q (.pointer (some p))) := by
    have hadd : q.add 0 = q := by unfold Addr.add; split <;> simp_all
    simp [storeVar, Sem.run_bind, Tryz.sizeOf38, Value.cells, storeCells, hadd, run_store _ _ _ _ _ (show (Value.pointer (some p)).oneCell' = true from rfl), hq, hf]
  show (Bind.bind (Extern.ReflectliteValue.parts (.agg #[.pointer (some ⟨6, 38, none⟩), .pointer (some q), .int .u64 406])) _ : Sem Value).run Tryz.prog W = _
  rw [Sem.run_bind, hp1, Result.andThen_ok]
  show (Bind.bind (Extern.ReflectliteValue.parts (.agg #[.pointer (some ⟨6, 38, none⟩), .pointer (some ⟨y, 0, none⟩), .int .u64 150])) _ : Sem Value).run Tryz.prog W = _
  rw [Sem.run_bind, hp2, Result.andThen_ok]
  show (Bind.bind (loadVar 38 ⟨y, 0, none⟩) _ : Sem Value).run Tryz.prog W = _
  rw [Sem.run_bind, hl, Result.andThen_ok]
  show (Bind.bind (Extern.Rtype.directlyAssignable 38 38) _ : Sem Value).run Tryz.prog W = _
  rw [Sem.run_bind, hd, Result.andThen_ok]
  show (Bind.bind (storeVar 38 q (.pointer (some p))) _ : Sem Value).run Tryz.prog W = _
  rw [Sem.run_bind, hst, Result.andThen_ok]
  rfl
theorem as_kind_m (n : Nat) (t : TypeId) (w : World) : (Go.method (n + 1) 91 (.agg #[.pointer (some ⟨6, t, none⟩)]) "Kind").run Tryz.prog w = .ok (230, .pointer (some ⟨6, t, none⟩)) w := by kernel_rfl
theorem as_elem_m (n : Nat) (v : Value) (w : World) : (Go.method (n + 1) 91 v "Elem").run Tryz.prog w = .ok (239, v) w := by kernel_rfl
theorem as_impl_m (n : Nat) (v : Value) (w : World) : (Go.method (n + 1) 91 v "Implements").run Tryz.prog w = .ok (240, v) w := by kernel_rfl
theorem as_assi_m (n : Nat) (v : Value) (w : World) : (Go.method (n + 1) 91 v "AssignableTo").run Tryz.prog w = .ok (237, v) w := by kernel_rfl
def rowKind : Array Value → Sem Value := Extern.ReflectliteType.abiMethod fun t => do pure (.int .u8 (← Extern.Rtype.kind t))
def rowElemT : Array Value → Sem Value := Extern.ReflectliteType.method Extern.ReflectliteType.elem
def rowImpl : Array Value → Sem Value := Extern.ReflectliteType.relation "Implements" Extern.ReflectliteType.implements_
def rowAssi : Array Value → Sem Value := Extern.ReflectliteType.relation "AssignableTo" Extern.ReflectliteType.assignableTo
def rowValueOf : Array Value → Sem Value := fun args => Extern.ReflectliteValue.unpack (args.getD 0 (.tuple #[]))
theorem as_type_r (x : Nat) (W : World) : (rowType #[.agg #[.pointer (some ⟨6, 81, none⟩), .pointer (some ⟨x, 0, none⟩), .int .u64 150]]).run Tryz.prog W = .ok (.iface 91 (.agg #[.pointer (some ⟨6, 81, none⟩)])) W := by kernel_rfl
theorem as_kind_p (W : World) : (rowKind #[.pointer (some ⟨6, 81, none⟩)]).run Tryz.prog W = .ok (.int .u8 22) W := by kernel_rfl
theorem as_kind_q (W : World) : (rowKind #[.pointer (some ⟨6, 38, none⟩)]).run Tryz.prog W = .ok (.int .u8 22) W := by kernel_rfl
theorem as_elem_r (W : World) : (rowElemT #[.agg #[.pointer (some ⟨6, 81, none⟩)]]).run Tryz.prog W = .ok (.iface 91 (.agg #[.pointer (some ⟨6, 38, none⟩)])) W := by kernel_rfl
theorem as_impl_r (W : World) : (rowImpl #[.agg #[.pointer (some ⟨6, 38, none⟩)], .iface 91 (.agg #[.pointer (some ⟨6, 27, none⟩)])]).run Tryz.prog W = .ok (.bool true) W := by kernel_rfl
theorem as_assi_r (W : World) : (rowAssi #[.agg #[.pointer (some ⟨6, 38, none⟩)], .iface 91 (.agg #[.pointer (some ⟨6, 38, none⟩)])]).run Tryz.prog W = .ok (.bool true) W := by kernel_rfl
theorem as_val_q (q : Addr) (W : World) : (rowValueOf #[.iface 81 (.pointer (some q))]).run Tryz.prog W = .ok (.agg #[.pointer (some ⟨6, 81, none⟩), .pointer (some ⟨W.heap.size, 0, none⟩), .int .u64 150]) (W.alloc (.cells #[.pointer (some q)] 81)) := by kernel_rfl
theorem as_val_p (p : Addr) (W : World) : (rowValueOf #[.iface 38 (.pointer (some p))]).run Tryz.prog W = .ok (.agg #[.pointer (some ⟨6, 38, none⟩), .pointer (some ⟨W.heap.size, 0, none⟩), .int .u64 150]) (W.alloc (.cells #[.pointer (some p)] 38)) := by kernel_rfl
theorem as_typeOf (v : Value) (w : World) : (Extern.ReflectliteType.typeOf #[.iface 38 v]).run Tryz.prog w = .ok (.iface 91 (.agg #[.pointer (some ⟨6, 38, none⟩)])) w := by kernel_rfl
end Go.Proofs.YtkgjbamkinfmeaaGreatDoor

/- errors.As of a fault. -/
namespace Go.Proofs.YtkgjbamkinfmeaaGreatDoor
open Go.RowKit Go.Extern.Stop Go.Stop Go.Extern

set_option maxRecDepth 100000 in
set_option maxHeartbeats 1000000 in
theorem as11_fault (p q : Nat) (w : World) (T : Value) (hq : w.cell? ⟨q, 0, none⟩ = some T) (hf : w.frozen? ⟨q, 0, none⟩ = false) (hT : w.cell? ⟨0, 0, none⟩ = some (.iface 91 (.agg #[.pointer (some ⟨6, 27, none⟩)]))) :
    Calls Tryz.prog 29 #[.iface 38 (.pointer (some ⟨p, 0, none⟩)), .iface 81 (.pointer (some ⟨q, 0, none⟩))] w fun e w' => e = .returned (.bool true) ∧ ∃ w1, Below w.heap.size w w1 ∧ w' = w1.setCell ⟨q, 0, none⟩ (.pointer (some ⟨p, 0, none⟩)) := by
  have heq1 : ∀ W : World, (binOp .eql 27 (.iface 38 (.pointer (some ⟨p, 0, none⟩))) .nilIface).run Tryz.prog W = .ok (.bool false) W := fun W => by kernel_rfl
  have heq2 : ∀ W : World, (binOp .eql 20 (.iface 81 (.pointer (some ⟨q, 0, none⟩))) .nilIface).run Tryz.prog W = .ok (.bool false) W := fun W => by kernel_rfl
  have x1 := @run_callFunc_extern Tryz.prog 44 _ rowValueOf Tryz.func44 (by kernel_rfl) (by kernel_rfl) (by kernel_rfl) (by kernel_rfl)
  have x2 := @run_callFunc_extern Tryz.prog 45 _ rowType Tryz.func45 (by kernel_rfl) (by kernel_rfl) (by kernel_rfl) (by kernel_rfl)
  have x3 := @run_callFunc_extern Tryz.prog 230 _ rowKind Tryz.func230 (by kernel_rfl) (by kernel_rfl) (by kernel_rfl) (by kernel_rfl)
  have x4 := @run_callFunc_extern Tryz.prog 46 _ rowIsNil Tryz.func46 (by kernel_rfl) (by kernel_rfl) (by kernel_rfl) (by kernel_rfl)
  have x5 := @run_callFunc_extern Tryz.prog 239 _ rowElemT Tryz.func239 (by kernel_rfl) (by kernel_rfl) (by kernel_rfl) (by kernel_rfl)
  have x6 := @run_callFunc_extern Tryz.prog 240 _ rowImpl Tryz.func240 (by kernel_rfl) (by kernel_rfl) (by kernel_rfl) (by kernel_rfl)
  have x7 := @run_callFunc_extern Tryz.prog 25 _ Extern.ReflectliteType.typeOf Tryz.func25 (by kernel_rfl) (by kernel_rfl) (by kernel_rfl) (by kernel_rfl)
  have x8 := @run_callFunc_extern Tryz.prog 237 _ rowAssi Tryz.func237 (by kernel_rfl) (by kernel_rfl) (by kernel_rfl) (by kernel_rfl)
  have x9 := @run_callFunc_extern Tryz.prog 74 _ rowElemV Tryz.func74 (by kernel_rfl) (by kernel_rfl) (by kernel_rfl) (by kernel_rfl)
  have x10 := @run_callFunc_extern Tryz.prog 75 _ Extern.ReflectliteValue.set Tryz.func75 (by kernel_rfl) (by kernel_rfl) (by kernel_rfl) (by kernel_rfl)
  have m1 := as_kind_m
  have m2 := as_elem_m
  have m3 := as_impl_m
  have m4 := as_assi_m
  have r1 := as_val_q
  have r2 := as_type_r
  have r3 := as_kind_p
  have r4 := as_kind_q
  have r5 := as_elem_r
  have r6 := as_impl_r
  have r7 := as_assi_r
  have r8 := as_val_p
  have r9 := as_typeOf
  have ra := fun (x : Nat) (W : World) (h : W.cell? ⟨x, 0, none⟩ = some (.pointer (some ⟨q, 0, none⟩))) => as_isNil x ⟨q, 0, none⟩ W h
  have rb := fun (x : Nat) (W : World) (h : W.cell? ⟨x, 0, none⟩ = some (.pointer (some ⟨q, 0, none⟩))) => as_elemV x ⟨q, 0, none⟩ W h
  have hgl : 0 < w.heap.size := World.block_lt_of_cell? w ⟨0, 0, none⟩ hT
  have hql : q < w.heap.size := World.block_lt_of_cell? w ⟨q, 0, none⟩ hq
  have hT1 := fun X => (World.cell?_alloc_lt w X ⟨0, 0, none⟩ hgl).trans hT
  have hT2 := fun X Y => (World.cell?_alloc_lt (w.alloc X) Y ⟨0, 0, none⟩ (by show 0 < _; simp <;> omega)).trans (hT1 X)
  go_enter Tryz.func29, Tryz.ntmps29
  go_wp2
  refine wp_loop_rounds 1 ?_
  rw [rounds_succ]
  clear x1 x2 x3 x4 x5 x6
  have x1 := @run_callFunc_extern Tryz.prog 44 _ rowValueOf Tryz.func44 (by kernel_rfl) (by kernel_rfl) (by kernel_rfl) (by kernel_rfl)
  have hc1 : ∀ Y Z, (((w.alloc (.cells #[.pointer (some ⟨q, 0, none⟩)] 81)).alloc Y).alloc Z).cell? ⟨w.heap.size, 0, none⟩ = some (.pointer (some ⟨q, 0, none⟩)) := fun Y Z => by
    rw [World.cell?_alloc_lt _ _ _ (by show w.heap.size < _; simp; omega), World.cell?_alloc_lt _ _ _ (by show w.heap.size < _; simp), ArrAt.cell (arrAt_new w 81 [.pointer (some ⟨q, 0, none⟩)])]; rfl
  have rb := fun Y Z => as_elemV w.heap.size ⟨q, 0, none⟩ _ (hc1 Y Z)
  have rc : ∀ X Y Z, (Extern.ReflectliteValue.set #[.agg #[.pointer (some ⟨6, 38, none⟩), .pointer (some ⟨q, 0, none⟩), .int .u64 406], .agg #[.pointer (some ⟨6, 38, none⟩), .pointer (some ⟨w.heap.size + 1 + 1 + 1, 0, none⟩), .int .u64 150]]).run Tryz.prog ((((w.alloc X).alloc Y).alloc Z).alloc (.cells #[.pointer (some ⟨p, 0, none⟩)] 38)) = .ok (.tuple #[]) (((((w.alloc X).alloc Y).alloc Z).alloc (.cells #[.pointer (some ⟨p, 0, none⟩)] 38)).setCell ⟨q, 0, none⟩ (.pointer (some ⟨p, 0, none⟩))) := fun X Y Z => by
    have hb : Below w.heap.size w ((((w.alloc X).alloc Y).alloc Z).alloc (.cells #[.pointer (some ⟨p, 0, none⟩)] 38)) := ((((Below.refl w.heap.size w).alloc (Nat.le_refl _) X).alloc (by simp) Y).alloc (by simp; omega) Z).alloc (by simp; omega) _
    have hn := ArrAt.cell (arrAt_new (((w.alloc X).alloc Y).alloc Z) 38 [.pointer (some ⟨p, 0, none⟩)]) 0
    have hsz : (((w.alloc X).alloc Y).alloc Z).heap.size = w.heap.size + 1 + 1 + 1 := by simp
    rw [hsz] at hn
    refine as_set _ ⟨p, 0, none⟩ ⟨q, 0, none⟩ T _ hn ((hb.cell (p := ⟨q, 0, none⟩) hql).trans hq) ?_
    rw [← hf]
    simp only [World.frozen?]
    rw [hb.block q hql]
  go_wp2
  go_ret
  exact ⟨rfl, _, ((((Below.refl w.heap.size w).alloc (Nat.le_refl _) _).alloc (by simp) _).alloc (by simp; omega) _).alloc (by simp; omega) _, rfl⟩
end Go.Proofs.YtkgjbamkinfmeaaGreatDoor

/- Faults in memory; errors.As and errors.Is of the program's own error. -/
namespace Go.Proofs.YtkgjbamkinfmeaaGreatDoor
open Go.RowKit Go.Extern.Stop Go.Stop Go.Extern

/-- What errors.As asks: the type of errors lies as laid. -/
def EnvT (w : World) : Prop := w.cell? ⟨0, 0, none⟩ = some (.iface 91 (.agg #[.pointer (some ⟨6, 27, none⟩)]))
theorem EnvT.below {w w' : World} (h : EnvT w) (hb : Below w.heap.size w w') : EnvT w' := (hb.cell (p := ⟨0, 0, none⟩) (World.block_lt_of_cell? w ⟨0, 0, none⟩ h)).trans h
/-- A fault in memory. -/
def FaultAt (w : World) (f : Nat) (q : Nat) (v : Value) : Prop := ArrAt w f 40 [.int .i64 q, v]
def faultV (f : Nat) : Value := .iface 38 (.pointer (some ⟨f, 0, none⟩))
theorem FaultAt.below {w w' : World} {f q : Nat} {v : Value} (h : FaultAt w f q v) (hb : Below w.heap.size w w') : FaultAt w' f q v := ArrAt.next h hb
theorem is11_nil (A : Addr) (w : World) : Calls Tryz.prog 15 #[.nilIface, .iface 224 (.pointer (some A))] w fun e w' => e = .returned (.bool false) ∧ w = w' := by
  have he : ∀ W : World, (binOp .eql 27 .nilIface (.iface 224 (.pointer (some A)))).run Tryz.prog W = .ok (.bool false) W := fun W => by kernel_rfl
  go_enter Tryz.func15, Tryz.ntmps15
  go_wp2
  go_ret
  exact ⟨rfl, rfl⟩
theorem as_assi_e (W : World) : (rowAssi #[.agg #[.pointer (some ⟨6, 224, none⟩)], .iface 91 (.agg #[.pointer (some ⟨6, 38, none⟩)])]).run Tryz.prog W = .ok (.bool false) W := by kernel_rfl
theorem er_en0 (v : Value) (xT : TypeId) (w : World) : (Instr.typeAssert (.iface 224 v) xT 138 true).run Tryz.prog w = .ok (.tuple #[.nilIface, .bool false]) w := run_typeAssert_lacksB Tryz.underlying138 (by kernel_rfl) (by kernel_rfl) v xT w
theorem er_en1 (v : Value) (xT : TypeId) (w : World) : (Instr.typeAssert (.iface 224 v) xT 95 true).run Tryz.prog w = .ok (.tuple #[.nilIface, .bool false]) w := run_typeAssert_lacksB Tryz.underlying95 (by kernel_rfl) (by kernel_rfl) v xT w
theorem er_en2 (v : Value) (xT : TypeId) (w : World) : (Instr.typeAssert (.iface 224 v) xT 97 true).run Tryz.prog w = .ok (.tuple #[.nilIface, .bool false]) w := run_typeAssert_lacksB Tryz.underlying97 (by kernel_rfl) (by kernel_rfl) v xT w

set_option maxRecDepth 100000 in
set_option maxHeartbeats 1000000 in
theorem as11_end (A : Addr) (q : Nat) (w : World) (T : Value) (hq : w.cell? ⟨q, 0, none⟩ = some T) (hT : w.cell? ⟨0, 0, none⟩ = some (.iface 91 (.agg #[.pointer (some ⟨6, 27, none⟩)]))) :
    Calls Tryz.prog 29 #[.iface 224 (.pointer (some A)), .iface 81 (.pointer (some ⟨q, 0, none⟩))] w fun e w' => e = .returned (.bool false) ∧ Below w.heap.size w w' := by
  have heq1 : ∀ W : World, (binOp .eql 27 (.iface 224 (.pointer (some A))) .nilIface).run Tryz.prog W = .ok (.bool false) W := fun W => by kernel_rfl
  have heq2 : ∀ W : World, (binOp .eql 20 (.iface 81 (.pointer (some ⟨q, 0, none⟩))) .nilIface).run Tryz.prog W = .ok (.bool false) W := fun W => by kernel_rfl
  have x1 := @run_callFunc_extern Tryz.prog 44 _ rowValueOf Tryz.func44 (by kernel_rfl) (by kernel_rfl) (by kernel_rfl) (by kernel_rfl)
  have x2 := @run_callFunc_extern Tryz.prog 45 _ rowType Tryz.func45 (by kernel_rfl) (by kernel_rfl) (by kernel_rfl) (by kernel_rfl)
  have x3 := @run_callFunc_extern Tryz.prog 230 _ rowKind Tryz.func230 (by kernel_rfl) (by kernel_rfl) (by kernel_rfl) (by kernel_rfl)
  have x4 := @run_callFunc_extern Tryz.prog 46 _ rowIsNil Tryz.func46 (by kernel_rfl) (by kernel_rfl) (by kernel_rfl) (by kernel_rfl)
  have x5 := @run_callFunc_extern Tryz.prog 239 _ rowElemT Tryz.func239 (by kernel_rfl) (by kernel_rfl) (by kernel_rfl) (by kernel_rfl)
  have x6 := @run_callFunc_extern Tryz.prog 240 _ rowImpl Tryz.func240 (by kernel_rfl) (by kernel_rfl) (by kernel_rfl) (by kernel_rfl)
  have x7 := @run_callFunc_extern Tryz.prog 25 _ Extern.ReflectliteType.typeOf Tryz.func25 (by kernel_rfl) (by kernel_rfl) (by kernel_rfl) (by kernel_rfl)
  have x8 := @run_callFunc_extern Tryz.prog 237 _ rowAssi Tryz.func237 (by kernel_rfl) (by kernel_rfl) (by kernel_rfl) (by kernel_rfl)
  have m1 := as_kind_m
  have m2 := as_elem_m
  have m3 := as_impl_m
  have m4 := as_assi_m
  have r1 := as_val_q
  have r2 := as_type_r
  have r3 := as_kind_p
  have r4 := as_kind_q
  have r5 := as_elem_r
  have r6 := as_impl_r
  have r7 := as_assi_e
  have r9 := er_typeOf_e
  have n0 := er_en0
  have n1 := er_en1
  have n2 := er_en2
  have ra := fun (x : Nat) (W : World) (h : W.cell? ⟨x, 0, none⟩ = some (.pointer (some ⟨q, 0, none⟩))) => as_isNil x ⟨q, 0, none⟩ W h
  have hgl : 0 < w.heap.size := World.block_lt_of_cell? w ⟨0, 0, none⟩ hT
  have hql : q < w.heap.size := World.block_lt_of_cell? w ⟨q, 0, none⟩ hq
  have hT1 := fun X => (World.cell?_alloc_lt w X ⟨0, 0, none⟩ hgl).trans hT
  have hT2 := fun X Y => (World.cell?_alloc_lt (w.alloc X) Y ⟨0, 0, none⟩ (by show 0 < _; simp <;> omega)).trans (hT1 X)
  go_enter Tryz.func29, Tryz.ntmps29
  go_wp2
  refine wp_loop_rounds 1 ?_
  rw [rounds_succ]
  clear x1 x2 x3 x4 x5 x6
  go_wp2
  go_ret
  exact ⟨rfl, ((Below.refl w.heap.size w).alloc (Nat.le_refl _) _).alloc (by simp) _ |>.alloc (by simp; omega) _⟩
end Go.Proofs.YtkgjbamkinfmeaaGreatDoor

/- Slices of strings: read, made, compared with what they hold. -/
namespace Go.Proofs.YtkgjbamkinfmeaaGreatDoor
open Go.RowKit

/-- A text as a value. -/
def strV (l : List UInt8) : Value := .string ⟨l.toArray⟩
theorem info_str : (Tryz.prog.info? 9).map (fun i => (i.zero, i.size, i.bytes)) = some (some (.string ⟨#[]⟩), 1, 16) := by kernel_rfl
/-- A slice of strings that the call itself made. -/
def Strs (w : World) (B : Nat) (v : Value) (xs : List (List UInt8)) : Prop := w.ownsRow B 9 1 v xs.length (xs.map strV)
/-- A slice of strings that can be read: wherever it lies. -/
def StrSl (w : World) (v : Value) (xs : List (List UInt8)) : Prop :=
  (xs = [] ∧ ∃ a c, v = .slice a 0 c) ∨ ∃ b off c, xs.length ≤ c ∧ v = .slice (some ⟨b, off, none⟩) xs.length c ∧ ∀ j, j < xs.length → w.cell? ⟨b, off + j, none⟩ = some (strV (xs.getD j []))

theorem strSl_own {w : World} {B : Nat} {E : TypeId} {v : Value} {xs : List (List UInt8)} (h : w.ownsRow B E 1 v xs.length (xs.map strV)) : StrSl w v xs := by
  rcases h.2 with ⟨hv, hn⟩ | ⟨g, cap, cur, hv, _, _, hcap, _⟩
  · exact Or.inl ⟨List.length_eq_zero_iff.1 hn, _, _, hv⟩
  · refine Or.inr ⟨g, 0, cap, hcap, hv, fun j hj => ?_⟩
    have := h.cells (g := g) (by rw [hv]; rfl) j (strV (xs.getD j [])) (by simp [hj, List.getD])
    have hadd : (⟨g, 0, none⟩ : Addr).add j = ⟨g, 0 + j, none⟩ := by unfold Addr.add; split <;> simp_all
    rw [hadd] at this; exact this
theorem StrSl.drawn {w w' : World} {v : Value} {xs : List (List UInt8)} (h : StrSl w v xs) (hd : Drawn w w') : StrSl w' v xs := by
  obtain ⟨n, rfl⟩ := hd; exact h
theorem StrSl.below {w w' : World} {v : Value} {xs : List (List UInt8)} {B : Nat} (h : StrSl w v xs) (hb : Below B w w') (hv : SlBelow B v) : StrSl w' v xs := by
  rcases h with h | ⟨b, off, c, hc, rfl, h⟩
  · exact Or.inl h
  · exact Or.inr ⟨b, off, c, hc, rfl, fun j hj => (hb.cell (p := ⟨b, off + j, none⟩) (hv ⟨b, off, none⟩ _ _ rfl (by omega))).trans (h j hj)⟩
theorem StrSl.nil {w : World} {v : Value} {xs : List (List UInt8)} (h : StrSl w v xs) (hx : xs = []) : ∃ a c, v = .slice a 0 c := by
  rcases h with ⟨_, h⟩ | ⟨b, off, c, _, h, _⟩
  · exact h
  · subst hx; exact ⟨_, _, h⟩
theorem StrSl.some {w : World} {v : Value} {xs : List (List UInt8)} (h : StrSl w v xs) (hx : xs ≠ []) :
    ∃ b off c, v = .slice (some ⟨b, off, none⟩) xs.length c ∧ ∀ j, j < xs.length → w.cell? ⟨b, off + j, none⟩ = some (strV (xs.getD j [])) := by
  rcases h with ⟨h, _⟩ | ⟨b, off, c, _, h⟩
  · exact absurd h hx
  · exact ⟨b, off, c, h⟩
theorem StrSl.form {w : World} {v : Value} {xs : List (List UInt8)} (h : StrSl w v xs) : ∃ a c, v = .slice a xs.length c := by
  rcases h with ⟨rfl, a, c, h⟩ | ⟨b, off, c, _, h, _⟩
  · exact ⟨a, c, h⟩
  · exact ⟨_, c, h⟩
theorem strs_mk {w : World} {B : Nat} {v : Value} {xs : List (List UInt8)} {x : List UInt8} (h : w.ownsRow B 9 1 v (xs.length + 1) (xs.map strV ++ [strV x])) : Strs w B v (xs ++ [x]) := by
  unfold Strs; rw [List.length_append, List.map_append]; exact h
theorem strs_app {w : World} {B : Nat} {v : Value} {xs ys : List (List UInt8)} (h : w.ownsRow B 9 1 v (xs.length + ys.length) (xs.map strV ++ ys.map strV)) : Strs w B v (xs ++ ys) := by
  unfold Strs; rw [List.length_append, List.map_append]; exact h
/-- A slice's length, in a slot. -/
def slLen : Value → Nat
  | .slice _ n _ => n
  | _ => 0
theorem slLen_own {w : World} {B : Nat} {E : TypeId} {z : Nat} {v : Value} {n : Nat} {xs : List Value} (h : w.ownsRow B E z v n xs) : slLen v = n := by
  rcases h.2 with ⟨rfl, rfl⟩ | ⟨g, cap, cur, rfl, _⟩ <;> rfl
/-- The form of what the call itself made. -/
theorem own_form {w : World} {B : Nat} {E : TypeId} {z : Nat} {v : Value} {n : Nat} {xs : List Value} (h : w.ownsRow B E z v n xs) : ∃ a c, v = .slice a n c := by
  rcases h.2 with ⟨rfl, rfl⟩ | ⟨g, cap, cur, rfl, _⟩
  · exact ⟨_, _, rfl⟩
  · exact ⟨_, _, rfl⟩
theorem own_cap {w : World} {B : Nat} {E : TypeId} {z : Nat} {v : Value} {n : Nat} {xs : List Value} (h : w.ownsRow B E z v n xs) : ∃ a c, v = .slice a n c ∧ n ≤ c := by
  rcases h.2 with ⟨rfl, rfl⟩ | ⟨g, cap, cur, rfl, _, _, h, _⟩
  · exact ⟨_, _, rfl, Nat.le_refl _⟩
  · exact ⟨_, _, rfl, h⟩
/-- A part of a slice of integers. -/
theorem intSl_sub {k : IntKind} {w : World} {b off c : Nat} {xs : List Int} (h : IntSl k w (.slice (some ⟨b, off, none⟩) xs.length c) xs) (h0 : xs ≠ []) (i m c' : Nat) (hi : i ≤ m) (hm : m ≤ xs.length) :
    IntSl k w (.slice (some ⟨b, off + i, none⟩) (m - i) c') ((xs.drop i).take (m - i)) := by
  have hl : ((xs.drop i).take (m - i)).length = m - i := by simp; omega
  refine Or.inr ⟨b, off + i, c', by rw [hl], fun j hj => ?_⟩
  obtain ⟨b', o', c'', e, hc⟩ := h.some h0
  injection e with e e'' e'
  injection e with e
  injection e with e1 e2
  subst e1 e2
  rw [hl] at hj
  have := hc (i + j) (by omega)
  rw [show off + i + j = off + (i + j) from by omega, this]
  simp [List.getD, hj]
/-- A part of a slice of strings. -/
theorem strSl_sub {w : World} {b off c : Nat} {xs : List (List UInt8)} (h : StrSl w (.slice (some ⟨b, off, none⟩) xs.length c) xs) (h0 : xs ≠ []) (i m c' : Nat) (hi : i ≤ m) (hm : m ≤ xs.length) (hc' : m - i ≤ c') :
    StrSl w (.slice (some ⟨b, off + i, none⟩) (m - i) c') ((xs.drop i).take (m - i)) := by
  have hl : ((xs.drop i).take (m - i)).length = m - i := by simp; omega
  refine Or.inr ⟨b, off + i, c', by rw [hl]; exact hc', by rw [hl], fun j hj => ?_⟩
  obtain ⟨b', o', c'', e, hc⟩ := h.some h0
  injection e with e e'' e'
  injection e with e
  injection e with e1 e2
  subst e1 e2
  rw [hl] at hj
  have := hc (i + j) (by omega)
  rw [show off + i + j = off + (i + j) from by omega, this]
  simp [List.getD, hj]
/-- A slice of strings, just built. -/
theorem strSl_new (w : World) (E : TypeId) (xs : List (List UInt8)) (n : Nat) (hn : n = xs.length) : StrSl (w.alloc (.cells (xs.map strV).toArray E)) (.slice (some ⟨w.heap.size, 0, none⟩) n n) xs := by
  subst hn
  refine Or.inr ⟨_, 0, _, Nat.le_refl _, rfl, fun j hj => ?_⟩
  rw [cell_of_row _ _ _ _ _ _ (heap_alloc_new w _)]
  simp [List.getD, hj]
/-- A slice of integers, just built. -/
theorem intSl_new (w : World) (k : IntKind) (E : TypeId) (xs : List Int) (n : Nat) (hn : n = xs.length) : IntSl k (w.alloc (.cells (xs.map (Value.int k)).toArray E)) (.slice (some ⟨w.heap.size, 0, none⟩) n n) xs := by
  subst hn
  refine Or.inr ⟨_, 0, _, rfl, fun j hj => ?_⟩
  rw [cell_of_row _ _ _ _ _ _ (heap_alloc_new w _)]
  simp [List.getD, hj]
theorem slBelow_new (w : World) (E : TypeId) (vs : Array Value) (n c : Nat) : SlBelow (w.alloc (.cells vs E)).heap.size (.slice (some ⟨w.heap.size, 0, none⟩) n c) := by
  intro a' n' c' e _
  injection e with e
  injection e with e
  subst e
  simp
/-- The capacity has room for what is in it. -/
theorem StrSl.cap {w : World} {a : Option Addr} {n c : Nat} {xs : List (List UInt8)} (h : StrSl w (.slice a n c) xs) : n = xs.length ∧ (xs ≠ [] → xs.length ≤ c) := by
  rcases h with ⟨rfl, a', c', e⟩ | ⟨b, off, c', hc, e, _⟩
  · injection e with _ e _; exact ⟨e, fun h => absurd rfl h⟩
  · injection e with _ e e2; exact ⟨e, fun _ => by omega⟩
theorem ownsRow_mono {w : World} {B B' : Nat} {E : TypeId} {z : Nat} {v : Value} {n : Nat} {xs : List Value} (h : w.ownsRow B E z v n xs) (hb : B' ≤ B) : w.ownsRow B' E z v n xs := by
  rcases h.2 with h2 | ⟨g, cap, cur, h2, h3, h4⟩
  · exact ⟨h.1, Or.inl h2⟩
  · exact ⟨h.1, Or.inr ⟨g, cap, cur, h2, Nat.le_trans hb h3, h4⟩⟩
/-- Bytes as the numbers that a slice of them holds. -/
def nums (l : List UInt8) : List Int := l.map fun c => (c.toNat : Int)
theorem nums_app (a b : List UInt8) : nums (a ++ b) = nums a ++ nums b := by unfold nums; simp
theorem nums_len (a : List UInt8) : (nums a).length = a.length := by unfold nums; simp
theorem Strs.sl {w : World} {B : Nat} {v : Value} {xs : List (List UInt8)} (h : Strs w B v xs) : StrSl w v xs := strSl_own h
theorem Strs.low {w : World} {B : Nat} {v : Value} {xs : List (List UInt8)} (h : Strs w B v xs) : SlBelow w.heap.size v := slBelow_own h
end Go.Proofs.YtkgjbamkinfmeaaGreatDoor

/- Slices of numbers that can be read, over calls; slices of int that the call itself made; the bounds of a kind. -/
namespace Go.Proofs.YtkgjbamkinfmeaaGreatDoor
open Go.RowKit

theorem bd_u64 {x : Int} (hx : (Lit.int .u64 x).wf = true) : 0 ≤ x ∧ x ≤ 18446744073709551615 := by
  simp [Lit.wf, IntKind.min, IntKind.max, IntKind.bits, IntKind.signed] at hx
  omega
theorem bd_u64s {xs : List Int} (hx : ∀ x ∈ xs, (Lit.int .u64 x).wf = true) : ∀ x ∈ xs, 0 ≤ x ∧ x ≤ 18446744073709551615 := fun x hm => bd_u64 (hx x hm)
theorem bd_u8 {n : Int} (h : (Lit.int .u8 n).wf = true) : 0 ≤ n ∧ n ≤ 255 := by
  simp [Lit.wf, IntKind.min, IntKind.max, IntKind.bits, IntKind.signed] at h
  omega
theorem bd_i64 {n : Int} (h : (Lit.int .i64 n).wf = true) : -9223372036854775808 ≤ n ∧ n ≤ 9223372036854775807 := by
  simp [Lit.wf, IntKind.min, IntKind.max, IntKind.bits, IntKind.signed] at h
  omega

/-- A slice of numbers that can be read, over calls. -/
structure RdSl (k : IntKind) (w : World) (v : Value) (xs : List Int) : Prop where
  sl : IntSl k w v xs
  low : SlBelow w.heap.size v
theorem RdSl.next {k : IntKind} {w w' : World} {v : Value} {xs : List Int} (h : RdSl k w v xs) (hb : Below w.heap.size w w') : RdSl k w' v xs := ⟨h.sl.below hb h.low, h.low.mono hb.size⟩
theorem info_int : (Tryz.prog.info? 3).map (fun i => (i.zero, i.size, i.bytes)) = some (some (.int .i64 0), 1, 8) := by kernel_rfl
/-- A slice of int that the call itself made. -/
def Ints (w : World) (B : Nat) (v : Value) (xs : List Int) : Prop := w.ownsRow B 3 1 v xs.length (xs.map (Value.int .i64))
theorem Ints.rd {w : World} {B : Nat} {v : Value} {xs : List Int} (h : Ints w B v xs) : RdSl .i64 w v xs := ⟨intSl_own h, slBelow_own h⟩
theorem ints_one {w : World} {B : Nat} {v : Value} {xs : List Int} {y : Int} (h : w.ownsRow B 3 1 v (xs.length + 1) (xs.map (Value.int .i64) ++ [.int .i64 y])) : Ints w B v (xs ++ [y]) := by
  unfold Ints; rw [List.length_append, List.map_append]; exact h
end Go.Proofs.YtkgjbamkinfmeaaGreatDoor
