/- errors.As: of nil, and of a fault. -/
import Derived.Test.YtodocdbnflmgnaaDoorEr
import Derived.Test.YtodocdbnflmgnaaDoorTn
namespace Go.Proofs.YtodocdbnflmgnaaDoor
open Go.RowKit Go.Extern.Stop Go.Stop Go.Extern

theorem as11_nil (v : Value) (w : World) : Calls Tryd.prog 22 #[.nilIface, v] w fun e w' => e = .returned (.bool false) ∧ w = w' := by
  go_enter Tryd.func22, Tryd.ntmps22
  go_wp2
  go_ret
  exact ⟨rfl, rfl⟩

def rowType : Array Value → Sem Value := Extern.ReflectliteValue.methodAny (Extern.ReflectliteValue.valueError "reflectlite.Value.Type" 0) fun t _ _ _ => Extern.ReflectliteType.toType t
def rowIsNil : Array Value → Sem Value := Extern.ReflectliteValue.method (Extern.ReflectliteValue.valueError "reflectlite.Value.IsNil" 0) Extern.ReflectliteValue.isNil
def rowElemV : Array Value → Sem Value := Extern.ReflectliteValue.method (Extern.ReflectliteValue.valueError "reflectlite.Value.Elem" 0) Extern.ReflectliteValue.elem
theorem as_load (t : TypeId) (a : Addr) (v : Value) (W : World) (ht : ∀ W, (isAgg t).run Tryd.prog W = .ok false W) (h : W.cell? a = some v) : (loadVar t a).run Tryd.prog W = .ok v W := by
  simp [loadVar, Sem.run_bind, ht, h]
theorem as_isNil (x : Nat) (q : Addr) (W : World) (h : W.cell? ⟨x, 0, none⟩ = some (.pointer (some q))) : (rowIsNil #[.agg #[.pointer (some ⟨2, 57, none⟩), .pointer (some ⟨x, 0, none⟩), .int .u64 150]]).run Tryd.prog W = .ok (.bool false) W := by
  have hp : (Extern.ReflectliteValue.parts (.agg #[.pointer (some ⟨2, 57, none⟩), .pointer (some ⟨x, 0, none⟩), .int .u64 150])).run Tryd.prog W = .ok (some (57, ⟨x, 0, none⟩, 150)) W := by kernel_rfl
  have hl := as_load 57 ⟨x, 0, none⟩ _ W Tryd.isAgg57 h
  have hm : rowIsNil #[.agg #[.pointer (some ⟨2, 57, none⟩), .pointer (some ⟨x, 0, none⟩), .int .u64 150]] = (do match ← Extern.ReflectliteValue.parts (.agg #[.pointer (some ⟨2, 57, none⟩), .pointer (some ⟨x, 0, none⟩), .int .u64 150]) with | none => Extern.ReflectliteValue.valueError "reflectlite.Value.IsNil" 0 | some (t, a, fl) => Extern.ReflectliteValue.isNil t a fl (fl % 32)) := rfl
  rw [hm, Sem.run_bind, hp, Result.andThen_ok]
  show (Extern.ReflectliteValue.isNil 57 ⟨x, 0, none⟩ 150 22).run _ _ = _
  have hc : ([18, 19, 20, 21, 22, 23, 26] : List Nat).contains 22 = true := by decide
  unfold Extern.ReflectliteValue.isNil
  rw [hc]
  simp [hl]
theorem as_elemV (x : Nat) (q : Addr) (W : World) (h : W.cell? ⟨x, 0, none⟩ = some (.pointer (some q))) : (rowElemV #[.agg #[.pointer (some ⟨2, 57, none⟩), .pointer (some ⟨x, 0, none⟩), .int .u64 150]]).run Tryd.prog W = .ok (.agg #[.pointer (some ⟨2, 55, none⟩), .pointer (some q), .int .u64 406]) W := by
  have hp : (Extern.ReflectliteValue.parts (.agg #[.pointer (some ⟨2, 57, none⟩), .pointer (some ⟨x, 0, none⟩), .int .u64 150])).run Tryd.prog W = .ok (some (57, ⟨x, 0, none⟩, 150)) W := by kernel_rfl
  have hl := as_load 57 ⟨x, 0, none⟩ _ W Tryd.isAgg57 h
  have hm : rowElemV #[.agg #[.pointer (some ⟨2, 57, none⟩), .pointer (some ⟨x, 0, none⟩), .int .u64 150]] = (do match ← Extern.ReflectliteValue.parts (.agg #[.pointer (some ⟨2, 57, none⟩), .pointer (some ⟨x, 0, none⟩), .int .u64 150]) with | none => Extern.ReflectliteValue.valueError "reflectlite.Value.Elem" 0 | some (t, a, fl) => Extern.ReflectliteValue.elem t a fl (fl % 32)) := rfl
  rw [hm, Sem.run_bind, hp, Result.andThen_ok]
  show (Extern.ReflectliteValue.elem 57 ⟨x, 0, none⟩ 150 22).run _ _ = _
  have he : (Extern.Rtype.elem? 57).run Tryd.prog W = .ok (some 55) W := by kernel_rfl
  have hk : ∀ q : Addr, (Extern.ReflectliteValue.mk 55 q Extern.ReflectliteValue.flagAddr).run Tryd.prog W = .ok (.agg #[.pointer (some ⟨2, 55, none⟩), .pointer (some q), .int .u64 406]) W := fun q => by kernel_rfl
  unfold Extern.ReflectliteValue.elem
  simp [hl, he, hk]
theorem as_set (y : Nat) (p q : Addr) (T : Value) (W : World) (h : W.cell? ⟨y, 0, none⟩ = some (.pointer (some p))) (hq : W.cell? q = some T) (hf : W.frozen? q = false) : (Extern.ReflectliteValue.set #[.agg #[.pointer (some ⟨2, 55, none⟩), .pointer (some q), .int .u64 406], .agg #[.pointer (some ⟨2, 55, none⟩), .pointer (some ⟨y, 0, none⟩), .int .u64 150]]).run Tryd.prog W = .ok (.tuple #[]) (W.setCell q (.pointer (some p))) := by
  have hp1 : (Extern.ReflectliteValue.parts (.agg #[.pointer (some ⟨2, 55, none⟩), .pointer (some q), .int .u64 406])).run Tryd.prog W = .ok (some (55, q, 406)) W := by kernel_rfl
  have hp2 : (Extern.ReflectliteValue.parts (.agg #[.pointer (some ⟨2, 55, none⟩), .pointer (some ⟨y, 0, none⟩), .int .u64 150])).run Tryd.prog W = .ok (some (55, ⟨y, 0, none⟩, 150)) W := by kernel_rfl
  have hl := as_load 55 ⟨y, 0, none⟩ _ W Tryd.isAgg55 h
  have hd : (Extern.Rtype.directlyAssignable 55 55).run Tryd.prog W = .ok true W := by kernel_rfl
  have hst : (storeVar 55 q (.pointer (some p))).run Tryd.prog W = .ok () (W.setCell q (.pointer (some p))) := by
    have hadd : q.add 0 = q := by unfold Addr.add; split <;> simp_all
    simp [storeVar, Sem.run_bind, Tryd.sizeOf55, Value.cells, storeCells, hadd, run_store _ _ _ _ _ (show (Value.pointer (some p)).oneCell' = true from rfl), hq, hf]
  show (Bind.bind (Extern.ReflectliteValue.parts (.agg #[.pointer (some ⟨2, 55, none⟩), .pointer (some q), .int .u64 406])) _ : Sem Value).run Tryd.prog W = _
  rw [Sem.run_bind, hp1, Result.andThen_ok]
  show (Bind.bind (Extern.ReflectliteValue.parts (.agg #[.pointer (some ⟨2, 55, none⟩), .pointer (some ⟨y, 0, none⟩), .int .u64 150])) _ : Sem Value).run Tryd.prog W = _
  rw [Sem.run_bind, hp2, Result.andThen_ok]
  show (Bind.bind (loadVar 55 ⟨y, 0, none⟩) _ : Sem Value).run Tryd.prog W = _
  rw [Sem.run_bind, hl, Result.andThen_ok]
  show (Bind.bind (Extern.Rtype.directlyAssignable 55 55) _ : Sem Value).run Tryd.prog W = _
  rw [Sem.run_bind, hd, Result.andThen_ok]
  show (Bind.bind (storeVar 55 q (.pointer (some p))) _ : Sem Value).run Tryd.prog W = _
  rw [Sem.run_bind, hst, Result.andThen_ok]
  rfl
theorem as_kind_m (n : Nat) (t : TypeId) (w : World) : (Go.method (n + 1) 83 (.agg #[.pointer (some ⟨2, t, none⟩)]) "Kind").run Tryd.prog w = .ok (52, .pointer (some ⟨2, t, none⟩)) w := by kernel_rfl
theorem as_elem_m (n : Nat) (v : Value) (w : World) : (Go.method (n + 1) 83 v "Elem").run Tryd.prog w = .ok (64, v) w := by kernel_rfl
theorem as_impl_m (n : Nat) (v : Value) (w : World) : (Go.method (n + 1) 83 v "Implements").run Tryd.prog w = .ok (65, v) w := by kernel_rfl
theorem as_assi_m (n : Nat) (v : Value) (w : World) : (Go.method (n + 1) 83 v "AssignableTo").run Tryd.prog w = .ok (62, v) w := by kernel_rfl
def rowKind : Array Value → Sem Value := Extern.ReflectliteType.abiMethod fun t => do pure (.int .u8 (← Extern.Rtype.kind t))
def rowElemT : Array Value → Sem Value := Extern.ReflectliteType.method Extern.ReflectliteType.elem
def rowImpl : Array Value → Sem Value := Extern.ReflectliteType.relation "Implements" Extern.ReflectliteType.implements_
def rowAssi : Array Value → Sem Value := Extern.ReflectliteType.relation "AssignableTo" Extern.ReflectliteType.assignableTo
def rowValueOf : Array Value → Sem Value := fun args => Extern.ReflectliteValue.unpack (args.getD 0 (.tuple #[]))
theorem as_type_r (x : Nat) (W : World) : (rowType #[.agg #[.pointer (some ⟨2, 57, none⟩), .pointer (some ⟨x, 0, none⟩), .int .u64 150]]).run Tryd.prog W = .ok (.iface 83 (.agg #[.pointer (some ⟨2, 57, none⟩)])) W := by kernel_rfl
theorem as_kind_p (W : World) : (rowKind #[.pointer (some ⟨2, 57, none⟩)]).run Tryd.prog W = .ok (.int .u8 22) W := by kernel_rfl
theorem as_kind_q (W : World) : (rowKind #[.pointer (some ⟨2, 55, none⟩)]).run Tryd.prog W = .ok (.int .u8 22) W := by kernel_rfl
theorem as_elem_r (W : World) : (rowElemT #[.agg #[.pointer (some ⟨2, 57, none⟩)]]).run Tryd.prog W = .ok (.iface 83 (.agg #[.pointer (some ⟨2, 55, none⟩)])) W := by kernel_rfl
theorem as_impl_r (W : World) : (rowImpl #[.agg #[.pointer (some ⟨2, 55, none⟩)], .iface 83 (.agg #[.pointer (some ⟨2, 26, none⟩)])]).run Tryd.prog W = .ok (.bool true) W := by kernel_rfl
theorem as_assi_r (W : World) : (rowAssi #[.agg #[.pointer (some ⟨2, 55, none⟩)], .iface 83 (.agg #[.pointer (some ⟨2, 55, none⟩)])]).run Tryd.prog W = .ok (.bool true) W := by kernel_rfl
theorem as_val_q (q : Addr) (W : World) : (rowValueOf #[.iface 57 (.pointer (some q))]).run Tryd.prog W = .ok (.agg #[.pointer (some ⟨2, 57, none⟩), .pointer (some ⟨W.heap.size, 0, none⟩), .int .u64 150]) (W.alloc (.cells #[.pointer (some q)] 57)) := by kernel_rfl
theorem as_val_p (p : Addr) (W : World) : (rowValueOf #[.iface 55 (.pointer (some p))]).run Tryd.prog W = .ok (.agg #[.pointer (some ⟨2, 55, none⟩), .pointer (some ⟨W.heap.size, 0, none⟩), .int .u64 150]) (W.alloc (.cells #[.pointer (some p)] 55)) := by kernel_rfl
theorem as_typeOf (v : Value) (w : World) : (Extern.ReflectliteType.typeOf #[.iface 55 v]).run Tryd.prog w = .ok (.iface 83 (.agg #[.pointer (some ⟨2, 55, none⟩)])) w := by kernel_rfl
end Go.Proofs.YtodocdbnflmgnaaDoor

/- errors.As of a fault. -/
namespace Go.Proofs.YtodocdbnflmgnaaDoor
open Go.RowKit Go.Extern.Stop Go.Stop Go.Extern

set_option maxRecDepth 100000 in
set_option maxHeartbeats 1000000 in
theorem as11_fault (p q : Nat) (w : World) (T : Value) (hq : w.cell? ⟨q, 0, none⟩ = some T) (hf : w.frozen? ⟨q, 0, none⟩ = false) (hT : w.cell? ⟨1, 0, none⟩ = some (.iface 83 (.agg #[.pointer (some ⟨2, 26, none⟩)]))) :
    Calls Tryd.prog 22 #[.iface 55 (.pointer (some ⟨p, 0, none⟩)), .iface 57 (.pointer (some ⟨q, 0, none⟩))] w fun e w' => e = .returned (.bool true) ∧ ∃ w1, Below w.heap.size w w1 ∧ w' = w1.setCell ⟨q, 0, none⟩ (.pointer (some ⟨p, 0, none⟩)) := by
  have heq1 : ∀ W : World, (binOp .eql 26 (.iface 55 (.pointer (some ⟨p, 0, none⟩))) .nilIface).run Tryd.prog W = .ok (.bool false) W := fun W => by kernel_rfl
  have heq2 : ∀ W : World, (binOp .eql 20 (.iface 57 (.pointer (some ⟨q, 0, none⟩))) .nilIface).run Tryd.prog W = .ok (.bool false) W := fun W => by kernel_rfl
  have x1 := @run_callFunc_extern Tryd.prog 30 _ rowValueOf Tryd.func30 (by kernel_rfl) (by kernel_rfl) (by kernel_rfl) (by kernel_rfl)
  have x2 := @run_callFunc_extern Tryd.prog 31 _ rowType Tryd.func31 (by kernel_rfl) (by kernel_rfl) (by kernel_rfl) (by kernel_rfl)
  have x3 := @run_callFunc_extern Tryd.prog 52 _ rowKind Tryd.func52 (by kernel_rfl) (by kernel_rfl) (by kernel_rfl) (by kernel_rfl)
  have x4 := @run_callFunc_extern Tryd.prog 32 _ rowIsNil Tryd.func32 (by kernel_rfl) (by kernel_rfl) (by kernel_rfl) (by kernel_rfl)
  have x5 := @run_callFunc_extern Tryd.prog 64 _ rowElemT Tryd.func64 (by kernel_rfl) (by kernel_rfl) (by kernel_rfl) (by kernel_rfl)
  have x6 := @run_callFunc_extern Tryd.prog 65 _ rowImpl Tryd.func65 (by kernel_rfl) (by kernel_rfl) (by kernel_rfl) (by kernel_rfl)
  have x7 := @run_callFunc_extern Tryd.prog 34 _ Extern.ReflectliteType.typeOf Tryd.func34 (by kernel_rfl) (by kernel_rfl) (by kernel_rfl) (by kernel_rfl)
  have x8 := @run_callFunc_extern Tryd.prog 62 _ rowAssi Tryd.func62 (by kernel_rfl) (by kernel_rfl) (by kernel_rfl) (by kernel_rfl)
  have x9 := @run_callFunc_extern Tryd.prog 36 _ rowElemV Tryd.func36 (by kernel_rfl) (by kernel_rfl) (by kernel_rfl) (by kernel_rfl)
  have x10 := @run_callFunc_extern Tryd.prog 37 _ Extern.ReflectliteValue.set Tryd.func37 (by kernel_rfl) (by kernel_rfl) (by kernel_rfl) (by kernel_rfl)
  have m1 := as_kind_m
  have m2 := as_elem_m
  have m3 := as_impl_m
  have m4 := as_assi_m
  have r1 := as_val_q
  have r2 := as_type_r
  have r3 := as_kind_p
  have r4 := as_kind_q
  have r5 := as_elem_r
  have r6 := as_impl_r
  have r7 := as_assi_r
  have r8 := as_val_p
  have r9 := as_typeOf
  have ra := fun (x : Nat) (W : World) (h : W.cell? ⟨x, 0, none⟩ = some (.pointer (some ⟨q, 0, none⟩))) => as_isNil x ⟨q, 0, none⟩ W h
  have rb := fun (x : Nat) (W : World) (h : W.cell? ⟨x, 0, none⟩ = some (.pointer (some ⟨q, 0, none⟩))) => as_elemV x ⟨q, 0, none⟩ W h
  have hgl : 1 < w.heap.size := World.block_lt_of_cell? w ⟨1, 0, none⟩ hT
  have hql : q < w.heap.size := World.block_lt_of_cell? w ⟨q, 0, none⟩ hq
  have hT1 := fun X => (World.cell?_alloc_lt w X ⟨1, 0, none⟩ hgl).trans hT
  have hT2 := fun X Y => (World.cell?_alloc_lt (w.alloc X) Y ⟨1, 0, none⟩ (by show 1 < _; simp; omega)).trans (hT1 X)
  go_enter Tryd.func22, Tryd.ntmps22
  go_wp2
  refine wp_loop_rounds 1 ?_
  rw [rounds_succ]
  clear x1 x2 x3 x4 x5 x6
  have x1 := @run_callFunc_extern Tryd.prog 30 _ rowValueOf Tryd.func30 (by kernel_rfl) (by kernel_rfl) (by kernel_rfl) (by kernel_rfl)
  have hc1 : ∀ Y Z, (((w.alloc (.cells #[.pointer (some ⟨q, 0, none⟩)] 57)).alloc Y).alloc Z).cell? ⟨w.heap.size, 0, none⟩ = some (.pointer (some ⟨q, 0, none⟩)) := fun Y Z => by
    rw [World.cell?_alloc_lt _ _ _ (by show w.heap.size < _; simp; omega), World.cell?_alloc_lt _ _ _ (by show w.heap.size < _; simp), ArrAt.cell (arrAt_new w 57 [.pointer (some ⟨q, 0, none⟩)])]; rfl
  have rb := fun Y Z => as_elemV w.heap.size ⟨q, 0, none⟩ _ (hc1 Y Z)
  have rc : ∀ X Y Z, (Extern.ReflectliteValue.set #[.agg #[.pointer (some ⟨2, 55, none⟩), .pointer (some ⟨q, 0, none⟩), .int .u64 406], .agg #[.pointer (some ⟨2, 55, none⟩), .pointer (some ⟨w.heap.size + 1 + 1 + 1, 0, none⟩), .int .u64 150]]).run Tryd.prog ((((w.alloc X).alloc Y).alloc Z).alloc (.cells #[.pointer (some ⟨p, 0, none⟩)] 55)) = .ok (.tuple #[]) (((((w.alloc X).alloc Y).alloc Z).alloc (.cells #[.pointer (some ⟨p, 0, none⟩)] 55)).setCell ⟨q, 0, none⟩ (.pointer (some ⟨p, 0, none⟩))) := fun X Y Z => by
    have hb : Below w.heap.size w ((((w.alloc X).alloc Y).alloc Z).alloc (.cells #[.pointer (some ⟨p, 0, none⟩)] 55)) := ((((Below.refl w.heap.size w).alloc (Nat.le_refl _) X).alloc (by simp) Y).alloc (by simp; omega) Z).alloc (by simp; omega) _
    have hn := ArrAt.cell (arrAt_new (((w.alloc X).alloc Y).alloc Z) 55 [.pointer (some ⟨p, 0, none⟩)]) 0
    have hsz : (((w.alloc X).alloc Y).alloc Z).heap.size = w.heap.size + 1 + 1 + 1 := by simp
    rw [hsz] at hn
    refine as_set _ ⟨p, 0, none⟩ ⟨q, 0, none⟩ T _ hn ((hb.cell (p := ⟨q, 0, none⟩) hql).trans hq) ?_
    rw [← hf]
    simp only [World.frozen?]
    rw [hb.block q hql]
  go_wp2
  go_ret
  exact ⟨rfl, _, ((((Below.refl w.heap.size w).alloc (Nat.le_refl _) _).alloc (by simp) _).alloc (by simp; omega) _).alloc (by simp; omega) _, rfl⟩
end Go.Proofs.YtodocdbnflmgnaaDoor
