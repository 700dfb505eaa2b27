/- errors.Is: of a number of package api, of a fault that wraps one, of the program's own error. -/
import Derived.Test.YtfmlgfeldlnlgaaGreatDoorBR01
import Derived.LaidEql
import Derived.LaidEqlPtr
import Derived.Stop.Asserts
import Derived.RowKitTokens
import Derived.Outline
import Derived.Test.YtfmlgfeldlnlgaaGreatDoorBR02
namespace Go.Proofs.YtfmlgfeldlnlgaaGreatDoor
open Go.RowKit Go.Extern.Stop Go.Stop Go.Extern

def rowComp : Array Value → Sem Value := Extern.ReflectliteType.method fun t => do Go.Extern.Rtype.noPackHeld "Comparable" t; pure (.bool (← typeInfo t).comparable)
theorem er_typeOf_c (v : Value) (w : World) : (Extern.ReflectliteType.typeOf #[.iface 29 v]).run Tryz.prog w = .ok (.iface 115 (.agg #[.pointer (some ⟨4, 29, none⟩)])) w := by kernel_rfl
theorem er_comp_c (w : World) : (rowComp #[.agg #[.pointer (some ⟨4, 29, none⟩)]]).run Tryz.prog w = .ok (.bool true) w := by kernel_rfl
theorem er_method (n : Nat) (v : Value) (w : World) : (Go.method (n + 1) 115 v "Comparable").run Tryz.prog w = .ok (173, v) w := by kernel_rfl
theorem er_no1 (v : Value) (xT : TypeId) (w : World) : (Instr.typeAssert (.iface 29 v) xT 117 true).run Tryz.prog w = .ok (.tuple #[.nilIface, .bool false]) w := run_typeAssert_lacksB Tryz.underlying117 (by kernel_rfl) (by kernel_rfl) v xT w
theorem er_no2 (v : Value) (xT : TypeId) (w : World) : (Instr.typeAssert (.iface 29 v) xT 120 true).run Tryz.prog w = .ok (.tuple #[.nilIface, .bool false]) w := run_typeAssert_lacksB Tryz.underlying120 (by kernel_rfl) (by kernel_rfl) v xT w
theorem er_no3 (v : Value) (xT : TypeId) (w : World) : (Instr.typeAssert (.iface 29 v) xT 122 true).run Tryz.prog w = .ok (.tuple #[.nilIface, .bool false]) w := run_typeAssert_lacksB Tryz.underlying122 (by kernel_rfl) (by kernel_rfl) v xT w
theorem er_fo1 (v : Value) (xT : TypeId) (w : World) : (Instr.typeAssert (.iface 50 v) xT 117 true).run Tryz.prog w = .ok (.tuple #[.nilIface, .bool false]) w := run_typeAssert_lacksB Tryz.underlying117 (by kernel_rfl) (by kernel_rfl) v xT w
theorem er_fo2 (v : Value) (xT : TypeId) (w : World) : (Instr.typeAssert (.iface 50 v) xT 120 true).run Tryz.prog w = .ok (.tuple #[.iface 50 v, .bool true]) w := run_typeAssert_hasB Tryz.underlying120 (by kernel_rfl) v xT w
theorem er_unwrap (n : Nat) (v : Value) (w : World) : (Go.method (n + 1) 50 v "Unwrap").run Tryz.prog w = .ok (166, v) w := by kernel_rfl
theorem er_eql_cc (x c : Int) (w : World) : (binOp .eql 26 (.iface 29 (.int .i64 x)) (.iface 29 (.int .i64 c))).run Tryz.prog w = .ok (.bool (x == c)) w := by
  have hcmp : (Tryz.prog.info? 29).map (·.comparable) = some true := by kernel_rfl
  obtain ⟨i, hi, hc⟩ := Option.map_eq_some_iff.1 hcmp
  have h : ∀ d : Nat, (Op.equalIn (d + 2) 26 (.iface 29 (.int .i64 x)) (.iface 29 (.int .i64 c))).run Tryz.prog w = .ok (x == c) w := fun d => by
    simp [Op.equalIn, run_underlying Tryz.underlying26, run_underlying Tryz.underlying29, typeInfo, hi, hc]
  show (do let b ← Op.equal _ _ _; pure (Value.bool b) : Sem Value).run _ _ = _
  simp [Op.equal, Op.maxDepth, h 9998]
theorem er_eql_fc (p : Value) (c : Int) (w : World) : (binOp .eql 26 (.iface 50 p) (.iface 29 (.int .i64 c))).run Tryz.prog w = .ok (.bool false) w := run_eql_iface_types _ _ _ _ Tryz.underlying26 (by decide) w

set_option maxRecDepth 100000 in
/-- errors.Is of two numbers. -/
theorem is11_code (x c : Int) (w : World) : Calls Tryz.prog 23 #[.iface 29 (.int .i64 x), .iface 29 (.int .i64 c)] w fun e w' => e = .returned (.bool (x == c)) ∧ w = w' := by
  have h8 := @run_callFunc_extern Tryz.prog 39 _ Extern.ReflectliteType.typeOf Tryz.func39 (by kernel_rfl) (by kernel_rfl) (by kernel_rfl) (by kernel_rfl)
  have h32 := @run_callFunc_extern Tryz.prog 173 _ rowComp Tryz.func173 (by kernel_rfl) (by kernel_rfl) (by kernel_rfl) (by kernel_rfl)
  have tT := er_typeOf_c
  have cT := er_comp_c
  have mR := er_method
  have heq := er_eql_cc x c
  have n1 := er_no1
  have n2 := er_no2
  have n3 := er_no3
  cases hb : (x == c)
  all_goals
    rw [hb] at heq
    replace hb := Lib.hid hb
    go_enter Tryz.func23, Tryz.ntmps23
    go_wp2
    refine wp_loop_rounds 1 ?_
    rw [rounds_succ]
    go_wp2
    go_ret
    exact ⟨rfl, rfl⟩
set_option maxRecDepth 100000 in
/-- errors.Is of a fault with a number: it is the one that it wraps. -/
theorem is11_fault (p : Nat) (x c : Int) (w : World) (h1 : w.cell? ⟨p, 1, none⟩ = some (.iface 29 (.int .i64 x))) : Calls Tryz.prog 23 #[.iface 50 (.pointer (some ⟨p, 0, none⟩)), .iface 29 (.int .i64 c)] w fun e w' => e = .returned (.bool (x == c)) ∧ w = w' := by
  have h8 := @run_callFunc_extern Tryz.prog 39 _ Extern.ReflectliteType.typeOf Tryz.func39 (by kernel_rfl) (by kernel_rfl) (by kernel_rfl) (by kernel_rfl)
  have h32 := @run_callFunc_extern Tryz.prog 173 _ rowComp Tryz.func173 (by kernel_rfl) (by kernel_rfl) (by kernel_rfl) (by kernel_rfl)
  have tT := er_typeOf_c
  have cT := er_comp_c
  have mR := er_method
  have heq := er_eql_cc x c
  have hef := er_eql_fc
  have n1 := er_no1
  have n2 := er_no2
  have n3 := er_no3
  have f1 := er_fo1
  have f2 := er_fo2
  have mU := er_unwrap
  cases hb : (x == c)
  all_goals
    rw [hb] at heq
    replace hb := Lib.hid hb
    go_enter Tryz.func23, Tryz.ntmps23
    go_wp2
    refine wp_loop_rounds 2 ?_
    rw [rounds_succ]
    go_wp2
    rw [rounds_succ]
    go_wp2
    go_ret
    exact ⟨rfl, rfl⟩
end Go.Proofs.YtfmlgfeldlnlgaaGreatDoor

/- errors.As: of nil, and of a fault. -/
namespace Go.Proofs.YtfmlgfeldlnlgaaGreatDoor
open Go.RowKit Go.Extern.Stop Go.Stop Go.Extern

theorem as11_nil (v : Value) (w : World) : Calls Tryz.prog 24 #[.nilIface, v] w fun e w' => e = .returned (.bool false) ∧ w = w' := by
  go_enter Tryz.func24, Tryz.ntmps24
  go_wp2
  go_ret
  exact ⟨rfl, rfl⟩

def rowType : Array Value → Sem Value := Extern.ReflectliteValue.methodAny (Extern.ReflectliteValue.valueError "reflectlite.Value.Type" 0) fun t _ _ _ => Extern.ReflectliteType.toType t
def rowIsNil : Array Value → Sem Value := Extern.ReflectliteValue.method (Extern.ReflectliteValue.valueError "reflectlite.Value.IsNil" 0) Extern.ReflectliteValue.isNil
def rowElemV : Array Value → Sem Value := Extern.ReflectliteValue.method (Extern.ReflectliteValue.valueError "reflectlite.Value.Elem" 0) Extern.ReflectliteValue.elem
theorem as_load (t : TypeId) (a : Addr) (v : Value) (W : World) (ht : ∀ W, (isAgg t).run Tryz.prog W = .ok false W) (h : W.cell? a = some v) : (loadVar t a).run Tryz.prog W = .ok v W := by
  simp [loadVar, Sem.run_bind, ht, h]
theorem as_isNil (x : Nat) (q : Addr) (W : World) (h : W.cell? ⟨x, 0, none⟩ = some (.pointer (some q))) : (rowIsNil #[.agg #[.pointer (some ⟨4, 59, none⟩), .pointer (some ⟨x, 0, none⟩), .int .u64 150]]).run Tryz.prog W = .ok (.bool false) W := by
  have hp : (Extern.ReflectliteValue.parts (.agg #[.pointer (some ⟨4, 59, none⟩), .pointer (some ⟨x, 0, none⟩), .int .u64 150])).run Tryz.prog W = .ok (some (59, ⟨x, 0, none⟩, 150)) W := by kernel_rfl
  have hl := as_load 59 ⟨x, 0, none⟩ _ W Tryz.isAgg59 h
  have hm : rowIsNil #[.agg #[.pointer (some ⟨4, 59, none⟩), .pointer (some ⟨x, 0, none⟩), .int .u64 150]] = (do match ← Extern.ReflectliteValue.parts (.agg #[.pointer (some ⟨4, 59, none⟩), .pointer (some ⟨x, 0, none⟩), .int .u64 150]) with | none => Extern.ReflectliteValue.valueError "reflectlite.Value.IsNil" 0 | some (t, a, fl) => Extern.ReflectliteValue.isNil t a fl (fl % 32)) := rfl
  rw [hm, Sem.run_bind, hp, Result.andThen_ok]
  show (Extern.ReflectliteValue.isNil 59 ⟨x, 0, none⟩ 150 22).run _ _ = _
  have hc : ([18, 19, 20, 21, 22, 23, 26] : List Nat).contains 22 = true := by decide
  unfold Extern.ReflectliteValue.isNil
  rw [hc]
  simp [hl]
theorem as_elemV (x : Nat) (q : Addr) (W : World) (h : W.cell? ⟨x, 0, none⟩ = some (.pointer (some q))) : (rowElemV #[.agg #[.pointer (some ⟨4, 59, none⟩), .pointer (some ⟨x, 0, none⟩), .int .u64 150]]).run Tryz.prog W = .ok (.agg #[.pointer (some ⟨4, 50, none⟩), .pointer (some q), .int .u64 406]) W := by
  have hp : (Extern.ReflectliteValue.parts (.agg #[.pointer (some ⟨4, 59, none⟩), .pointer (some ⟨x, 0, none⟩), .int .u64 150])).run Tryz.prog W = .ok (some (59, ⟨x, 0, none⟩, 150)) W := by kernel_rfl
  have hl := as_load 59 ⟨x, 0, none⟩ _ W Tryz.isAgg59 h
  have hm : rowElemV #[.agg #[.pointer (some ⟨4, 59, none⟩), .pointer (some ⟨x, 0, none⟩), .int .u64 150]] = (do match ← Extern.ReflectliteValue.parts (.agg #[.pointer (some ⟨4, 59, none⟩), .pointer (some ⟨x, 0, none⟩), .int .u64 150]) with | none => Extern.ReflectliteValue.valueError "reflectlite.Value.Elem" 0 | some (t, a, fl) => Extern.ReflectliteValue.elem t a fl (fl % 32)) := rfl
  rw [hm, Sem.run_bind, hp, Result.andThen_ok]
  show (Extern.ReflectliteValue.elem 59 ⟨x, 0, none⟩ 150 22).run _ _ = _
  have he : (Extern.Rtype.elem? 59).run Tryz.prog W = .ok (some 50) W := by kernel_rfl
  have hk : ∀ q : Addr, (Extern.ReflectliteValue.mk 50 q Extern.ReflectliteValue.flagAddr).run Tryz.prog W = .ok (.agg #[.pointer (some ⟨4, 50, none⟩), .pointer (some q), .int .u64 406]) W := fun q => by kernel_rfl
  unfold Extern.ReflectliteValue.elem
  simp [hl, he, hk]
theorem as_set (y : Nat) (p q : Addr) (T : Value) (W : World) (h : W.cell? ⟨y, 0, none⟩ = some (.pointer (some p))) (hq : W.cell? q = some T) (hf : W.frozen? q = false) : (Extern.ReflectliteValue.set #[.agg #[.pointer (some ⟨4, 50, none⟩), .pointer (some q), .int .u64 406], .agg #[.pointer (some ⟨4, 50, none⟩), .pointer (some ⟨y, 0, none⟩), .int .u64 150]]).run Tryz.prog W = .ok (.tuple #[]) (W.setCell q (.pointer (some p))) := by
  have hp1 : (Extern.ReflectliteValue.parts (.agg #[.pointer (some ⟨4, 50, none⟩), .pointer (some q), .int .u64 406])).run Tryz.prog W = .ok (some (50, q, 406)) W := by kernel_rfl
  have hp2 : (Extern.ReflectliteValue.parts (.agg #[.pointer (some ⟨4, 50, none⟩), .pointer (some ⟨y, 0, none⟩), .int .u64 150])).run Tryz.prog W = .ok (some (50, ⟨y, 0, none⟩, 150)) W := by kernel_rfl
  have hl := as_load 50 ⟨y, 0, none⟩ _ W Tryz.isAgg50 h
  have hd : (Extern.Rtype.directlyAssignable 50 50).run Tryz.prog W = .ok true W := by kernel_rfl
  have hst : (storeVar 50 q (.pointer (some p))).run Tryz.prog W = .ok () (W.setCell q (.pointer (some p))) := by
    have hadd : q.add 0 = q := by unfold Addr.add; split <;> simp_all
    simp [storeVar, Sem.run_bind, Tryz.sizeOf50, Value.cells, storeCells, hadd, run_store _ _ _ _ _ (show (Value.pointer (some p)).oneCell' = true from rfl), hq, hf]
  show (Bind.bind (Extern.ReflectliteValue.parts (.agg #[.pointer (some ⟨4, 50, none⟩), .pointer (some q), .int .u64 406])) _ : Sem Value).run Tryz.prog W = _
  rw [Sem.run_bind, hp1, Result.andThen_ok]
  show (Bind.bind (Extern.ReflectliteValue.parts (.agg #[.pointer (some ⟨4, 50, none⟩), .pointer (some ⟨y, 0, none⟩), .int .u64 150])) _ : Sem Value).run Tryz.prog W = _
  rw [Sem.run_bind, hp2, Result.andThen_ok]
  show (Bind.bind (loadVar 50 ⟨y, 0, none⟩) _ : Sem Value).run Tryz.prog W = _
  rw [Sem.run_bind, hl, Result.andThen_ok]
  show (Bind.bind (Extern.Rtype.directlyAssignable 50 50) _ : Sem Value).run Tryz.prog W = _
  rw [Sem.run_bind, hd, Result.andThen_ok]
  show (Bind.bind (storeVar 50 q (.pointer (some p))) _ : Sem Value).run Tryz.prog W = _
  rw [Sem.run_bind, hst, Result.andThen_ok]
  rfl
theorem as_kind_m (n : Nat) (t : TypeId) (w : World) : (Go.method (n + 1) 115 (.agg #[.pointer (some ⟨4, t, none⟩)]) "Kind").run Tryz.prog w = .ok (161, .pointer (some ⟨4, t, none⟩)) w := by kernel_rfl
theorem as_elem_m (n : Nat) (v : Value) (w : World) : (Go.method (n + 1) 115 v "Elem").run Tryz.prog w = .ok (174, v) w := by kernel_rfl
theorem as_impl_m (n : Nat) (v : Value) (w : World) : (Go.method (n + 1) 115 v "Implements").run Tryz.prog w = .ok (175, v) w := by kernel_rfl
theorem as_assi_m (n : Nat) (v : Value) (w : World) : (Go.method (n + 1) 115 v "AssignableTo").run Tryz.prog w = .ok (172, v) w := by kernel_rfl
def rowKind : Array Value → Sem Value := Extern.ReflectliteType.abiMethod fun t => do pure (.int .u8 (← Extern.Rtype.kind t))
def rowElemT : Array Value → Sem Value := Extern.ReflectliteType.method Extern.ReflectliteType.elem
def rowImpl : Array Value → Sem Value := Extern.ReflectliteType.relation "Implements" Extern.ReflectliteType.implements_
def rowAssi : Array Value → Sem Value := Extern.ReflectliteType.relation "AssignableTo" Extern.ReflectliteType.assignableTo
def rowValueOf : Array Value → Sem Value := fun args => Extern.ReflectliteValue.unpack (args.getD 0 (.tuple #[]))
theorem as_type_r (x : Nat) (W : World) : (rowType #[.agg #[.pointer (some ⟨4, 59, none⟩), .pointer (some ⟨x, 0, none⟩), .int .u64 150]]).run Tryz.prog W = .ok (.iface 115 (.agg #[.pointer (some ⟨4, 59, none⟩)])) W := by kernel_rfl
theorem as_kind_p (W : World) : (rowKind #[.pointer (some ⟨4, 59, none⟩)]).run Tryz.prog W = .ok (.int .u8 22) W := by kernel_rfl
theorem as_kind_q (W : World) : (rowKind #[.pointer (some ⟨4, 50, none⟩)]).run Tryz.prog W = .ok (.int .u8 22) W := by kernel_rfl
theorem as_elem_r (W : World) : (rowElemT #[.agg #[.pointer (some ⟨4, 59, none⟩)]]).run Tryz.prog W = .ok (.iface 115 (.agg #[.pointer (some ⟨4, 50, none⟩)])) W := by kernel_rfl
theorem as_impl_r (W : World) : (rowImpl #[.agg #[.pointer (some ⟨4, 50, none⟩)], .iface 115 (.agg #[.pointer (some ⟨4, 26, none⟩)])]).run Tryz.prog W = .ok (.bool true) W := by kernel_rfl
theorem as_assi_r (W : World) : (rowAssi #[.agg #[.pointer (some ⟨4, 50, none⟩)], .iface 115 (.agg #[.pointer (some ⟨4, 50, none⟩)])]).run Tryz.prog W = .ok (.bool true) W := by kernel_rfl
theorem as_val_q (q : Addr) (W : World) : (rowValueOf #[.iface 59 (.pointer (some q))]).run Tryz.prog W = .ok (.agg #[.pointer (some ⟨4, 59, none⟩), .pointer (some ⟨W.heap.size, 0, none⟩), .int .u64 150]) (W.alloc (.cells #[.pointer (some q)] 59)) := by kernel_rfl
theorem as_val_p (p : Addr) (W : World) : (rowValueOf #[.iface 50 (.pointer (some p))]).run Tryz.prog W = .ok (.agg #[.pointer (some ⟨4, 50, none⟩), .pointer (some ⟨W.heap.size, 0, none⟩), .int .u64 150]) (W.alloc (.cells #[.pointer (some p)] 50)) := by kernel_rfl
theorem as_typeOf (v : Value) (w : World) : (Extern.ReflectliteType.typeOf #[.iface 50 v]).run Tryz.prog w = .ok (.iface 115 (.agg #[.pointer (some ⟨4, 50, none⟩)])) w := by kernel_rfl
end Go.Proofs.YtfmlgfeldlnlgaaGreatDoor

/- errors.As of a fault. -/
namespace Go.Proofs.YtfmlgfeldlnlgaaGreatDoor
open Go.RowKit Go.Extern.Stop Go.Stop Go.Extern

set_option maxRecDepth 100000 in
set_option maxHeartbeats 1000000 in
theorem as11_fault (p q : Nat) (w : World) (T : Value) (hq : w.cell? ⟨q, 0, none⟩ = some T) (hf : w.frozen? ⟨q, 0, none⟩ = false) (hT : w.cell? ⟨0, 0, none⟩ = some (.iface 115 (.agg #[.pointer (some ⟨4, 26, none⟩)]))) :
    Calls Tryz.prog 24 #[.iface 50 (.pointer (some ⟨p, 0, none⟩)), .iface 59 (.pointer (some ⟨q, 0, none⟩))] w fun e w' => e = .returned (.bool true) ∧ ∃ w1, Below w.heap.size w w1 ∧ w' = w1.setCell ⟨q, 0, none⟩ (.pointer (some ⟨p, 0, none⟩)) := by
  have heq1 : ∀ W : World, (binOp .eql 26 (.iface 50 (.pointer (some ⟨p, 0, none⟩))) .nilIface).run Tryz.prog W = .ok (.bool false) W := fun W => by kernel_rfl
  have heq2 : ∀ W : World, (binOp .eql 20 (.iface 59 (.pointer (some ⟨q, 0, none⟩))) .nilIface).run Tryz.prog W = .ok (.bool false) W := fun W => by kernel_rfl
  have x1 := @run_callFunc_extern Tryz.prog 41 _ rowValueOf Tryz.func41 (by kernel_rfl) (by kernel_rfl) (by kernel_rfl) (by kernel_rfl)
  have x2 := @run_callFunc_extern Tryz.prog 42 _ rowType Tryz.func42 (by kernel_rfl) (by kernel_rfl) (by kernel_rfl) (by kernel_rfl)
  have x3 := @run_callFunc_extern Tryz.prog 161 _ rowKind Tryz.func161 (by kernel_rfl) (by kernel_rfl) (by kernel_rfl) (by kernel_rfl)
  have x4 := @run_callFunc_extern Tryz.prog 43 _ rowIsNil Tryz.func43 (by kernel_rfl) (by kernel_rfl) (by kernel_rfl) (by kernel_rfl)
  have x5 := @run_callFunc_extern Tryz.prog 174 _ rowElemT Tryz.func174 (by kernel_rfl) (by kernel_rfl) (by kernel_rfl) (by kernel_rfl)
  have x6 := @run_callFunc_extern Tryz.prog 175 _ rowImpl Tryz.func175 (by kernel_rfl) (by kernel_rfl) (by kernel_rfl) (by kernel_rfl)
  have x7 := @run_callFunc_extern Tryz.prog 39 _ Extern.ReflectliteType.typeOf Tryz.func39 (by kernel_rfl) (by kernel_rfl) (by kernel_rfl) (by kernel_rfl)
  have x8 := @run_callFunc_extern Tryz.prog 172 _ rowAssi Tryz.func172 (by kernel_rfl) (by kernel_rfl) (by kernel_rfl) (by kernel_rfl)
  have x9 := @run_callFunc_extern Tryz.prog 74 _ rowElemV Tryz.func74 (by kernel_rfl) (by kernel_rfl) (by kernel_rfl) (by kernel_rfl)
  have x10 := @run_callFunc_extern Tryz.prog 75 _ Extern.ReflectliteValue.set Tryz.func75 (by kernel_rfl) (by kernel_rfl) (by kernel_rfl) (by kernel_rfl)
  have m1 := as_kind_m
  have m2 := as_elem_m
  have m3 := as_impl_m
  have m4 := as_assi_m
  have r1 := as_val_q
  have r2 := as_type_r
  have r3 := as_kind_p
  have r4 := as_kind_q
  have r5 := as_elem_r
  have r6 := as_impl_r
  have r7 := as_assi_r
  have r8 := as_val_p
  have r9 := as_typeOf
  have ra := fun (x : Nat) (W : World) (h : W.cell? ⟨x, 0, none⟩ = some (.pointer (some ⟨q, 0, none⟩))) => as_isNil x ⟨q, 0, none⟩ W h
  have rb := fun (x : Nat) (W : World) (h : W.cell? ⟨x, 0, none⟩ = some (.pointer (some ⟨q, 0, none⟩))) => as_elemV x ⟨q, 0, none⟩ W h
  have hgl : 0 < w.heap.size := World.block_lt_of_cell? w ⟨0, 0, none⟩ hT
  have hql : q < w.heap.size := World.block_lt_of_cell? w ⟨q, 0, none⟩ hq
  have hT1 := fun X => (World.cell?_alloc_lt w X ⟨0, 0, none⟩ hgl).trans hT
  have hT2 := fun X Y => (World.cell?_alloc_lt (w.alloc X) Y ⟨0, 0, none⟩ (by show 0 < _; simp <;> omega)).trans (hT1 X)
  go_enter Tryz.func24, Tryz.ntmps24
  go_wp2
  refine wp_loop_rounds 1 ?_
  rw [rounds_succ]
  clear x1 x2 x3 x4 x5 x6
  have x1 := @run_callFunc_extern Tryz.prog 41 _ rowValueOf Tryz.func41 (by kernel_rfl) (by kernel_rfl) (by kernel_rfl) (by kernel_rfl)
  have hc1 : ∀ Y Z, (((w.alloc (.cells #[.pointer (some ⟨q, 0, none⟩)] 59)).alloc Y).alloc Z).cell? ⟨w.heap.size, 0, none⟩ = some (.pointer (some ⟨q, 0, none⟩)) := fun Y Z => by
    rw [World.cell?_alloc_lt _ _ _ (by show w.heap.size < _; simp; omega), World.cell?_alloc_lt _ _ _ (by show w.heap.size < _; simp), ArrAt.cell (arrAt_new w 59 [.pointer (some ⟨q, 0, none⟩)])]; rfl
  have rb := fun Y Z => as_elemV w.heap.size ⟨q, 0, none⟩ _ (hc1 Y Z)
  have rc : ∀ X Y Z, (Extern.ReflectliteValue.set #[.agg #[.pointer (some ⟨4, 50, none⟩), .pointer (some ⟨q, 0, none⟩), .int .u64 406], .agg #[.pointer (some ⟨4, 50, none⟩), .pointer (some ⟨w.heap.size + 1 + 1 + 1, 0, none⟩), .int .u64 150]]).run Tryz.prog ((((w.alloc X).alloc Y).alloc Z).alloc (.cells #[.pointer (some ⟨p, 0, none⟩)] 50)) = .ok (.tuple #[]) (((((w.alloc X).alloc Y).alloc Z).alloc (.cells #[.pointer (some ⟨p, 0, none⟩)] 50)).setCell ⟨q, 0, none⟩ (.pointer (some ⟨p, 0, none⟩))) := fun X Y Z => by
    have hb : Below w.heap.size w ((((w.alloc X).alloc Y).alloc Z).alloc (.cells #[.pointer (some ⟨p, 0, none⟩)] 50)) := ((((Below.refl w.heap.size w).alloc (Nat.le_refl _) X).alloc (by simp) Y).alloc (by simp; omega) Z).alloc (by simp; omega) _
    have hn := ArrAt.cell (arrAt_new (((w.alloc X).alloc Y).alloc Z) 50 [.pointer (some ⟨p, 0, none⟩)]) 0
    have hsz : (((w.alloc X).alloc Y).alloc Z).heap.size = w.heap.size + 1 + 1 + 1 := by simp
    rw [hsz] at hn
    refine as_set _ ⟨p, 0, none⟩ ⟨q, 0, none⟩ T _ hn ((hb.cell (p := ⟨q, 0, none⟩) hql).trans hq) ?_
    rw [← hf]
    simp only [World.frozen?]
    rw [hb.block q hql]
  go_wp2
  go_ret
  exact ⟨rfl, _, ((((Below.refl w.heap.size w).alloc (Nat.le_refl _) _).alloc (by simp) _).alloc (by simp; omega) _).alloc (by simp; omega) _, rfl⟩
end Go.Proofs.YtfmlgfeldlnlgaaGreatDoor
