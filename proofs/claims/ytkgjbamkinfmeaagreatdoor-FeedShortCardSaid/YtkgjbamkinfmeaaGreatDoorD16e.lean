/- Layer 16: errors.As of a number that is wrapped so many times. -/
import Derived.Test.YtkgjbamkinfmeaaGreatDoorD16a
namespace Go.Proofs.YtkgjbamkinfmeaaGreatDoor
open Go.RowKit Go.Extern.Stop Go.Stop Go.Extern

theorem ac_isNil (x : Nat) (q : Addr) (W : World) (h : W.cell? ⟨x, 0, none⟩ = some (.pointer (some q))) : (rowIsNil #[.agg #[.pointer (some ⟨6, 65, none⟩), .pointer (some ⟨x, 0, none⟩), .int .u64 150]]).run Tryz.prog W = .ok (.bool false) W := by
  have hp : (Extern.ReflectliteValue.parts (.agg #[.pointer (some ⟨6, 65, none⟩), .pointer (some ⟨x, 0, none⟩), .int .u64 150])).run Tryz.prog W = .ok (some (65, ⟨x, 0, none⟩, 150)) W := by kernel_rfl
  have hl := as_load 65 ⟨x, 0, none⟩ _ W Tryz.isAgg65 h
  have hm : rowIsNil #[.agg #[.pointer (some ⟨6, 65, none⟩), .pointer (some ⟨x, 0, none⟩), .int .u64 150]] = (do match ← Extern.ReflectliteValue.parts (.agg #[.pointer (some ⟨6, 65, none⟩), .pointer (some ⟨x, 0, none⟩), .int .u64 150]) with | none => Extern.ReflectliteValue.valueError "reflectlite.Value.IsNil" 0 | some (t, a, fl) => Extern.ReflectliteValue.isNil t a fl (fl % 32)) := rfl
  rw [hm, Sem.run_bind, hp, Result.andThen_ok]
  show (Extern.ReflectliteValue.isNil 65 ⟨x, 0, none⟩ 150 22).run _ _ = _
  have hc : ([18, 19, 20, 21, 22, 23, 26] : List Nat).contains 22 = true := by decide
  unfold Extern.ReflectliteValue.isNil
  rw [hc]
  simp [hl]
theorem ac_elemV (x : Nat) (q : Addr) (W : World) (h : W.cell? ⟨x, 0, none⟩ = some (.pointer (some q))) : (rowElemV #[.agg #[.pointer (some ⟨6, 65, none⟩), .pointer (some ⟨x, 0, none⟩), .int .u64 150]]).run Tryz.prog W = .ok (.agg #[.pointer (some ⟨6, 30, none⟩), .pointer (some q), .int .u64 386]) W := by
  have hp : (Extern.ReflectliteValue.parts (.agg #[.pointer (some ⟨6, 65, none⟩), .pointer (some ⟨x, 0, none⟩), .int .u64 150])).run Tryz.prog W = .ok (some (65, ⟨x, 0, none⟩, 150)) W := by kernel_rfl
  have hl := as_load 65 ⟨x, 0, none⟩ _ W Tryz.isAgg65 h
  have hm : rowElemV #[.agg #[.pointer (some ⟨6, 65, none⟩), .pointer (some ⟨x, 0, none⟩), .int .u64 150]] = (do match ← Extern.ReflectliteValue.parts (.agg #[.pointer (some ⟨6, 65, none⟩), .pointer (some ⟨x, 0, none⟩), .int .u64 150]) with | none => Extern.ReflectliteValue.valueError "reflectlite.Value.Elem" 0 | some (t, a, fl) => Extern.ReflectliteValue.elem t a fl (fl % 32)) := rfl
  rw [hm, Sem.run_bind, hp, Result.andThen_ok]
  show (Extern.ReflectliteValue.elem 65 ⟨x, 0, none⟩ 150 22).run _ _ = _
  have he : (Extern.Rtype.elem? 65).run Tryz.prog W = .ok (some 30) W := by kernel_rfl
  have hk : ∀ q : Addr, (Extern.ReflectliteValue.mk 30 q Extern.ReflectliteValue.flagAddr).run Tryz.prog W = .ok (.agg #[.pointer (some ⟨6, 30, none⟩), .pointer (some q), .int .u64 386]) W := fun q => by kernel_rfl
  unfold Extern.ReflectliteValue.elem
  simp [hl, he, hk]
theorem ac_set (y : Nat) (x : Int) (q : Addr) (T : Value) (W : World) (h : W.cell? ⟨y, 0, none⟩ = some (.int .i64 x)) (hq : W.cell? q = some T) (hf : W.frozen? q = false) : (Extern.ReflectliteValue.set #[.agg #[.pointer (some ⟨6, 30, none⟩), .pointer (some q), .int .u64 386], .agg #[.pointer (some ⟨6, 30, none⟩), .pointer (some ⟨y, 0, none⟩), .int .u64 130]]).run Tryz.prog W = .ok (.tuple #[]) (W.setCell q (.int .i64 x)) := by
  have hp1 : (Extern.ReflectliteValue.parts (.agg #[.pointer (some ⟨6, 30, none⟩), .pointer (some q), .int .u64 386])).run Tryz.prog W = .ok (some (30, q, 386)) W := by kernel_rfl
  have hp2 : (Extern.ReflectliteValue.parts (.agg #[.pointer (some ⟨6, 30, none⟩), .pointer (some ⟨y, 0, none⟩), .int .u64 130])).run Tryz.prog W = .ok (some (30, ⟨y, 0, none⟩, 130)) W := by kernel_rfl
  have hl := as_load 30 ⟨y, 0, none⟩ _ W Tryz.isAgg30 h
  have hd : (Extern.Rtype.directlyAssignable 30 30).run Tryz.prog W = .ok true W := by kernel_rfl
  have hst : (storeVar 30 q (.int .i64 x)).run Tryz.prog W = .ok () (W.setCell q (.int .i64 x)) := by
    have hadd : q.add 0 = q := by unfold Addr.add; split <;> simp_all
    simp [storeVar, Sem.run_bind, Tryz.sizeOf30, Value.cells, storeCells, hadd, run_store _ _ _ _ _ (show (Value.int .i64 x).oneCell' = true from rfl), hq, hf]
  show (Bind.bind (Extern.ReflectliteValue.parts (.agg #[.pointer (some ⟨6, 30, none⟩), .pointer (some q), .int .u64 386])) _ : Sem Value).run Tryz.prog W = _
  rw [Sem.run_bind, hp1, Result.andThen_ok]
  show (Bind.bind (Extern.ReflectliteValue.parts (.agg #[.pointer (some ⟨6, 30, none⟩), .pointer (some ⟨y, 0, none⟩), .int .u64 130])) _ : Sem Value).run Tryz.prog W = _
  rw [Sem.run_bind, hp2, Result.andThen_ok]
  show (Bind.bind (loadVar 30 ⟨y, 0, none⟩) _ : Sem Value).run Tryz.prog W = _
  rw [Sem.run_bind, hl, Result.andThen_ok]
  show (Bind.bind (Extern.Rtype.directlyAssignable 30 30) _ : Sem Value).run Tryz.prog W = _
  rw [Sem.run_bind, hd, Result.andThen_ok]
  show (Bind.bind (storeVar 30 q (.int .i64 x)) _ : Sem Value).run Tryz.prog W = _
  rw [Sem.run_bind, hst, Result.andThen_ok]
  rfl
theorem ac_type_r (x : Nat) (W : World) : (rowType #[.agg #[.pointer (some ⟨6, 65, none⟩), .pointer (some ⟨x, 0, none⟩), .int .u64 150]]).run Tryz.prog W = .ok (.iface 91 (.agg #[.pointer (some ⟨6, 65, none⟩)])) W := by kernel_rfl
theorem ac_kind_p (W : World) : (rowKind #[.pointer (some ⟨6, 65, none⟩)]).run Tryz.prog W = .ok (.int .u8 22) W := by kernel_rfl
theorem ac_kind_q (W : World) : (rowKind #[.pointer (some ⟨6, 30, none⟩)]).run Tryz.prog W = .ok (.int .u8 2) W := by kernel_rfl
theorem ac_elem_r (W : World) : (rowElemT #[.agg #[.pointer (some ⟨6, 65, none⟩)]]).run Tryz.prog W = .ok (.iface 91 (.agg #[.pointer (some ⟨6, 30, none⟩)])) W := by kernel_rfl
theorem ac_impl_r (W : World) : (rowImpl #[.agg #[.pointer (some ⟨6, 30, none⟩)], .iface 91 (.agg #[.pointer (some ⟨6, 27, none⟩)])]).run Tryz.prog W = .ok (.bool true) W := by kernel_rfl
theorem ac_assi_c (W : World) : (rowAssi #[.agg #[.pointer (some ⟨6, 30, none⟩)], .iface 91 (.agg #[.pointer (some ⟨6, 30, none⟩)])]).run Tryz.prog W = .ok (.bool true) W := by kernel_rfl
theorem ac_assi_f (W : World) : (rowAssi #[.agg #[.pointer (some ⟨6, 38, none⟩)], .iface 91 (.agg #[.pointer (some ⟨6, 30, none⟩)])]).run Tryz.prog W = .ok (.bool false) W := by kernel_rfl
theorem ac_assi_n (W : World) : (rowAssi #[.agg #[.pointer (some ⟨6, 30, none⟩)], .iface 91 (.agg #[.pointer (some ⟨6, 38, none⟩)])]).run Tryz.prog W = .ok (.bool false) W := by kernel_rfl
theorem ac_val_q (q : Addr) (W : World) : (rowValueOf #[.iface 65 (.pointer (some q))]).run Tryz.prog W = .ok (.agg #[.pointer (some ⟨6, 65, none⟩), .pointer (some ⟨W.heap.size, 0, none⟩), .int .u64 150]) (W.alloc (.cells #[.pointer (some q)] 65)) := by kernel_rfl
theorem ac_val_c (x : Int) (W : World) : (rowValueOf #[.iface 30 (.int .i64 x)]).run Tryz.prog W = .ok (.agg #[.pointer (some ⟨6, 30, none⟩), .pointer (some ⟨W.heap.size, 0, none⟩), .int .u64 130]) (W.alloc (.cells #[.int .i64 x] 30)) := by kernel_rfl
theorem ac_fo0 (v : Value) (xT : TypeId) (w : World) : (Instr.typeAssert (.iface 38 v) xT 138 true).run Tryz.prog w = .ok (.tuple #[.nilIface, .bool false]) w := run_typeAssert_lacksB Tryz.underlying138 (by kernel_rfl) (by kernel_rfl) v xT w
theorem ac_no0 (v : Value) (xT : TypeId) (w : World) : (Instr.typeAssert (.iface 30 v) xT 138 true).run Tryz.prog w = .ok (.tuple #[.nilIface, .bool false]) w := run_typeAssert_lacksB Tryz.underlying138 (by kernel_rfl) (by kernel_rfl) v xT w

/-- errors.As of a bare number, asked for a fault: there is none. -/
theorem as16_bare (x : Int) (q : Nat) (w : World) (T : Value) (hq : w.cell? ⟨q, 0, none⟩ = some T) (hT : EnvT w) :
    Calls Tryz.prog 29 #[cdV x, .iface 81 (.pointer (some ⟨q, 0, none⟩))] w fun e w' => e = .returned (.bool false) ∧ Below w.heap.size w w' := by
  unfold EnvT at hT
  have heq1 := eq_nil16
  have heq2 : ∀ W : World, (binOp .eql 20 (.iface 81 (.pointer (some ⟨q, 0, none⟩))) .nilIface).run Tryz.prog W = .ok (.bool false) W := fun W => by kernel_rfl
  have x1 := @run_callFunc_extern Tryz.prog 44 _ rowValueOf Tryz.func44 (by kernel_rfl) (by kernel_rfl) (by kernel_rfl) (by kernel_rfl)
  have x2 := @run_callFunc_extern Tryz.prog 45 _ rowType Tryz.func45 (by kernel_rfl) (by kernel_rfl) (by kernel_rfl) (by kernel_rfl)
  have x3 := @run_callFunc_extern Tryz.prog 230 _ rowKind Tryz.func230 (by kernel_rfl) (by kernel_rfl) (by kernel_rfl) (by kernel_rfl)
  have x4 := @run_callFunc_extern Tryz.prog 46 _ rowIsNil Tryz.func46 (by kernel_rfl) (by kernel_rfl) (by kernel_rfl) (by kernel_rfl)
  have x5 := @run_callFunc_extern Tryz.prog 239 _ rowElemT Tryz.func239 (by kernel_rfl) (by kernel_rfl) (by kernel_rfl) (by kernel_rfl)
  have x6 := @run_callFunc_extern Tryz.prog 240 _ rowImpl Tryz.func240 (by kernel_rfl) (by kernel_rfl) (by kernel_rfl) (by kernel_rfl)
  have x7 := @run_callFunc_extern Tryz.prog 25 _ Extern.ReflectliteType.typeOf Tryz.func25 (by kernel_rfl) (by kernel_rfl) (by kernel_rfl) (by kernel_rfl)
  have x8 := @run_callFunc_extern Tryz.prog 237 _ rowAssi Tryz.func237 (by kernel_rfl) (by kernel_rfl) (by kernel_rfl) (by kernel_rfl)
  have m1 := as_kind_m
  have m2 := as_elem_m
  have m3 := as_impl_m
  have m4 := as_assi_m
  have r1 := as_val_q
  have r2 := as_type_r
  have r3 := as_kind_p
  have r4 := as_kind_q
  have r5 := as_elem_r
  have r6 := as_impl_r
  have r7 := ac_assi_n
  have r9 := er_typeOf_c
  have n0 := ac_no0
  have n1 := er_no2
  have n2 := er_no3
  have ra := fun (x : Nat) (W : World) (h : W.cell? ⟨x, 0, none⟩ = some (.pointer (some ⟨q, 0, none⟩))) => as_isNil x ⟨q, 0, none⟩ W h
  have hgl : 0 < w.heap.size := World.block_lt_of_cell? w ⟨0, 0, none⟩ hT
  have hql : q < w.heap.size := World.block_lt_of_cell? w ⟨q, 0, none⟩ hq
  have hT1 := fun X => (World.cell?_alloc_lt w X ⟨0, 0, none⟩ hgl).trans hT
  have hT2 := fun X Y => (World.cell?_alloc_lt (w.alloc X) Y ⟨0, 0, none⟩ (by show 0 < _; simp <;> omega)).trans (hT1 X)
  unfold cdV
  go_enter Tryz.func29, Tryz.ntmps29
  go_wp2
  refine wp_loop_rounds 1 ?_
  rw [rounds_succ]
  clear x1 x2 x3 x4 x5 x6
  go_wp2
  go_ret
  exact ⟨rfl, ((Below.refl w.heap.size w).alloc (Nat.le_refl _) _).alloc (by simp) _ |>.alloc (by simp; omega) _⟩
end Go.Proofs.YtkgjbamkinfmeaaGreatDoor
