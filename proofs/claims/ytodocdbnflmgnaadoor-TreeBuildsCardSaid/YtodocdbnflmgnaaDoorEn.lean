/- Faults in memory; errors.As and errors.Is of the program's own error. -/
import Derived.Test.YtodocdbnflmgnaaDoorEs
namespace Go.Proofs.YtodocdbnflmgnaaDoor
open Go.RowKit Go.Extern.Stop Go.Stop Go.Extern

/-- What errors.As asks: the type of errors lies as laid. -/
def EnvT (w : World) : Prop := w.cell? ⟨1, 0, none⟩ = some (.iface 83 (.agg #[.pointer (some ⟨2, 26, none⟩)]))
theorem EnvT.below {w w' : World} (h : EnvT w) (hb : Below w.heap.size w w') : EnvT w' := (hb.cell (p := ⟨1, 0, none⟩) (World.block_lt_of_cell? w ⟨1, 0, none⟩ h)).trans h
/-- A fault in memory. -/
def FaultAt (w : World) (f : Nat) (q : Nat) (v : Value) : Prop := ArrAt w f 81 [.int .i64 q, v]
def faultV (f : Nat) : Value := .iface 55 (.pointer (some ⟨f, 0, none⟩))
theorem FaultAt.below {w w' : World} {f q : Nat} {v : Value} (h : FaultAt w f q v) (hb : Below w.heap.size w w') : FaultAt w' f q v := ArrAt.next h hb
theorem is11_nil (A : Addr) (w : World) : Calls Tryd.prog 23 #[.nilIface, .iface 97 (.pointer (some A))] w fun e w' => e = .returned (.bool false) ∧ w = w' := by
  have he : ∀ W : World, (binOp .eql 26 .nilIface (.iface 97 (.pointer (some A)))).run Tryd.prog W = .ok (.bool false) W := fun W => by kernel_rfl
  go_enter Tryd.func23, Tryd.ntmps23
  go_wp2
  go_ret
  exact ⟨rfl, rfl⟩
theorem as_assi_e (W : World) : (rowAssi #[.agg #[.pointer (some ⟨2, 97, none⟩)], .iface 83 (.agg #[.pointer (some ⟨2, 55, none⟩)])]).run Tryd.prog W = .ok (.bool false) W := by kernel_rfl
theorem er_en0 (v : Value) (xT : TypeId) (w : World) : (Instr.typeAssert (.iface 97 v) xT 87 true).run Tryd.prog w = .ok (.tuple #[.nilIface, .bool false]) w := run_typeAssert_lacksB Tryd.underlying87 (by kernel_rfl) (by kernel_rfl) v xT w
theorem er_en1 (v : Value) (xT : TypeId) (w : World) : (Instr.typeAssert (.iface 97 v) xT 90 true).run Tryd.prog w = .ok (.tuple #[.nilIface, .bool false]) w := run_typeAssert_lacksB Tryd.underlying90 (by kernel_rfl) (by kernel_rfl) v xT w
theorem er_en2 (v : Value) (xT : TypeId) (w : World) : (Instr.typeAssert (.iface 97 v) xT 91 true).run Tryd.prog w = .ok (.tuple #[.nilIface, .bool false]) w := run_typeAssert_lacksB Tryd.underlying91 (by kernel_rfl) (by kernel_rfl) v xT w

set_option maxRecDepth 100000 in
set_option maxHeartbeats 1000000 in
theorem as11_end (A : Addr) (q : Nat) (w : World) (T : Value) (hq : w.cell? ⟨q, 0, none⟩ = some T) (hT : w.cell? ⟨1, 0, none⟩ = some (.iface 83 (.agg #[.pointer (some ⟨2, 26, none⟩)]))) :
    Calls Tryd.prog 22 #[.iface 97 (.pointer (some A)), .iface 57 (.pointer (some ⟨q, 0, none⟩))] w fun e w' => e = .returned (.bool false) ∧ Below w.heap.size w w' := by
  have heq1 : ∀ W : World, (binOp .eql 26 (.iface 97 (.pointer (some A))) .nilIface).run Tryd.prog W = .ok (.bool false) W := fun W => by kernel_rfl
  have heq2 : ∀ W : World, (binOp .eql 20 (.iface 57 (.pointer (some ⟨q, 0, none⟩))) .nilIface).run Tryd.prog W = .ok (.bool false) W := fun W => by kernel_rfl
  have x1 := @run_callFunc_extern Tryd.prog 30 _ rowValueOf Tryd.func30 (by kernel_rfl) (by kernel_rfl) (by kernel_rfl) (by kernel_rfl)
  have x2 := @run_callFunc_extern Tryd.prog 31 _ rowType Tryd.func31 (by kernel_rfl) (by kernel_rfl) (by kernel_rfl) (by kernel_rfl)
  have x3 := @run_callFunc_extern Tryd.prog 52 _ rowKind Tryd.func52 (by kernel_rfl) (by kernel_rfl) (by kernel_rfl) (by kernel_rfl)
  have x4 := @run_callFunc_extern Tryd.prog 32 _ rowIsNil Tryd.func32 (by kernel_rfl) (by kernel_rfl) (by kernel_rfl) (by kernel_rfl)
  have x5 := @run_callFunc_extern Tryd.prog 64 _ rowElemT Tryd.func64 (by kernel_rfl) (by kernel_rfl) (by kernel_rfl) (by kernel_rfl)
  have x6 := @run_callFunc_extern Tryd.prog 65 _ rowImpl Tryd.func65 (by kernel_rfl) (by kernel_rfl) (by kernel_rfl) (by kernel_rfl)
  have x7 := @run_callFunc_extern Tryd.prog 34 _ Extern.ReflectliteType.typeOf Tryd.func34 (by kernel_rfl) (by kernel_rfl) (by kernel_rfl) (by kernel_rfl)
  have x8 := @run_callFunc_extern Tryd.prog 62 _ rowAssi Tryd.func62 (by kernel_rfl) (by kernel_rfl) (by kernel_rfl) (by kernel_rfl)
  have m1 := as_kind_m
  have m2 := as_elem_m
  have m3 := as_impl_m
  have m4 := as_assi_m
  have r1 := as_val_q
  have r2 := as_type_r
  have r3 := as_kind_p
  have r4 := as_kind_q
  have r5 := as_elem_r
  have r6 := as_impl_r
  have r7 := as_assi_e
  have r9 := er_typeOf_e
  have n0 := er_en0
  have n1 := er_en1
  have n2 := er_en2
  have ra := fun (x : Nat) (W : World) (h : W.cell? ⟨x, 0, none⟩ = some (.pointer (some ⟨q, 0, none⟩))) => as_isNil x ⟨q, 0, none⟩ W h
  have hgl : 1 < w.heap.size := World.block_lt_of_cell? w ⟨1, 0, none⟩ hT
  have hql : q < w.heap.size := World.block_lt_of_cell? w ⟨q, 0, none⟩ hq
  have hT1 := fun X => (World.cell?_alloc_lt w X ⟨1, 0, none⟩ hgl).trans hT
  have hT2 := fun X Y => (World.cell?_alloc_lt (w.alloc X) Y ⟨1, 0, none⟩ (by show 1 < _; simp; omega)).trans (hT1 X)
  go_enter Tryd.func22, Tryd.ntmps22
  go_wp2
  refine wp_loop_rounds 1 ?_
  rw [rounds_succ]
  clear x1 x2 x3 x4 x5 x6
  go_wp2
  go_ret
  exact ⟨rfl, ((Below.refl w.heap.size w).alloc (Nat.le_refl _) _).alloc (by simp) _ |>.alloc (by simp; omega) _⟩
end Go.Proofs.YtodocdbnflmgnaaDoor
