/- errors.Is: of a number of package api, of a fault that wraps one, of the program's own error. -/
import Derived.Test.YtodocdbnflmgnaaDoorBase
import Derived.LaidEql
import Derived.LaidEqlPtr
import Derived.Stop.Asserts
import Derived.RowKitTokens
import Derived.Outline
namespace Go.Proofs.YtodocdbnflmgnaaDoor
open Go.RowKit Go.Extern.Stop Go.Stop Go.Extern

def rowComp : Array Value → Sem Value := Extern.ReflectliteType.method fun t => do Go.Extern.Rtype.noPackHeld "Comparable" t; pure (.bool (← typeInfo t).comparable)
theorem er_typeOf_c (v : Value) (w : World) : (Extern.ReflectliteType.typeOf #[.iface 29 v]).run Tryd.prog w = .ok (.iface 83 (.agg #[.pointer (some ⟨2, 29, none⟩)])) w := by kernel_rfl
theorem er_comp_c (w : World) : (rowComp #[.agg #[.pointer (some ⟨2, 29, none⟩)]]).run Tryd.prog w = .ok (.bool true) w := by kernel_rfl
theorem er_typeOf_e (v : Value) (w : World) : (Extern.ReflectliteType.typeOf #[.iface 97 v]).run Tryd.prog w = .ok (.iface 83 (.agg #[.pointer (some ⟨2, 97, none⟩)])) w := by kernel_rfl
theorem er_comp_e (w : World) : (rowComp #[.agg #[.pointer (some ⟨2, 97, none⟩)]]).run Tryd.prog w = .ok (.bool true) w := by kernel_rfl
theorem er_method (n : Nat) (v : Value) (w : World) : (Go.method (n + 1) 83 v "Comparable").run Tryd.prog w = .ok (63, v) w := by kernel_rfl
theorem er_no1 (v : Value) (xT : TypeId) (w : World) : (Instr.typeAssert (.iface 29 v) xT 94 true).run Tryd.prog w = .ok (.tuple #[.nilIface, .bool false]) w := run_typeAssert_lacksB Tryd.underlying94 (by kernel_rfl) (by kernel_rfl) v xT w
theorem er_no2 (v : Value) (xT : TypeId) (w : World) : (Instr.typeAssert (.iface 29 v) xT 90 true).run Tryd.prog w = .ok (.tuple #[.nilIface, .bool false]) w := run_typeAssert_lacksB Tryd.underlying90 (by kernel_rfl) (by kernel_rfl) v xT w
theorem er_no3 (v : Value) (xT : TypeId) (w : World) : (Instr.typeAssert (.iface 29 v) xT 91 true).run Tryd.prog w = .ok (.tuple #[.nilIface, .bool false]) w := run_typeAssert_lacksB Tryd.underlying91 (by kernel_rfl) (by kernel_rfl) v xT w
theorem er_fo1 (v : Value) (xT : TypeId) (w : World) : (Instr.typeAssert (.iface 55 v) xT 94 true).run Tryd.prog w = .ok (.tuple #[.nilIface, .bool false]) w := run_typeAssert_lacksB Tryd.underlying94 (by kernel_rfl) (by kernel_rfl) v xT w
theorem er_fo2 (v : Value) (xT : TypeId) (w : World) : (Instr.typeAssert (.iface 55 v) xT 90 true).run Tryd.prog w = .ok (.tuple #[.iface 55 v, .bool true]) w := run_typeAssert_hasB Tryd.underlying90 (by kernel_rfl) v xT w
theorem er_unwrap (n : Nat) (v : Value) (w : World) : (Go.method (n + 1) 55 v "Unwrap").run Tryd.prog w = .ok (57, v) w := by kernel_rfl
theorem er_comp : (Tryd.prog.info? 97).map (·.comparable) = some true := by kernel_rfl
theorem er_eql_cc (x c : Int) (w : World) : (binOp .eql 26 (.iface 29 (.int .i64 x)) (.iface 29 (.int .i64 c))).run Tryd.prog w = .ok (.bool (x == c)) w := by
  have hcmp : (Tryd.prog.info? 29).map (·.comparable) = some true := by kernel_rfl
  obtain ⟨i, hi, hc⟩ := Option.map_eq_some_iff.1 hcmp
  have h : ∀ d : Nat, (Op.equalIn (d + 2) 26 (.iface 29 (.int .i64 x)) (.iface 29 (.int .i64 c))).run Tryd.prog w = .ok (x == c) w := fun d => by
    simp [Op.equalIn, run_underlying Tryd.underlying26, run_underlying Tryd.underlying29, typeInfo, hi, hc]
  show (do let b ← Op.equal _ _ _; pure (Value.bool b) : Sem Value).run _ _ = _
  simp [Op.equal, Op.maxDepth, h 9998]
theorem er_eql_same (A : Addr) (w : World) : (binOp .eql 26 (.iface 97 (.pointer (some A))) (.iface 97 (.pointer (some A)))).run Tryd.prog w = .ok (.bool true) w := by
  obtain ⟨i, hi, hcmp⟩ := Option.map_eq_some_iff.1 er_comp
  have hs : (Tryd.prog.info? 119).map (·.size) = some 1 := by kernel_rfl
  obtain ⟨j, hj, _⟩ := Option.map_eq_some_iff.1 hs
  exact run_eql_iface_ptr_same w A Tryd.underlying26 Tryd.underlying97 hi hcmp hj
theorem er_eql_ce (x : Int) (A : Addr) (w : World) : (binOp .eql 26 (.iface 29 (.int .i64 x)) (.iface 97 (.pointer (some A)))).run Tryd.prog w = .ok (.bool false) w := run_eql_iface_types _ _ _ _ Tryd.underlying26 (by decide) w
theorem er_eql_fc (p : Value) (c : Int) (w : World) : (binOp .eql 26 (.iface 55 p) (.iface 29 (.int .i64 c))).run Tryd.prog w = .ok (.bool false) w := run_eql_iface_types _ _ _ _ Tryd.underlying26 (by decide) w

set_option maxRecDepth 100000 in
/-- errors.Is of the program's own error with itself. -/
theorem is11_same (A : Addr) (w : World) : Calls Tryd.prog 23 #[.iface 97 (.pointer (some A)), .iface 97 (.pointer (some A))] w fun e w' => e = .returned (.bool true) ∧ w = w' := by
  have h8 := @run_callFunc_extern Tryd.prog 34 _ Extern.ReflectliteType.typeOf Tryd.func34 (by kernel_rfl) (by kernel_rfl) (by kernel_rfl) (by kernel_rfl)
  have h32 := @run_callFunc_extern Tryd.prog 63 _ rowComp Tryd.func63 (by kernel_rfl) (by kernel_rfl) (by kernel_rfl) (by kernel_rfl)
  have tT := er_typeOf_e
  have cT := er_comp_e
  have mR := er_method
  have heq := er_eql_same
  go_enter Tryd.func23, Tryd.ntmps23
  go_wp2
  refine wp_loop_rounds 1 ?_
  rw [rounds_succ]
  go_wp2
  go_ret
  exact ⟨rfl, rfl⟩
set_option maxRecDepth 100000 in
/-- errors.Is of a number with the program's own error. -/
theorem is11_code_end (x : Int) (A : Addr) (w : World) : Calls Tryd.prog 23 #[.iface 29 (.int .i64 x), .iface 97 (.pointer (some A))] w fun e w' => e = .returned (.bool false) ∧ w = w' := by
  have h8 := @run_callFunc_extern Tryd.prog 34 _ Extern.ReflectliteType.typeOf Tryd.func34 (by kernel_rfl) (by kernel_rfl) (by kernel_rfl) (by kernel_rfl)
  have h32 := @run_callFunc_extern Tryd.prog 63 _ rowComp Tryd.func63 (by kernel_rfl) (by kernel_rfl) (by kernel_rfl) (by kernel_rfl)
  have tT := er_typeOf_e
  have cT := er_comp_e
  have mR := er_method
  have heq := er_eql_ce
  have n1 := er_no1
  have n2 := er_no2
  have n3 := er_no3
  go_enter Tryd.func23, Tryd.ntmps23
  go_wp2
  refine wp_loop_rounds 1 ?_
  rw [rounds_succ]
  go_wp2
  go_ret
  exact ⟨rfl, rfl⟩
set_option maxRecDepth 100000 in
/-- errors.Is of two numbers. -/
theorem is11_code (x c : Int) (w : World) : Calls Tryd.prog 23 #[.iface 29 (.int .i64 x), .iface 29 (.int .i64 c)] w fun e w' => e = .returned (.bool (x == c)) ∧ w = w' := by
  have h8 := @run_callFunc_extern Tryd.prog 34 _ Extern.ReflectliteType.typeOf Tryd.func34 (by kernel_rfl) (by kernel_rfl) (by kernel_rfl) (by kernel_rfl)
  have h32 := @run_callFunc_extern Tryd.prog 63 _ rowComp Tryd.func63 (by kernel_rfl) (by kernel_rfl) (by kernel_rfl) (by kernel_rfl)
  have tT := er_typeOf_c
  have cT := er_comp_c
  have mR := er_method
  have heq := er_eql_cc x c
  have n1 := er_no1
  have n2 := er_no2
  have n3 := er_no3
  cases hb : (x == c)
  all_goals
    rw [hb] at heq
    replace hb := Lib.hid hb
    go_enter Tryd.func23, Tryd.ntmps23
    go_wp2
    refine wp_loop_rounds 1 ?_
    rw [rounds_succ]
    go_wp2
    go_ret
    exact ⟨rfl, rfl⟩
set_option maxRecDepth 100000 in
/-- errors.Is of a fault with a number: it is the one that it wraps. -/
theorem is11_fault (p : Nat) (x c : Int) (w : World) (h1 : w.cell? ⟨p, 1, none⟩ = some (.iface 29 (.int .i64 x))) : Calls Tryd.prog 23 #[.iface 55 (.pointer (some ⟨p, 0, none⟩)), .iface 29 (.int .i64 c)] w fun e w' => e = .returned (.bool (x == c)) ∧ w = w' := by
  have h8 := @run_callFunc_extern Tryd.prog 34 _ Extern.ReflectliteType.typeOf Tryd.func34 (by kernel_rfl) (by kernel_rfl) (by kernel_rfl) (by kernel_rfl)
  have h32 := @run_callFunc_extern Tryd.prog 63 _ rowComp Tryd.func63 (by kernel_rfl) (by kernel_rfl) (by kernel_rfl) (by kernel_rfl)
  have tT := er_typeOf_c
  have cT := er_comp_c
  have mR := er_method
  have heq := er_eql_cc x c
  have hef := er_eql_fc
  have n1 := er_no1
  have n2 := er_no2
  have n3 := er_no3
  have f1 := er_fo1
  have f2 := er_fo2
  have mU := er_unwrap
  cases hb : (x == c)
  all_goals
    rw [hb] at heq
    replace hb := Lib.hid hb
    go_enter Tryd.func23, Tryd.ntmps23
    go_wp2
    refine wp_loop_rounds 2 ?_
    rw [rounds_succ]
    go_wp2
    rw [rounds_succ]
    go_wp2
    go_ret
    exact ⟨rfl, rfl⟩
end Go.Proofs.YtodocdbnflmgnaaDoor
