/- Layer 16: errors that wrap one another: a number, wrapped so many times; errors.Is of it. -/
import Derived.Test.YtkgjbamkinfmeaaGreatDoorBR02
namespace Go.Proofs.YtkgjbamkinfmeaaGreatDoor
open Go.RowKit Go.Extern.Stop Go.Stop Go.Extern

def cdV (q : Int) : Value := .iface 30 (.int .i64 q)
/-- v is the number q, wrapped n times. -/
def Chain (w : World) (q : Int) : Nat → Value → Prop
  | 0, v => v = cdV q
  | n + 1, v => ∃ f p u, v = faultV f ∧ FaultAt w f p u ∧ Chain w q n u
/-- How often a value is wrapped, n times at most. -/
def deepN (w : World) : Nat → Value → Nat
  | n + 1, .iface _ (.pointer (some a)) => match w.cell? ⟨a.block, 1, none⟩ with
    | some u => deepN w n u + 1
    | none => 0
  | _, _ => 0
theorem Chain.deep {w : World} {q : Int} : ∀ {k n : Nat} {v : Value}, Chain w q k v → k ≤ n → deepN w n v = k
  | 0, n, v, h, _ => by
    have e : v = cdV q := h
    subst e
    unfold cdV
    cases n <;> rfl
  | k + 1, 0, v, h, hk => by omega
  | k + 1, n + 1, v, h, hk => by
    obtain ⟨f, p, u, rfl, hf, hu⟩ := h
    have hc : w.cell? ⟨f, 1, none⟩ = some u := ArrAt.cell hf 1
    have := Chain.deep hu (n := n) (by omega)
    unfold faultV
    simp only [deepN, hc, this]
theorem Chain.below {w w' : World} {q : Int} (hb : Below w.heap.size w w') : ∀ {n : Nat} {v : Value}, Chain w q n v → Chain w' q n v
  | 0, _v, h => h
  | _n + 1, _v, ⟨f, p, u, h1, h2, h3⟩ => ⟨f, p, u, h1, h2.below hb, Chain.below hb h3⟩
theorem eq_nil16 (T : TypeId) (p : Value) (W : World) : (binOp .eql 27 (.iface T p) .nilIface).run Tryz.prog W = .ok (.bool false) W := by kernel_rfl
theorem Chain.form {w : World} {q : Int} {n : Nat} {v : Value} (h : Chain w q n v) : ∃ T p, v = .iface T p := by
  cases n with
  | zero => exact ⟨_, _, h⟩
  | succ n => obtain ⟨f, p, u, h, _, _⟩ := h; exact ⟨_, _, h⟩
theorem unwrap16_any (f p : Nat) (u : Value) (w : World) (h : FaultAt w f p u) : Calls Tryz.prog 235 #[.pointer (some ⟨f, 0, none⟩)] w fun e w' => e = .returned u ∧ w = w' := by
  have hc : w.cell? ⟨f, 1, none⟩ = some u := ArrAt.cell h 1
  clear h
  go_enter Tryz.func235, Tryz.ntmps235
  go_wp2_with fail
  go_ret
  exact ⟨rfl, rfl⟩

set_option maxRecDepth 100000 in
set_option maxHeartbeats 1000000 in
/-- The loop of errors.Is: the number that is wrapped is the one that is asked for. -/
theorem is16_in (n : Nat) (v : Value) (x c : Int) (w : World) (h : Chain w x n v) :
    Calls Tryz.prog 26 #[v, cdV c, .bool true] w fun e w' => e = .returned (.bool (x == c)) ∧ w = w' := by
  have heq := er_eql_cc x c
  have hef := er_eql_fc
  have n1 := er_no1
  have n2 := er_no2
  have n3 := er_no3
  have f1 := er_fo1
  have f2 := er_fo2
  have mU := er_unwrap
  have hnil := eq_nil16
  replace h := Lib.hid h
  unfold cdV
  cases hb : (x == c)
  all_goals
    rw [hb] at heq
    replace hb := Lib.hid hb
    go_enter Tryz.func26, Tryz.ntmps26
    go_wp2_with fail
    go_loopw [0] (fun u wr => ∃ k : Nat, k ≤ n ∧ Hid (Chain w x k u) ∧ wr = w) (fun u _ => deepN w n u)
    case atStart => exact ⟨n, Nat.le_refl _, h, rfl⟩
    case round =>
      obtain ⟨k, hk, hch, rfl⟩ := hrel
      cases k with
      | zero =>
        obtain rfl := hch.out
        unfold cdV
        clear hch h
        go_wp2_with fail
        go_ret
        exact ⟨rfl, rfl⟩
      | succ k =>
        have hd1 := Lib.hid (hch.out.deep hk)
        obtain ⟨f, p, u, rfl, hf, hu⟩ := hch.out
        have hd2 := Lib.hid (hu.deep (n := n) (by omega))
        obtain ⟨T, y, rfl⟩ := hu.form
        have hU := Lib.hid (unwrap16_any f p _ _ hf)
        replace hu := Lib.hid hu
        unfold faultV
        clear hf hch h
        go_wp2_with fail
        refine hU.out.mono ?_
        rintro e w' ⟨rfl, rfl⟩
        go_wp2_with fail
        exact ⟨⟨k, by omega, hu, trivial⟩, by rw [hd2.out]; unfold faultV at hd1; rw [hd1.out]; omega⟩

set_option maxRecDepth 100000 in
/-- errors.Is of a number that is wrapped so many times, and a number. -/
theorem is16_any (n : Nat) (v : Value) (x c : Int) (w : World) (h : Chain w x n v) :
    Calls Tryz.prog 15 #[v, cdV c] w fun e w' => e = .returned (.bool (x == c)) ∧ w = w' := by
  have h8 := @run_callFunc_extern Tryz.prog 25 _ Extern.ReflectliteType.typeOf Tryz.func25 (by kernel_rfl) (by kernel_rfl) (by kernel_rfl) (by kernel_rfl)
  have h32 := @run_callFunc_extern Tryz.prog 238 _ rowComp Tryz.func238 (by kernel_rfl) (by kernel_rfl) (by kernel_rfl) (by kernel_rfl)
  have tT := er_typeOf_c
  have cT := er_comp_c
  have mR := er_method
  have hi := Lib.hid (is16_in n v x c w h)
  obtain ⟨T, y, rfl⟩ := h.form
  have hnil := eq_nil16
  clear h
  unfold cdV at hi ⊢
  go_enter Tryz.func15, Tryz.ntmps15
  go_wp2_with fail
  refine hi.out.mono ?_
  rintro e w' ⟨rfl, rfl⟩
  go_wp2_with fail
  go_ret
  exact ⟨rfl, rfl⟩
end Go.Proofs.YtkgjbamkinfmeaaGreatDoor
