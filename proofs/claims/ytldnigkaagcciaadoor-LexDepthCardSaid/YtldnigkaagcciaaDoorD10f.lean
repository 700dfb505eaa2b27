/- Layer 10: Space, the program's and the reference's. -/
import Derived.Lib.AppendStr
import Derived.Test.YtldnigkaagcciaaDoorD10e
namespace Go.Proofs.YtldnigkaagcciaaDoor
open Go.RowKit

/-- Append of a text's bytes to a slice that the call itself made. -/
theorem wpList_append1s {P : Program} {ops : Array Oper} {rest : List Oper} {o : Oper} {a : Act} {Q : Exit → Act → World → Prop} {w : World} (hgd : o.guard = none) (s x : Operand) (t u e : TypeId)
    (ho : o.op = .call { callee := .builtin .append, args := #[s, x], argTypes := #[t, u] }) (ht : P.underlying t = some (.slice e)) (hu : P.underlying u = some .string)
    (hi : (P.info? e).map (fun i => (i.zero, i.size, i.bytes)) = some (some (.int .u8 0), 1, 1))
    (B : Nat) (v : Value) (l m : List UInt8) (hown : w.ownsRow B e 1 v l.length ((nums l).map (Value.int .u8))) (hs : a.eval s = v) (hx : a.eval x = .string ⟨m.toArray⟩)
    (hn : l.length + m.length ≤ 140737488355328) (hB : B ≤ w.heap.size)
    (h : ∀ v' w', w'.ownsRow B e 1 v' (l ++ m).length ((nums (l ++ m)).map (Value.int .u8)) → Below B w w' → wpList P ops Q rest (a.put o.dst v') w') : wpList P ops Q (o :: rest) a w := by
  obtain ⟨i0, hi, hz0, hz1, hz2⟩ := info_parts hi
  refine Lib.wpList_append_own_string w hgd s x t u ho B e i0 ht hu hi hz0 hz1 hz2 v l.length _ hs hown ⟨m.toArray⟩ hx (by show l.length + m.length ≤ _; unfold maxLen; omega) hn hB ?_
  intro v' w' h1 h2 _
  refine h v' w' ?_ ((Below.refl B w).grown h2 hB fun k hk => (hown.lt k hk).1)
  have e1 : Lib.strCells ⟨m.toArray⟩ = (nums m).map (Value.int .u8) := by simp [Lib.strCells, nums]
  rw [e1, ← List.map_append, ← nums_app] at h1
  rw [List.length_append]
  exact h1

/-- A slice of bytes that the call itself made, as a text. -/
def Txt (w : World) (B : Nat) (v : Value) (l : List UInt8) : Prop := w.ownsRow B 5 1 v l.length ((nums l).map (Value.int .u8))
theorem txt_nil (w : World) (B : Nat) : Txt w B (.slice none 0 0) [] := World.ownsRow_nil _ _ _ _
theorem nums_take1 (d : List UInt8) (h : d ≠ []) : nums (d.take 1) = [bt d 0] := by
  cases d with
  | nil => exact absurd rfl h
  | cons c t => rfl
theorem txt_one {w : World} {B : Nat} {v : Value} {l m : List UInt8} {x : Int} (hm : nums m = [x]) (h : w.ownsRow B 5 1 v (l.length + 1) ((nums l).map (Value.int .u8) ++ [.int .u8 x])) : Txt w B v (l ++ m) := by
  unfold Txt
  have hl : m.length = 1 := by rw [← nums_len, hm]; rfl
  rw [List.length_append, hl, nums_app, hm, List.map_append]
  exact h
theorem txt_str {w : World} {B : Nat} {v : Value} {l : List UInt8} (h : Txt w B v l) : (convert 43 9 v).run Tryd.prog w = .ok (.string ⟨l.toArray⟩) w := by
  unfold Txt at h
  have h' : w.ownsRow B 5 1 v (nums l).length ((nums l).map (Value.int .u8)) := by rw [nums_len]; exact h
  have := run_str (P := Tryd.prog) w 43 9 5 Tryd.underlying43 Tryd.underlying5 Tryd.underlying9 (intSl_own h')
  rw [nums_u8] at this
  exact this
theorem txt_len {w : World} {B : Nat} {v : Value} {l : List UInt8} (h : Txt w B v l) : ∃ a c, v = .slice a l.length c := own_form h

theorem prefix_nb (l : List UInt8) : Lib.hasPrefix l [194, 160] = decide (2 ≤ l.length ∧ bt l 0 = 194 ∧ bt l 1 = 160) := by
  match l with
  | [] => rfl
  | [c] => simp [Lib.hasPrefix, List.isPrefixOf]
  | c :: d :: t =>
    have e1 : (bt (c :: d :: t) 0 = 194) = (c = 194) := propext (bt_u8 c 194 (d :: t))
    have e2 : (bt (c :: d :: t) 1 = 160) = (d = 160) := by rw [bt_succ]; exact propext (bt_u8 d 160 t)
    rw [Bool.eq_iff_iff, decide_eq_true_eq, e1, e2]
    simp only [Lib.hasPrefix, List.isPrefixOf, Bool.and_eq_true, beq_iff_eq, and_true]
    exact ⟨fun h => ⟨by simp, h.1.symm, h.2.symm⟩, fun h => ⟨h.2.1.symm, h.2.2.symm⟩⟩

end Go.Proofs.YtldnigkaagcciaaDoor
