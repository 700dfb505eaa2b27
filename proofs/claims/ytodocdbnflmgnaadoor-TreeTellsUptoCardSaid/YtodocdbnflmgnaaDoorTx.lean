/- Append of a text's bytes; a slice of bytes that the call itself made, as a text. -/
import Derived.Lib.AppendStr
import Derived.Test.YtodocdbnflmgnaaDoorCv
namespace Go.Proofs.YtodocdbnflmgnaaDoor
open Go.RowKit

/-- Append of a text's bytes to a slice that the call itself made. -/
theorem wpList_append1s {P : Program} {ops : Array Oper} {rest : List Oper} {o : Oper} {a : Act} {Q : Exit → Act → World → Prop} {w : World} (hgd : o.guard = none) (s x : Operand) (t u e : TypeId)
    (ho : o.op = .call { callee := .builtin .append, args := #[s, x], argTypes := #[t, u] }) (ht : P.underlying t = some (.slice e)) (hu : P.underlying u = some .string)
    (hi : (P.info? e).map (fun i => (i.zero, i.size, i.bytes)) = some (some (.int .u8 0), 1, 1))
    (B : Nat) (v : Value) (l m : List UInt8) (hown : w.ownsRow B e 1 v l.length ((nums l).map (Value.int .u8))) (hs : a.eval s = v) (hx : a.eval x = .string ⟨m.toArray⟩)
    (hn : l.length + m.length ≤ 140737488355328) (hB : B ≤ w.heap.size)
    (h : ∀ v' w', w'.ownsRow B e 1 v' (l ++ m).length ((nums (l ++ m)).map (Value.int .u8)) → Below B w w' → wpList P ops Q rest (a.put o.dst v') w') : wpList P ops Q (o :: rest) a w := by
  obtain ⟨i0, hi, hz0, hz1, hz2⟩ := info_parts hi
  refine Lib.wpList_append_own_string w hgd s x t u ho B e i0 ht hu hi hz0 hz1 hz2 v l.length _ hs hown ⟨m.toArray⟩ hx (by show l.length + m.length ≤ _; unfold maxLen; omega) hn hB ?_
  intro v' w' h1 h2 _
  refine h v' w' ?_ ((Below.refl B w).grown h2 hB fun k hk => (hown.lt k hk).1)
  have e1 : Lib.strCells ⟨m.toArray⟩ = (nums m).map (Value.int .u8) := by simp [Lib.strCells, nums]
  rw [e1, ← List.map_append, ← nums_app] at h1
  rw [List.length_append]
  exact h1

/-- A slice of bytes that the call itself made, as a text. -/
def Txt (w : World) (B : Nat) (v : Value) (l : List UInt8) : Prop := w.ownsRow B 5 1 v l.length ((nums l).map (Value.int .u8))
theorem txt_nil (w : World) (B : Nat) : Txt w B (.slice none 0 0) [] := World.ownsRow_nil _ _ _ _
theorem txt_str {w : World} {B : Nat} {v : Value} {l : List UInt8} (h : Txt w B v l) : (convert 61 9 v).run Tryd.prog w = .ok (.string ⟨l.toArray⟩) w := by
  unfold Txt at h
  have h' : w.ownsRow B 5 1 v (nums l).length ((nums l).map (Value.int .u8)) := by rw [nums_len]; exact h
  have := run_str (P := Tryd.prog) w 61 9 5 Tryd.underlying61 Tryd.underlying5 Tryd.underlying9 (intSl_own h')
  rw [nums_u8] at this
  exact this
theorem info_u8 : (Tryd.prog.info? 5).map (fun i => (i.zero, i.size, i.bytes)) = some (some (.int .u8 0), 1, 1) := by kernel_rfl
end Go.Proofs.YtodocdbnflmgnaaDoor
