/- Slices of unsigned 64-bit numbers that the call itself made; a slice just built. -/
import Derived.Test.YtgldlfgidmgmfaaSl
namespace Go.Proofs.Ytgldlfgidmgmfaa
open Go.RowKit

theorem info_u64 : (Try.prog.info? 34).map (fun i => (i.zero, i.size, i.bytes)) = some (some (.int .u64 0), 1, 8) := by kernel_rfl
/-- A slice of numbers that the call itself made. -/
def U64s (w : World) (B : Nat) (v : Value) (xs : List Int) : Prop := w.ownsRow B 34 1 v xs.length (xs.map (Value.int .u64))
theorem U64s.sl {w : World} {B : Nat} {v : Value} {xs : List Int} (h : U64s w B v xs) : IntSl .u64 w v xs := intSl_own h
theorem U64s.low {w : World} {B : Nat} {v : Value} {xs : List Int} (h : U64s w B v xs) : SlBelow w.heap.size v := slBelow_own h
theorem u64s_range {w : World} {B : Nat} {v : Value} {n : Nat} {f : Nat → Int} : U64s w B v ((List.range n).map f) ↔ w.ownsRow B 34 1 v n (((List.range n).map f).map (Value.int .u64)) := by
  unfold U64s; rw [List.length_map, List.length_range]
theorem u64s_range_next {w : World} {B : Nat} {v : Value} {n : Nat} {f : Nat → Int} (h : w.ownsRow B 34 1 v (n + 1) (((List.range n).map f).map (Value.int .u64) ++ [.int .u64 (f n)])) : U64s w B v ((List.range (n + 1)).map f) := by
  rw [u64s_range, List.range_succ, List.map_append, List.map_append]; exact h
/-- A slice of one, just built. -/
theorem ownsRow_one (w : World) (E : TypeId) (u : Value) : (w.alloc (.cells #[u] E)).ownsRow w.heap.size E 1 (.slice (some ⟨w.heap.size, 0, none⟩) 1 1) 1 [u] :=
  ⟨by simp, Or.inr ⟨_, 1, #[u], rfl, Nat.le_refl _, heap_alloc_new w _, Nat.le_refl _, by unfold maxLen; omega, by simp, by simp⟩⟩
end Go.Proofs.Ytgldlfgidmgmfaa
