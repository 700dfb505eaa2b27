/- Slices of numbers that can be read, over calls; slices of int that the call itself made; the bounds of a kind. -/
import Derived.Test.YtkckddcibhbalaaSl
namespace Go.Proofs.Ytkckddcibhbalaa
open Go.RowKit

theorem bd_u64 {x : Int} (hx : (Lit.int .u64 x).wf = true) : 0 ≤ x ∧ x ≤ 18446744073709551615 := by
  simp [Lit.wf, IntKind.min, IntKind.max, IntKind.bits, IntKind.signed] at hx
  omega
theorem bd_u64s {xs : List Int} (hx : ∀ x ∈ xs, (Lit.int .u64 x).wf = true) : ∀ x ∈ xs, 0 ≤ x ∧ x ≤ 18446744073709551615 := fun x hm => bd_u64 (hx x hm)
theorem bd_u8 {n : Int} (h : (Lit.int .u8 n).wf = true) : 0 ≤ n ∧ n ≤ 255 := by
  simp [Lit.wf, IntKind.min, IntKind.max, IntKind.bits, IntKind.signed] at h
  omega
theorem bd_i64 {n : Int} (h : (Lit.int .i64 n).wf = true) : -9223372036854775808 ≤ n ∧ n ≤ 9223372036854775807 := by
  simp [Lit.wf, IntKind.min, IntKind.max, IntKind.bits, IntKind.signed] at h
  omega

/-- A slice of numbers that can be read, over calls. -/
structure RdSl (k : IntKind) (w : World) (v : Value) (xs : List Int) : Prop where
  sl : IntSl k w v xs
  low : SlBelow w.heap.size v
theorem RdSl.next {k : IntKind} {w w' : World} {v : Value} {xs : List Int} (h : RdSl k w v xs) (hb : Below w.heap.size w w') : RdSl k w' v xs := ⟨h.sl.below hb h.low, h.low.mono hb.size⟩
theorem info_int : (Try.prog.info? 3).map (fun i => (i.zero, i.size, i.bytes)) = some (some (.int .i64 0), 1, 8) := by kernel_rfl
/-- A slice of int that the call itself made. -/
def Ints (w : World) (B : Nat) (v : Value) (xs : List Int) : Prop := w.ownsRow B 3 1 v xs.length (xs.map (Value.int .i64))
theorem Ints.rd {w : World} {B : Nat} {v : Value} {xs : List Int} (h : Ints w B v xs) : RdSl .i64 w v xs := ⟨intSl_own h, slBelow_own h⟩
theorem ints_one {w : World} {B : Nat} {v : Value} {xs : List Int} {y : Int} (h : w.ownsRow B 3 1 v (xs.length + 1) (xs.map (Value.int .i64) ++ [.int .i64 y])) : Ints w B v (xs ++ [y]) := by
  unfold Ints; rw [List.length_append, List.map_append]; exact h
end Go.Proofs.Ytkckddcibhbalaa
