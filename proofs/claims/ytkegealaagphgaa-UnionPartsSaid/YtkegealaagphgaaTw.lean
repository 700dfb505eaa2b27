/- A slice of pairs (structs of two int) that came in, as the walks read it. -/
import Derived.Test.YtkegealaagphgaaBase
namespace Go.Proofs.Ytkegealaagphgaa
open Go.RowKit

def TwSl (w : World) (v : Value) (os : List (Int × Int)) : Prop :=
  (os = [] ∧ ∃ a c, v = .slice a 0 c) ∨ ∃ b off c, v = .slice (some ⟨b, off, none⟩) os.length c ∧ b < w.heap.size ∧ ∀ j (hj : j < os.length),
    w.cell? ⟨b, off + j * 2, none⟩ = some (.int .i64 (os[j]'hj).1) ∧ w.cell? ⟨b, off + j * 2 + 1, none⟩ = some (.int .i64 (os[j]'hj).2)
theorem TwSl.form {w : World} {v : Value} {os : List (Int × Int)} (h : TwSl w v os) : ∃ a c, v = .slice a os.length c := by
  rcases h with ⟨rfl, a, c, rfl⟩ | ⟨b, off, c, rfl, _⟩
  · exact ⟨a, c, rfl⟩
  · exact ⟨_, c, rfl⟩
/-- The pair at a place, in any world that left alone what was there. -/
theorem TwSl.at {w wr : World} {a : Option Addr} {n c : Nat} {os : List (Int × Int)} (h : TwSl w (.slice a n c) os) (hb : Below w.heap.size w wr) {j : Nat} (hj : j < os.length) : ∃ b off, a = some ⟨b, off, none⟩ ∧ b < w.heap.size ∧
    wr.cell? ⟨b, off + j * 2, none⟩ = some (.int .i64 (os[j]'hj).1) ∧ wr.cell? ⟨b, off + j * 2 + 1, none⟩ = some (.int .i64 (os[j]'hj).2) := by
  rcases h with ⟨rfl, _⟩ | ⟨b, off, c', e, hbl, hcell⟩
  · simp at hj
  · injection e with e1 e2 e3
    obtain ⟨d0, d1⟩ := hcell j hj
    have hbe : ∀ k, wr.cell? ⟨b, k, none⟩ = w.cell? ⟨b, k, none⟩ := fun k => World.cell?_of_block (hb.block b hbl)
    exact ⟨b, off, e1, hbl, by rw [hbe]; exact d0, by rw [hbe]; exact d1⟩
end Go.Proofs.Ytkegealaagphgaa
