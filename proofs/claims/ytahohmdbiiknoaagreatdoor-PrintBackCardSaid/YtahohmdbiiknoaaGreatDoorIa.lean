/- Slices of entries that can be read, wherever they lie. -/
import Derived.Test.YtahohmdbiiknoaaGreatDoorBR18
namespace Go.Proofs.YtahohmdbiiknoaaGreatDoor
open Go.RowKit

/-- A slice of entries that can be read. -/
def ItSl (w : World) (v : Value) (L : List It) : Prop :=
  (L = [] ∧ ∃ a c, v = .slice a 0 c) ∨ ∃ b off c, L.length ≤ c ∧ v = .slice (some ⟨b, off, none⟩) L.length c ∧ ∀ j (hj : j < L.length), ItAt w b (off + j * 6) (L[j]'hj)
section
variable {w w' : World} {v : Value} {L : List It}
theorem ItSl.form (h : ItSl w v L) : ∃ a c, v = .slice a L.length c := by
  rcases h with ⟨rfl, a, c, rfl⟩ | ⟨b, off, c, _, rfl, _⟩
  · exact ⟨a, c, rfl⟩
  · exact ⟨_, c, rfl⟩
theorem ItSl.next (h : ItSl w v L) (hb : Below w.heap.size w w') : ItSl w' v L := by
  rcases h with h | ⟨b, off, c, hc, rfl, k⟩
  · exact Or.inl h
  · exact Or.inr ⟨b, off, c, hc, rfl, fun j hj => (k j hj).next hb⟩
theorem ItSl.drawn (h : ItSl w v L) (hd : Drawn w w') : ItSl w' v L := h.next (hd.below _)
/-- Its place, and each entry there, in any world that left alone what was there. -/
theorem ItSl.all (h : ItSl w v L) : ∃ a c, v = .slice a L.length c ∧ ∀ j (hj : j < L.length), ∃ b off, a = some ⟨b, off, none⟩ ∧ L.length ≤ c ∧ ItAt w b (off + j * 6) (L[j]'hj) := by
  rcases h with ⟨rfl, a, c, rfl⟩ | ⟨b, off, c, hc, rfl, k⟩
  · exact ⟨a, c, rfl, fun j hj => absurd hj (by simp)⟩
  · exact ⟨_, c, rfl, fun j hj => ⟨b, off, rfl, hc, k j hj⟩⟩
theorem OwnI.sl {B : Nat} (h : OwnI w B v L) : ItSl w v L := by
  obtain ⟨a, c, rfl, hc, k⟩ := h.all
  by_cases h0 : L = []
  · subst h0; exact Or.inl ⟨rfl, a, c, rfl⟩
  · obtain ⟨g, rfl, _⟩ := k 0 (List.length_pos_iff.2 h0)
    refine Or.inr ⟨g, 0, c, hc, rfl, fun j hj => ?_⟩
    obtain ⟨g', e, hat⟩ := k j hj
    injection e with e
    injection e with e
    subst e
    rw [Nat.zero_add]
    exact hat
end
end Go.Proofs.YtahohmdbiiknoaaGreatDoor
