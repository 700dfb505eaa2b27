/- Slices of elements of k cells each, told by a function of what an element is: one that can be read wherever it lies, one that the call itself made. -/
import Derived.Test.YtpfcamebkcengaaPt
namespace Go.Proofs.Ytpfcamebkcengaa
open Go.RowKit

section
variable {α : Type} {k : Nat} {f : α → List Value}
theorem flat_len (hk : ∀ x, (f x).length = k) : ∀ l : List α, (l.flatMap f).length = l.length * k
  | [] => by simp
  | x :: r => by
    rw [List.flatMap_cons, List.length_append, hk, flat_len hk r, List.length_cons, Nat.add_mul]
    omega
theorem flat_at (hk : ∀ x, (f x).length = k) : ∀ (l : List α) (i t : Nat) (hi : i < l.length), t < k → (l.flatMap f)[i * k + t]? = (f (l[i]'hi))[t]?
  | [], _, _, hi, _ => by simp at hi
  | x :: r, 0, t, _, ht => by
    rw [List.flatMap_cons, Nat.zero_mul, Nat.zero_add, List.getElem?_append_left (by rw [hk]; exact ht)]
    rfl
  | x :: r, i + 1, t, hi, ht => by
    have e : (i + 1) * k + t = k + (i * k + t) := by rw [Nat.add_mul]; omega
    rw [List.flatMap_cons, e, List.getElem?_append_right (by rw [hk]; omega), hk, show k + (i * k + t) - k = i * k + t by omega, flat_at hk r i t (by simpa using hi) ht]
    rfl
/-- A slice that can be read. -/
def SlOf (k : Nat) (f : α → List Value) (w : World) (v : Value) (l : List α) : Prop :=
  (l = [] ∧ ∃ a c, v = .slice a 0 c) ∨ ∃ b off c, l.length ≤ c ∧ v = .slice (some ⟨b, off, none⟩) l.length c ∧ ∀ i (hi : i < l.length) t u, t < k → (f (l[i]'hi))[t]? = some u → w.cell? ⟨b, off + i * k + t, none⟩ = some u
variable {w w' : World} {v : Value} {l : List α}
theorem SlOf.form (h : SlOf k f w v l) : ∃ a c, v = .slice a l.length c := by
  rcases h with ⟨rfl, a, c, rfl⟩ | ⟨b, off, c, _, rfl, _⟩
  · exact ⟨a, c, rfl⟩
  · exact ⟨_, c, rfl⟩
theorem SlOf.nil (h : SlOf k f w v l) (h0 : l = []) : ∃ a c, v = .slice a 0 c := by
  obtain ⟨a, c, e⟩ := h.form
  subst h0
  exact ⟨a, c, e⟩
theorem slOf_nil (w : World) (a : Option Addr) (c : Nat) : SlOf k f w (.slice a 0 c) ([] : List α) := Or.inl ⟨rfl, a, c, rfl⟩
theorem SlOf.some (hk : ∀ x, (f x).length = k) (hk0 : 0 < k) (h : SlOf k f w v l) (h0 : l ≠ []) : ∃ b off c, l.length ≤ c ∧ b < w.heap.size ∧ v = .slice (some ⟨b, off, none⟩) l.length c ∧ ∀ i (hi : i < l.length) t u, t < k → (f (l[i]'hi))[t]? = some u → w.cell? ⟨b, off + i * k + t, none⟩ = some u := by
  rcases h with ⟨h, _⟩ | ⟨b, off, c, hc, hv, h⟩
  · exact absurd h h0
  · have hl : 0 < l.length := List.length_pos_iff.2 h0
    have hx : 0 < (f (l[0]'hl)).length := by rw [hk]; exact hk0
    exact ⟨b, off, c, hc, World.block_lt_of_cell? w ⟨b, off + 0 * k + 0, none⟩ (h 0 hl 0 _ hk0 (List.getElem?_eq_getElem hx)), hv, h⟩
theorem SlOf.next (h : SlOf k f w v l) (hb : Below w.heap.size w w') : SlOf k f w' v l := by
  rcases h with h | ⟨b, off, c, hc, rfl, h⟩
  · exact Or.inl h
  · refine Or.inr ⟨b, off, c, hc, rfl, fun i hi t u ht hu => ?_⟩
    have h0 := h i hi t u ht hu
    exact (hb.cell (p := ⟨b, off + i * k + t, none⟩) (World.block_lt_of_cell? w _ h0)).trans h0
theorem SlOf.drawn (h : SlOf k f w v l) (hd : Drawn w w') : SlOf k f w' v l := h.next (hd.below _)
theorem SlOf.part (hk : ∀ x, (f x).length = k) {A : Option Addr} {n c : Nat} (h : SlOf k f w (.slice A n c) l) : PartOf w A (l.flatMap f) := by
  rcases h with ⟨rfl, a, c', e⟩ | ⟨b, off, c', _, e, hc⟩
  · exact partOf_nil _ _
  · injection e with e1 e2 e3
    subst e1
    intro j u hu
    refine ⟨_, rfl, ?_⟩
    rw [addr_mid]
    have hj : j < l.length * k := by have := (List.getElem?_eq_some_iff.1 hu).1; rwa [flat_len hk] at this
    have hk0 : 0 < k := by
      rcases Nat.eq_zero_or_pos k with h0 | h0
      · rw [h0] at hj; omega
      · exact h0
    have hd := Nat.div_add_mod j k
    have hm := Nat.mod_lt j hk0
    have hi : j / k < l.length := by rw [Nat.div_lt_iff_lt_mul hk0]; exact hj
    have hf := flat_at hk l (j / k) (j % k) hi hm
    have e4 : j / k * k + j % k = j := by rw [Nat.mul_comm]; exact hd
    rw [e4] at hf
    rw [hf] at hu
    have := hc (j / k) hi (j % k) u hm hu
    rw [Nat.add_assoc, e4] at this
    exact this
/-- What the call itself made can be read. -/
theorem slOf_own (hk : ∀ x, (f x).length = k) {B : Nat} {E : TypeId} (h : w.ownsRow B E k v l.length (l.flatMap f)) : SlOf k f w v l := by
  by_cases h0 : l = []
  · obtain ⟨a, c, e⟩ := own_form h
    subst h0
    exact Or.inl ⟨rfl, a, c, e⟩
  · obtain ⟨a, c', e, hcap⟩ := own_cap h
    rcases h.2 with ⟨_, hn⟩ | ⟨g, cap, cur, hv, _⟩
    · exact absurd (List.length_eq_zero_iff.1 hn) h0
    · rw [hv] at e
      injection e with e1 e2 e3
      refine Or.inr ⟨g, 0, cap, by omega, hv, fun i hi t u ht hu => ?_⟩
      have hcg := World.ownsRow.cells h (g := g) (by rw [hv]; rfl)
      have r1 := hcg (i * k + t) u (by rw [flat_at hk l i t hi ht]; exact hu)
      rw [addr_mid, Nat.zero_add] at r1
      rw [Nat.zero_add]
      exact r1
end
end Go.Proofs.Ytpfcamebkcengaa
