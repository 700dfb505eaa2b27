/- Attributes in memory: a slice of them that the call itself made, and one that can be read, wherever it lies. -/
import Derived.Test.YtodocdbnflmgnaaDoorTk
import Derived.Test.YtodocdbnflmgnaaDoorTn
import Derived.Test.YtodocdbnflmgnaaDoorSl
namespace Go.Proofs.YtodocdbnflmgnaaDoor
open Go.RowKit

def atV (x : At) : List Value := [strV x.1, strV x.2]
def cellsA (l : List At) : List Value := l.flatMap atV
theorem cellsA_len (l : List At) : (cellsA l).length = l.length * 2 := by
  induction l with
  | nil => rfl
  | cons x t ih => simp [cellsA, atV] at ih ⊢; omega
theorem cellsA_app (l m : List At) : cellsA (l ++ m) = cellsA l ++ cellsA m := by simp [cellsA]
theorem cellsA_one (x : At) : cellsA [x] = [strV x.1, strV x.2] := rfl
theorem cellsA_at : ∀ (l : List At) (j : Nat), j < l.length → (cellsA l)[j * 2]? = some (strV (l.getD j ([], [])).1) ∧ (cellsA l)[j * 2 + 1]? = some (strV (l.getD j ([], [])).2)
  | [], j, h => by simp at h
  | x :: t, 0, _ => ⟨rfl, rfl⟩
  | x :: t, j + 1, h => by
    have := cellsA_at t j (by simpa using h)
    have e : cellsA (x :: t) = strV x.1 :: strV x.2 :: cellsA t := rfl
    rw [e, show (j + 1) * 2 = j * 2 + 1 + 1 by omega, show j * 2 + 1 + 1 + 1 = (j * 2 + 1) + 1 + 1 by omega]
    simpa using this
theorem cellsA_one' (l : List At) : ∀ u ∈ cellsA l, u.oneCell' = true := by
  intro u hu
  simp only [cellsA, List.mem_flatMap, atV] at hu
  obtain ⟨x, _, hu⟩ := hu
  simp at hu
  rcases hu with rfl | rfl <;> rfl
/-- A slice of attributes that the call itself made. -/
def Ats (w : World) (B : Nat) (v : Value) (l : List At) : Prop := w.ownsRow B 50 2 v l.length (cellsA l)
theorem Ats.cells {w : World} {B : Nat} {v : Value} {l : List At} (h : Ats w B v l) (h0 : l ≠ []) : ∃ g cap, v = .slice (some ⟨g, 0, none⟩) l.length cap ∧ g < w.heap.size ∧ B ≤ g ∧
    ∀ j, j < l.length → w.cell? ⟨g, j * 2, none⟩ = some (strV (l.getD j ([], [])).1) ∧ w.cell? ⟨g, j * 2 + 1, none⟩ = some (strV (l.getD j ([], [])).2) := by
  have hlt := World.ownsRow.lt h
  rcases h.2 with ⟨_, hn⟩ | ⟨g, cap, cur, hv, _⟩
  · exact absurd (List.length_eq_zero_iff.1 hn) h0
  · refine ⟨g, cap, hv, (hlt g (by rw [hv]; rfl)).2, (hlt g (by rw [hv]; rfl)).1, fun j hj => ?_⟩
    have hcg := World.ownsRow.cells h (g := g) (by rw [hv]; rfl)
    obtain ⟨e1, e2⟩ := cellsA_at l j hj
    have hadd : ∀ i, (⟨g, 0, none⟩ : Addr).add i = ⟨g, i, none⟩ := fun i => by unfold Addr.add; split <;> simp_all
    have h1 := hcg _ _ e1
    have h2 := hcg _ _ e2
    rw [hadd] at h1 h2
    exact ⟨h1, h2⟩
theorem ats_nil (w : World) (B : Nat) : Ats w B (.slice none 0 0) [] := World.ownsRow_nil _ _ _ _

/-- A slice of attributes that can be read. -/
def AtSl (w : World) (v : Value) (l : List At) : Prop :=
  (l = [] ∧ ∃ a c, v = .slice a 0 c) ∨ ∃ b off c, l.length ≤ c ∧ v = .slice (some ⟨b, off, none⟩) l.length c ∧
    ∀ j, j < l.length → w.cell? ⟨b, off + j * 2, none⟩ = some (strV (l.getD j ([], [])).1) ∧ w.cell? ⟨b, off + j * 2 + 1, none⟩ = some (strV (l.getD j ([], [])).2)
theorem AtSl.form {w : World} {v : Value} {l : List At} (h : AtSl w v l) : ∃ a c, v = .slice a l.length c := by
  rcases h with ⟨rfl, a, c, rfl⟩ | ⟨b, off, c, _, rfl, _⟩
  · exact ⟨a, c, rfl⟩
  · exact ⟨_, c, rfl⟩
theorem AtSl.next {w w' : World} {v : Value} {l : List At} (h : AtSl w v l) (hb : Below w.heap.size w w') : AtSl w' v l := by
  rcases h with h | ⟨b, off, c, hc, rfl, h⟩
  · exact Or.inl h
  · refine Or.inr ⟨b, off, c, hc, rfl, fun j hj => ?_⟩
    have h0 := h j hj
    have hlt := World.block_lt_of_cell? w ⟨b, off + j * 2, none⟩ h0.1
    exact ⟨(hb.cell (p := ⟨b, off + j * 2, none⟩) hlt).trans h0.1, (hb.cell (p := ⟨b, off + j * 2 + 1, none⟩) hlt).trans h0.2⟩
theorem AtSl.some {w : World} {v : Value} {l : List At} (h : AtSl w v l) (h0 : l ≠ []) : ∃ b off c, l.length ≤ c ∧ b < w.heap.size ∧ v = .slice (some ⟨b, off, none⟩) l.length c ∧
    ∀ j, j < l.length → w.cell? ⟨b, off + j * 2, none⟩ = some (strV (l.getD j ([], [])).1) ∧ w.cell? ⟨b, off + j * 2 + 1, none⟩ = some (strV (l.getD j ([], [])).2) := by
  rcases h with ⟨h, _⟩ | ⟨b, off, c, hc, hv, h⟩
  · exact absurd h h0
  · have hl : 0 < l.length := List.length_pos_iff.2 h0
    exact ⟨b, off, c, hc, World.block_lt_of_cell? w ⟨b, off + 0 * 2, none⟩ (h 0 hl).1, hv, h⟩
theorem AtSl.nil {w : World} {v : Value} {l : List At} (h : AtSl w v l) (h0 : l = []) : ∃ a c, v = .slice a 0 c := by
  obtain ⟨a, c, e⟩ := h.form
  subst h0
  exact ⟨a, c, e⟩
theorem atSl_nil (w : World) (a : Option Addr) (c : Nat) : AtSl w (.slice a 0 c) [] := Or.inl ⟨rfl, a, c, rfl⟩
theorem Ats.sl {w : World} {B : Nat} {v : Value} {l : List At} (h : Ats w B v l) : AtSl w v l := by
  by_cases h0 : l = []
  · obtain ⟨a, c, e⟩ := own_form h
    subst h0
    exact Or.inl ⟨rfl, a, c, e⟩
  · obtain ⟨a, c', e, hcap⟩ := own_cap h
    obtain ⟨g, cap, hv, _, _, hc⟩ := h.cells h0
    have : cap = c' := by rw [hv] at e; injection e
    exact Or.inr ⟨g, 0, cap, by omega, hv, fun j hj => by rw [Nat.zero_add]; exact hc j hj⟩
end Go.Proofs.YtodocdbnflmgnaaDoor
