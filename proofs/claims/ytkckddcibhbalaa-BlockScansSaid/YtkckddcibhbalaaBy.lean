/- A row of bytes that the call itself made out of a text, cell by cell: read, written, told as a text again. -/
import Derived.Test.YtkckddcibhbalaaSl
namespace Go.Proofs.Ytkckddcibhbalaa
open Go.RowKit

/-- The cells of block g hold the bytes l, and may be written. -/
def ByRow (w : World) (g : Nat) (l : List UInt8) : Prop := g < w.heap.size ∧ ∀ j, j < l.length → w.cell? ⟨g, j, none⟩ = some (.int .u8 ((l.getD j 0).toNat : Int)) ∧ w.frozen? ⟨g, j, none⟩ = false

theorem ByRow.below {w w' : World} {g B : Nat} {l : List UInt8} (h : ByRow w g l) (hb : Below B w w') (hg : g < B) : ByRow w' g l :=
  ⟨Nat.lt_of_lt_of_le h.1 hb.size, fun j hj => ⟨(hb.cell (p := ⟨g, j, none⟩) hg).trans (h.2 j hj).1, (hb.frozen (p := ⟨g, j, none⟩) hg).trans (h.2 j hj).2⟩⟩
theorem ByRow.next {w w' : World} {g : Nat} {l : List UInt8} (h : ByRow w g l) (hb : Below w.heap.size w w') : ByRow w' g l := h.below hb h.1
theorem ByRow.drawn {w w' : World} {g : Nat} {l : List UInt8} (h : ByRow w g l) (hd : Drawn w w') : ByRow w' g l := h.next (hd.below _)
theorem ByRow.set {w : World} {g : Nat} {l : List UInt8} (h : ByRow w g l) (k : Nat) (c : UInt8) (hk : k < l.length) : ByRow (w.setCell ⟨g, k, none⟩ (.int .u8 (c.toNat : Int))) g (l.set k c) := by
  refine ⟨by simpa using h.1, fun j hj => ⟨?_, ?_⟩⟩
  · rw [List.length_set] at hj
    by_cases hjk : j = k
    · subst hjk
      rw [World.cell?_setCell_same w _ _ (h.2 j hj).1]
      simp [List.getD, hk]
    · rw [World.cell?_setCell_other w _ _ _ (by intro e; injection e with _ e _; exact hjk e.symm), (h.2 j hj).1]
      simp [List.getD, Ne.symm hjk]
  · rw [List.length_set] at hj
    rw [World.frozen?_setCell]
    exact (h.2 j hj).2
theorem ByRow.far {w : World} {g g' : Nat} {l : List UInt8} (h : ByRow w g l) (k : Nat) (v : Value) (hg : g' ≠ g) : ByRow (w.setCell ⟨g', k, none⟩ v) g l :=
  ⟨by simpa using h.1, fun j hj => ⟨by rw [World.cell?_setCell_other w _ _ _ (by intro e; injection e with e _ _; exact hg e)]; exact (h.2 j hj).1, by rw [World.frozen?_setCell]; exact (h.2 j hj).2⟩⟩
/-- What a conversion lays. -/
theorem byRow_new (w : World) (l : List UInt8) (E : TypeId) (cap m : Nat) (hm : l.length ≤ m) : ByRow (w.alloc (.cells (bytesRow ⟨l.toArray⟩ cap) E (m, m + 1))) w.heap.size l := by
  refine ⟨by simp, fun j hj => ⟨?_, ?_⟩⟩
  · rw [cell_of_row _ _ _ _ _ _ (heap_alloc_new w _)]
    unfold bytesRow
    rw [Array.getElem?_append_left (by simpa using hj)]
    simp [List.getD, hj]
  · have hh : (w.alloc (.cells (bytesRow ⟨l.toArray⟩ cap) E (m, m + 1))).heap[w.heap.size]? = some (.cells (bytesRow ⟨l.toArray⟩ cap) E (m, m + 1)) := heap_alloc_new w _
    unfold World.frozen?
    rw [hh]
    simp
    omega
theorem nums_get (l : List UInt8) (j : Nat) (hj : j < l.length) : (nums l).getD j 0 = ((l.getD j 0).toNat : Int) := by unfold nums; simp [List.getD, hj]
theorem ByRow.sl {w : World} {g : Nat} {l : List UInt8} (h : ByRow w g l) (c : Nat) : IntSl .u8 w (.slice (some ⟨g, 0, none⟩) l.length c) (nums l) :=
  Or.inr ⟨g, 0, c, by rw [nums_len], fun j hj => by rw [nums_len] at hj; rw [nums_get l j hj, Nat.zero_add]; exact (h.2 j hj).1⟩
theorem bytesRow_size (l : List UInt8) (cap : Nat) : l.length ≤ (bytesRow ⟨l.toArray⟩ cap).size := by unfold bytesRow; simp
theorem conv_new (l : List UInt8) (w : World) : ∃ (c : Nat) (w1 : World), (convert 9 41 (.string ⟨l.toArray⟩)).run Try.prog w = .ok (.slice (some ⟨w.heap.size, 0, none⟩) l.length c) w1 ∧ Hid (ByRow w1 w.heap.size l) ∧ Hid (Below w.heap.size w w1) ∧ w1.heap.size = w.heap.size + 1 := by
  have h := run_bytes_of_string (P := Try.prog) w 9 41 5 ⟨l.toArray⟩ Try.underlying9 Try.underlying41 Try.underlying5
  rw [show (ByteArray.mk l.toArray).size = l.length from by simp [ByteArray.size]] at h
  generalize grownCap w l.length 0 5 = c at h
  refine ⟨c, _, h, Lib.hid ?_, Lib.hid ?_, by simp⟩
  · exact byRow_new w.drew l _ c _ (bytesRow_size l c)
  · exact (Drawn.below ⟨1, rfl⟩ w.heap.size).alloc (Nat.le_refl _) _
end Go.Proofs.Ytkckddcibhbalaa
