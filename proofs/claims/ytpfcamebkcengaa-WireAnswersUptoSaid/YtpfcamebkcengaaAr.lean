/- An array that the call itself made, as a row of its own: read, written, cell by cell and whole. -/
import Derived.Test.YtpfcamebkcengaaBase
import Derived.Deep.MidRow
import Derived.Deep.DeepMust
namespace Go.Proofs.Ytpfcamebkcengaa
open Go.RowKit

/-- Block g is a row of the cells c, and may be written. -/
def ArrAt (w : World) (g : Nat) (t : TypeId) (c : List Value) : Prop := w.heap[g]? = some (.cells c.toArray t (0, 0))
theorem arrAt_new (w : World) (t : TypeId) (c : List Value) : ArrAt (w.alloc (.cells c.toArray t)) w.heap.size t c := heap_alloc_new w _
theorem ArrAt.cell {w : World} {g : Nat} {t : TypeId} {c : List Value} (h : ArrAt w g t c) (k : Nat) : w.cell? ⟨g, k, none⟩ = c[k]? := by
  rw [cell_of_row w g k _ t _ h]; simp
theorem ArrAt.soft {w : World} {g : Nat} {t : TypeId} {c : List Value} (h : ArrAt w g t c) (k : Nat) : w.frozen? ⟨g, k, none⟩ = false := frozen_of_row w g k _ t h
theorem ArrAt.lt {w : World} {g : Nat} {t : TypeId} {c : List Value} (h : ArrAt w g t c) : g < w.heap.size := (Array.getElem?_eq_some_iff.1 h).1
theorem ArrAt.set {w : World} {g : Nat} {t : TypeId} {c : List Value} (h : ArrAt w g t c) (k : Nat) (v : Value) : ArrAt (w.setCell ⟨g, k, none⟩ v) g t (c.set k v) := by
  unfold ArrAt
  rw [heap_setCell_same w g k _ t v h]
  simp
theorem ArrAt.far {w : World} {g g' : Nat} {t : TypeId} {c : List Value} (h : ArrAt w g t c) (k : Nat) (v : Value) (hg : g ≠ g') : ArrAt (w.setCell ⟨g', k, none⟩ v) g t c := by
  unfold ArrAt
  rw [heap_setCell_other w _ _ v hg]; exact h
theorem ArrAt.below {w w' : World} {g B : Nat} {t : TypeId} {c : List Value} (h : ArrAt w g t c) (hb : Below B w w') (hg : g < B) : ArrAt w' g t c := (hb.block g hg).trans h
theorem ArrAt.next {w w' : World} {g : Nat} {t : TypeId} {c : List Value} (h : ArrAt w g t c) (hb : Below w.heap.size w w') : ArrAt w' g t c := h.below hb h.lt
theorem ArrAt.drawn {w w' : World} {g : Nat} {t : TypeId} {c : List Value} (h : ArrAt w g t c) (hd : Drawn w w') : ArrAt w' g t c := h.next (hd.below _)
theorem ArrAt.range {w : World} {g : Nat} {t : TypeId} {c : List Value} (h : ArrAt w g t c) : w.rangeAt g 0 c := fun j v hv => by rw [Nat.zero_add, h.cell j]; exact hv
theorem ArrAt.there {w : World} {g : Nat} {t : TypeId} {c : List Value} (h : ArrAt w g t c) : w.there g 0 c.length := fun j hj => by
  rw [Nat.zero_add]; exact ⟨by rw [h.cell j]; simp [hj], h.soft j⟩
theorem setCells_row (t : TypeId) (g : Nat) : ∀ (vs pre post : List Value) (w : World), ArrAt w g t (pre ++ post) → vs.length = post.length → ArrAt (w.setCells g pre.length vs) g t (pre ++ vs)
  | [], pre, post, w, h, hl => by
    obtain rfl : post = [] := List.length_eq_zero_iff.1 hl.symm
    exact h
  | v :: vs, pre, post, w, h, hl => by
    cases post with
    | nil => simp at hl
    | cons p post =>
      have h2 := setCells_row t g vs (pre ++ [v]) post (w.setCell ⟨g, pre.length, none⟩ v) (by
        have := h.set pre.length v
        simpa [List.set_append_right] using this) (by simpa using hl)
      simp only [List.length_append, List.length_cons, List.length_nil, List.append_assoc, List.singleton_append] at h2
      exact h2
/-- A whole array, stored over one of as many cells. -/
theorem ArrAt.whole {w : World} {g : Nat} {t : TypeId} {c c' : List Value} (h : ArrAt w g t c) (hl : c'.length = c.length) : ArrAt (w.setCells g 0 c') g t c' := setCells_row t g c' [] c w h hl
theorem below_setCells {B : Nat} {a : World} (g : Nat) (hg : B ≤ g) : ∀ (vs : List Value) (o : Nat) (w : World), Below B a w → Below B a (w.setCells g o vs)
  | [], _, _, h => h
  | v :: vs, o, _, h => below_setCells g hg vs (o + 1) _ (h.setCell (p := ⟨g, o, none⟩) hg v)
/-- A result that lies in a row of its own. -/
theorem results_row {P : Program} {fn : Func} {p : Tmp} {ty : TypeId} (h : fn.results = #[.cell p ty]) (tmps : Array Value) (w : World) (g : Nat) (c : List Value) (n : Nat) (e t : TypeId) (hp : tmps.getD p undef = .pointer (some ⟨g, 0, none⟩)) (hr : ArrAt w g t c)
    (hu : P.underlying ty = some (.array n e)) (hi : (P.info? ty).map (·.size) = some c.length) : (results fn tmps).run P w = .ok (.agg c.toArray) w := by
  have hl := run_loadVar_mid (P := P) w g 0 ty c (.array n e) hr.range hu rfl hi
  have hp' : tmps[p]?.getD undef = .pointer (some ⟨g, 0, none⟩) := by simpa using hp
  simp only [results, h]
  simp [hp', asAddr, hl]
/-- A whole array, stored over one of as many cells: of the world behind it what matters. -/
theorem wpList_store_arr {P : Program} {ops : Array Oper} {rest : List Oper} {op : Oper} {a : Act} {w : World} {Q : Exit → Act → World → Prop} (hgd : op.guard = none) (ty : TypeId) (x y : Operand) (ho : op.op = .store ty x y)
    (g : Nat) (t : TypeId) (c c' : List Value) (hx : a.eval x = .pointer (some ⟨g, 0, none⟩)) (hy : a.eval y = .agg c'.toArray) (hr : ArrAt w g t c) (hl : c'.length = c.length) (hi : (P.info? ty).map (·.size) = some c'.length) (h1 : ∀ v ∈ c', v.oneCell' = true)
    (h : ∀ w', Hid (ArrAt w' g t c') → Hid (∀ B a0, B ≤ g → Below B a0 w → Below B a0 w') → wpList P ops Q rest (a.put op.dst undef) w') : wpList P ops Q (op :: rest) a w :=
  wpList_store_mid hgd ty x y ho g 0 c'.toArray hx hy (by have := hr.there; rw [← hl] at this; simpa using this) (by simpa using hi) (all_oneCell_toArray h1) (h _ (hr.whole hl) (fun _ _ hB hb => below_setCells g hB _ _ _ hb))
end Go.Proofs.Ytpfcamebkcengaa
