/- Attributes in memory: a slice of them that the call itself made, and one that can be read, wherever it lies. -/
import Derived.Test.YtahohmdbiiknoaaDoorBR02
import Derived.Test.YtahohmdbiiknoaaDoorBR05
import Derived.Test.YtahohmdbiiknoaaDoorBR01
import Derived.Test.YtahohmdbiiknoaaDoorBR03
namespace Go.Proofs.YtahohmdbiiknoaaDoor
open Go.RowKit

def atV (x : At) : List Value := [strV x.1, strV x.2]
def cellsA (l : List At) : List Value := l.flatMap atV
theorem cellsA_len (l : List At) : (cellsA l).length = l.length * 2 := by
  induction l with
  | nil => rfl
  | cons x t ih => simp [cellsA, atV] at ih ⊢; omega
theorem cellsA_app (l m : List At) : cellsA (l ++ m) = cellsA l ++ cellsA m := by simp [cellsA]
theorem cellsA_one (x : At) : cellsA [x] = [strV x.1, strV x.2] := rfl
theorem cellsA_at : ∀ (l : List At) (j : Nat), j < l.length → (cellsA l)[j * 2]? = some (strV (l.getD j ([], [])).1) ∧ (cellsA l)[j * 2 + 1]? = some (strV (l.getD j ([], [])).2)
  | [], j, h => by simp at h
  | x :: t, 0, _ => ⟨rfl, rfl⟩
  | x :: t, j + 1, h => by
    have := cellsA_at t j (by simpa using h)
    have e : cellsA (x :: t) = strV x.1 :: strV x.2 :: cellsA t := rfl
    rw [e, show (j + 1) * 2 = j * 2 + 1 + 1 by omega, show j * 2 + 1 + 1 + 1 = (j * 2 + 1) + 1 + 1 by omega]
    simpa using this
theorem cellsA_one' (l : List At) : ∀ u ∈ cellsA l, u.oneCell' = true := by
  intro u hu
  simp only [cellsA, List.mem_flatMap, atV] at hu
  obtain ⟨x, _, hu⟩ := hu
  simp at hu
  rcases hu with rfl | rfl <;> rfl
/-- A slice of attributes that can be read. -/
def AtSl (w : World) (v : Value) (l : List At) : Prop :=
  (l = [] ∧ ∃ a c, v = .slice a 0 c) ∨ ∃ b off c, l.length ≤ c ∧ v = .slice (some ⟨b, off, none⟩) l.length c ∧
    ∀ j, j < l.length → w.cell? ⟨b, off + j * 2, none⟩ = some (strV (l.getD j ([], [])).1) ∧ w.cell? ⟨b, off + j * 2 + 1, none⟩ = some (strV (l.getD j ([], [])).2)
theorem AtSl.form {w : World} {v : Value} {l : List At} (h : AtSl w v l) : ∃ a c, v = .slice a l.length c := by
  rcases h with ⟨rfl, a, c, rfl⟩ | ⟨b, off, c, _, rfl, _⟩
  · exact ⟨a, c, rfl⟩
  · exact ⟨_, c, rfl⟩
theorem AtSl.next {w w' : World} {v : Value} {l : List At} (h : AtSl w v l) (hb : Below w.heap.size w w') : AtSl w' v l := by
  rcases h with h | ⟨b, off, c, hc, rfl, h⟩
  · exact Or.inl h
  · refine Or.inr ⟨b, off, c, hc, rfl, fun j hj => ?_⟩
    have h0 := h j hj
    have hlt := World.block_lt_of_cell? w ⟨b, off + j * 2, none⟩ h0.1
    exact ⟨(hb.cell (p := ⟨b, off + j * 2, none⟩) hlt).trans h0.1, (hb.cell (p := ⟨b, off + j * 2 + 1, none⟩) hlt).trans h0.2⟩
theorem AtSl.some {w : World} {v : Value} {l : List At} (h : AtSl w v l) (h0 : l ≠ []) : ∃ b off c, l.length ≤ c ∧ b < w.heap.size ∧ v = .slice (some ⟨b, off, none⟩) l.length c ∧
    ∀ j, j < l.length → w.cell? ⟨b, off + j * 2, none⟩ = some (strV (l.getD j ([], [])).1) ∧ w.cell? ⟨b, off + j * 2 + 1, none⟩ = some (strV (l.getD j ([], [])).2) := by
  rcases h with ⟨h, _⟩ | ⟨b, off, c, hc, hv, h⟩
  · exact absurd h h0
  · have hl : 0 < l.length := List.length_pos_iff.2 h0
    exact ⟨b, off, c, hc, World.block_lt_of_cell? w ⟨b, off + 0 * 2, none⟩ (h 0 hl).1, hv, h⟩
theorem AtSl.nil {w : World} {v : Value} {l : List At} (h : AtSl w v l) (h0 : l = []) : ∃ a c, v = .slice a 0 c := by
  obtain ⟨a, c, e⟩ := h.form
  subst h0
  exact ⟨a, c, e⟩
theorem atSl_nil (w : World) (a : Option Addr) (c : Nat) : AtSl w (.slice a 0 c) [] := Or.inl ⟨rfl, a, c, rfl⟩
end Go.Proofs.YtahohmdbiiknoaaDoor

/- Tokens and nodes in memory: slices of them that can be read, wherever they lie; a row of nodes that the call itself made. -/
namespace Go.Proofs.YtahohmdbiiknoaaDoor
open Go.RowKit

/-- A token's four cells. -/
structure TokAt (w : World) (b o : Nat) (t : Tk) (v : Value) : Prop where
  c0 : w.cell? ⟨b, o, none⟩ = some (.int .i64 t.kind)
  c1 : w.cell? ⟨b, o + 1, none⟩ = some (strV t.name)
  c2 : w.cell? ⟨b, o + 2, none⟩ = some v
  c3 : w.cell? ⟨b, o + 3, none⟩ = some (strV t.text)
/-- A node's. -/
structure NdAt (w : World) (b o : Nat) (x : Nd) (v : Value) : Prop where
  c0 : w.cell? ⟨b, o, none⟩ = some (strV x.name)
  c1 : w.cell? ⟨b, o + 1, none⟩ = some v
  c2 : w.cell? ⟨b, o + 2, none⟩ = some (strV x.text)
  c3 : w.cell? ⟨b, o + 3, none⟩ = some (.int .i64 x.up)
theorem TokAt.next {w w' : World} {b o : Nat} {t : Tk} {v : Value} (h : TokAt w b o t v) (hb : Below w.heap.size w w') : TokAt w' b o t v := by
  have hlt := World.block_lt_of_cell? w ⟨b, o, none⟩ h.c0
  have hc : ∀ k, w'.cell? ⟨b, k, none⟩ = w.cell? ⟨b, k, none⟩ := fun k => hb.cell (p := ⟨b, k, none⟩) hlt
  exact ⟨(hc _).trans h.c0, (hc _).trans h.c1, (hc _).trans h.c2, (hc _).trans h.c3⟩
theorem NdAt.next {w w' : World} {b o : Nat} {x : Nd} {v : Value} (h : NdAt w b o x v) (hb : Below w.heap.size w w') : NdAt w' b o x v := by
  have hlt := World.block_lt_of_cell? w ⟨b, o, none⟩ h.c0
  have hc : ∀ k, w'.cell? ⟨b, k, none⟩ = w.cell? ⟨b, k, none⟩ := fun k => hb.cell (p := ⟨b, k, none⟩) hlt
  exact ⟨(hc _).trans h.c0, (hc _).trans h.c1, (hc _).trans h.c2, (hc _).trans h.c3⟩
/-- A slice of tokens that can be read: P tells each one, with its attributes' slice. -/
def TkSl (w : World) (v : Value) (P : List (Tk × Value)) : Prop :=
  ((P = [] ∧ ∃ a c, v = .slice a 0 c) ∨ ∃ b off c, P.length ≤ c ∧ v = .slice (some ⟨b, off, none⟩) P.length c ∧ ∀ j (hj : j < P.length), TokAt w b (off + j * 4) (P[j]'hj).1 (P[j]'hj).2) ∧ ∀ p ∈ P, AtSl w p.2 p.1.attrs
/-- A slice of nodes that can be read. -/
def NdSl (w : World) (v : Value) (P : List (Nd × Value)) : Prop :=
  ((P = [] ∧ ∃ a c, v = .slice a 0 c) ∨ ∃ b off c, P.length ≤ c ∧ v = .slice (some ⟨b, off, none⟩) P.length c ∧ ∀ j (hj : j < P.length), NdAt w b (off + j * 4) (P[j]'hj).1 (P[j]'hj).2) ∧ ∀ p ∈ P, AtSl w p.2 p.1.attrs
section
variable {w w' : World} {v : Value}
theorem TkSl.form {P : List (Tk × Value)} (h : TkSl w v P) : ∃ a c, v = .slice a P.length c := by
  rcases h.1 with ⟨rfl, a, c, rfl⟩ | ⟨b, off, c, _, rfl, _⟩
  · exact ⟨a, c, rfl⟩
  · exact ⟨_, c, rfl⟩
theorem NdSl.form {P : List (Nd × Value)} (h : NdSl w v P) : ∃ a c, v = .slice a P.length c := by
  rcases h.1 with ⟨rfl, a, c, rfl⟩ | ⟨b, off, c, _, rfl, _⟩
  · exact ⟨a, c, rfl⟩
  · exact ⟨_, c, rfl⟩
theorem TkSl.next {P : List (Tk × Value)} (h : TkSl w v P) (hb : Below w.heap.size w w') : TkSl w' v P := by
  refine ⟨?_, fun p hp => (h.2 p hp).next hb⟩
  rcases h.1 with k | ⟨b, off, c, hc, hv, k⟩
  · exact Or.inl k
  · exact Or.inr ⟨b, off, c, hc, hv, fun j hj => (k j hj).next hb⟩
theorem NdSl.next {P : List (Nd × Value)} (h : NdSl w v P) (hb : Below w.heap.size w w') : NdSl w' v P := by
  refine ⟨?_, fun p hp => (h.2 p hp).next hb⟩
  rcases h.1 with k | ⟨b, off, c, hc, hv, k⟩
  · exact Or.inl k
  · exact Or.inr ⟨b, off, c, hc, hv, fun j hj => (k j hj).next hb⟩
/-- The place of its cells, and each node there, in any world that left alone what was there. -/
theorem NdSl.some {P : List (Nd × Value)} (h : NdSl w v P) (h0 : 0 < P.length) : ∃ b off c, P.length ≤ c ∧ b < w.heap.size ∧ v = .slice (some ⟨b, off, none⟩) P.length c ∧ ∀ j (hj : j < P.length), NdAt w b (off + j * 4) (P[j]'hj).1 (P[j]'hj).2 := by
  rcases h.1 with ⟨rfl, _⟩ | ⟨b, off, c, hc, hv, h⟩
  · simp at h0
  · exact ⟨b, off, c, hc, World.block_lt_of_cell? w ⟨b, off + 0 * 4, none⟩ (h 0 h0).c0, hv, h⟩
theorem TkSl.some {P : List (Tk × Value)} (h : TkSl w v P) (h0 : 0 < P.length) : ∃ b off c, P.length ≤ c ∧ b < w.heap.size ∧ v = .slice (some ⟨b, off, none⟩) P.length c ∧ ∀ j (hj : j < P.length), TokAt w b (off + j * 4) (P[j]'hj).1 (P[j]'hj).2 := by
  rcases h.1 with ⟨rfl, _⟩ | ⟨b, off, c, hc, hv, h⟩
  · simp at h0
  · exact ⟨b, off, c, hc, World.block_lt_of_cell? w ⟨b, off + 0 * 4, none⟩ (h 0 h0).c0, hv, h⟩
theorem NdSl.atsAt {P : List (Nd × Value)} (h : NdSl w v P) (j : Nat) (hj : j < P.length) : AtSl w (P[j]'hj).2 (P[j]'hj).1.attrs := h.2 _ (List.getElem_mem hj)
theorem TkSl.atsAt {P : List (Tk × Value)} (h : TkSl w v P) (j : Nat) (hj : j < P.length) : AtSl w (P[j]'hj).2 (P[j]'hj).1.attrs := h.2 _ (List.getElem_mem hj)
end
/-- The nodes alone. -/
abbrev nodes (P : List (Nd × Value)) : List Nd := P.map Prod.fst
theorem nodes_len (P : List (Nd × Value)) : (nodes P).length = P.length := by unfold nodes; simp
theorem nodes_at {P : List (Nd × Value)} {j : Nat} (h : j < P.length) : (P[j]'h).1 = atN (nodes P) (j : Int) := by
  unfold atN nodes
  simp [List.getD, h]
def ndV (p : Nd × Value) : List Value := [strV p.1.name, p.2, strV p.1.text, .int .i64 p.1.up]
def cellsN (P : List (Nd × Value)) : List Value := P.flatMap ndV
theorem cellsN_app (l m : List (Nd × Value)) : cellsN (l ++ m) = cellsN l ++ cellsN m := by simp [cellsN]
theorem cellsN_at : ∀ (P : List (Nd × Value)) (j : Nat) (h : j < P.length), (cellsN P)[j * 4]? = some (strV (P[j]'h).1.name) ∧ (cellsN P)[j * 4 + 1]? = some (P[j]'h).2 ∧ (cellsN P)[j * 4 + 2]? = some (strV (P[j]'h).1.text) ∧ (cellsN P)[j * 4 + 3]? = some (.int .i64 (P[j]'h).1.up)
  | [], j, h => by simp at h
  | x :: t, 0, _ => ⟨rfl, rfl, rfl, rfl⟩
  | x :: t, j + 1, h => by
    have h' : j < t.length := by simpa using h
    have := cellsN_at t j h'
    have e : cellsN (x :: t) = strV x.1.name :: x.2 :: strV x.1.text :: .int .i64 x.1.up :: cellsN t := rfl
    have e1 : ∀ i, (cellsN (x :: t))[(j + 1) * 4 + i]? = (cellsN t)[j * 4 + i]? := fun i => by
      rw [e, show (j + 1) * 4 + i = (j * 4 + i) + 1 + 1 + 1 + 1 by omega]; simp only [List.getElem?_cons_succ]
    have e0 := e1 0
    rw [Nat.add_zero, Nat.add_zero] at e0
    rw [e0, e1, e1, e1]
    simpa using this
end Go.Proofs.YtahohmdbiiknoaaDoor

/- Slices of numbers that can be read, over calls; slices of int that the call itself made; the bounds of a kind. -/
namespace Go.Proofs.YtahohmdbiiknoaaDoor
open Go.RowKit

theorem bd_u64 {x : Int} (hx : (Lit.int .u64 x).wf = true) : 0 ≤ x ∧ x ≤ 18446744073709551615 := by
  simp [Lit.wf, IntKind.min, IntKind.max, IntKind.bits, IntKind.signed] at hx
  omega
theorem bd_u64s {xs : List Int} (hx : ∀ x ∈ xs, (Lit.int .u64 x).wf = true) : ∀ x ∈ xs, 0 ≤ x ∧ x ≤ 18446744073709551615 := fun x hm => bd_u64 (hx x hm)
theorem bd_u8 {n : Int} (h : (Lit.int .u8 n).wf = true) : 0 ≤ n ∧ n ≤ 255 := by
  simp [Lit.wf, IntKind.min, IntKind.max, IntKind.bits, IntKind.signed] at h
  omega
theorem bd_i64 {n : Int} (h : (Lit.int .i64 n).wf = true) : -9223372036854775808 ≤ n ∧ n ≤ 9223372036854775807 := by
  simp [Lit.wf, IntKind.min, IntKind.max, IntKind.bits, IntKind.signed] at h
  omega

/-- A slice of numbers that can be read, over calls. -/
structure RdSl (k : IntKind) (w : World) (v : Value) (xs : List Int) : Prop where
  sl : IntSl k w v xs
  low : SlBelow w.heap.size v
theorem RdSl.next {k : IntKind} {w w' : World} {v : Value} {xs : List Int} (h : RdSl k w v xs) (hb : Below w.heap.size w w') : RdSl k w' v xs := ⟨h.sl.below hb h.low, h.low.mono hb.size⟩
theorem info_int : (Tryd.prog.info? 3).map (fun i => (i.zero, i.size, i.bytes)) = some (some (.int .i64 0), 1, 8) := by kernel_rfl
/-- A slice of int that the call itself made. -/
def Ints (w : World) (B : Nat) (v : Value) (xs : List Int) : Prop := w.ownsRow B 3 1 v xs.length (xs.map (Value.int .i64))
theorem Ints.rd {w : World} {B : Nat} {v : Value} {xs : List Int} (h : Ints w B v xs) : RdSl .i64 w v xs := ⟨intSl_own h, slBelow_own h⟩
theorem ints_one {w : World} {B : Nat} {v : Value} {xs : List Int} {y : Int} (h : w.ownsRow B 3 1 v (xs.length + 1) (xs.map (Value.int .i64) ++ [.int .i64 y])) : Ints w B v (xs ++ [y]) := by
  unfold Ints; rw [List.length_append, List.map_append]; exact h
end Go.Proofs.YtahohmdbiiknoaaDoor

/- Layer 12: places; faults; attributes of a node; a node's kids, and the named ones. -/
namespace Go.Proofs.YtahohmdbiiknoaaDoor
open Go.RowKit

theorem attrB_cons (a : At) (t : List At) (nm : List UInt8) : attrB (a :: t) nm = if (a.1 == nm) = true then (a.2, true) else attrB t nm := by
  unfold attrB
  cases h : (a.1 == nm) <;> simp [h]
/-- A node as an argument. -/
def ndA (x : Nd) (va : Value) : Value := .agg #[.string ⟨x.name.toArray⟩, va, .string ⟨x.text.toArray⟩, .int .i64 x.up]
/-- What Attr answers. -/
def AttrPost (w : World) (o : List UInt8 × Bool) (e : Ending) (w' : World) : Prop := e = .returned (.tuple #[.string ⟨o.1.toArray⟩, .bool o.2]) ∧ Below w.heap.size w w'
theorem AttrPost.mk {w w' : World} {o : List UInt8 × Bool} {s : List UInt8} {b : Bool} (ho : o = (s, b)) (hb : Below w.heap.size w w') : AttrPost w o (.returned (.tuple #[.string ⟨s.toArray⟩, .bool b])) w' := by subst ho; exact ⟨rfl, hb⟩
theorem drop_at {α : Type} (l : List α) (d : α) (k : Nat) (h : k < l.length) : l.drop k = l.getD k d :: l.drop (k + 1) := by
  rw [List.drop_eq_getElem_cons h]
  simp [List.getD, h]

end Go.Proofs.YtahohmdbiiknoaaDoor

/- Layer 12: a node's kids, the program's and the reference's. -/
namespace Go.Proofs.YtahohmdbiiknoaaDoor
open Go.RowKit

/-- What the loop of Kids keeps. -/
structure KidAt (P : List (Nd × Value)) (i : Int) (w : World) (k : Nat) (u : Value) (wr : World) : Prop where
  own : Ints wr w.heap.size u (kidsTo (nodes P) i k)
  below : Below w.heap.size w wr
/-- A slice of places. -/
def IntsPost (xs : List Int) (w : World) (e : Ending) (w' : World) : Prop := ∃ v, e = .returned v ∧ Ints w' w.heap.size v xs ∧ Below w.heap.size w w'
theorem IntsPost.mk {xs ys : List Int} {w w' : World} {v : Value} (hx : xs = ys) (h : Ints w' w.heap.size v ys) (hb : Below w.heap.size w w') : IntsPost xs w (.returned v) w' := by subst hx; exact ⟨v, rfl, h, hb⟩
theorem IntsPost.nil {xs : List Int} {w w' : World} (hx : xs = []) (hb : Below w.heap.size w w') : IntsPost xs w (.returned (.slice none 0 0)) w' := by subst hx; exact ⟨_, rfl, World.ownsRow_nil _ _ _ _, hb⟩
theorem place_nodes {P : List (Nd × Value)} {i : Int} : placeB (nodes P) i = (decide (0 ≤ i) && decide (i < (P.length : Int))) := by unfold placeB nodes; simp

end Go.Proofs.YtahohmdbiiknoaaDoor

/- Layer 12: the kids of a name, the program's and the reference's; same. -/
namespace Go.Proofs.YtahohmdbiiknoaaDoor
open Go.RowKit

/-- Of the first k those that f lets through. -/
def filtTo (f : Int → Bool) (xs : List Int) (k : Nat) : List Int := (xs.take k).filter f
theorem filtTo_next (f : Int → Bool) (xs : List Int) (k : Nat) (h : k < xs.length) : filtTo f xs (k + 1) = filtTo f xs k ++ if f (xs.getD k 0) = true then [xs.getD k 0] else [] := by
  unfold filtTo
  rw [List.take_add_one, List.filter_append]
  congr 1
  simp only [List.getElem?_eq_getElem h, Option.toList_some, List.getD, Option.getD_some]
  by_cases e : f xs[k] = true
  · simp [e]
  · simp [e]
theorem filtTo_all (f : Int → Bool) (xs : List Int) : filtTo f xs xs.length = xs.filter f := by unfold filtTo; rw [List.take_length]
def nmF (l : List Nd) (nm : List UInt8) (j : Int) : Bool := (atN l j).name == nm && nm != []
theorem namedB_eq (l : List Nd) (i : Int) (nm : List UInt8) : namedB l i nm = (kidsB l i).filter (nmF l nm) := by
  unfold namedB nmF
  by_cases h : nm = []
  · subst h; simp
  · rw [if_neg h]
    congr 1
    funext j
    rw [show (nm != []) = true by rw [bne_iff_ne]; exact h, Bool.and_true]
/-- What the loop of Named keeps. -/
structure NamAt (f : Int → Bool) (xs : List Int) (w1 : World) (k : Nat) (u : Value) (wr : World) : Prop where
  own : Ints wr w1.heap.size u (filtTo f xs k)
  below : Below w1.heap.size w1 wr

end Go.Proofs.YtahohmdbiiknoaaDoor
