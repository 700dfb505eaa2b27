/- Tokens and nodes in memory: slices of them that can be read, wherever they lie; a row of nodes that the call itself made. -/
import Derived.Test.YtodocdbnflmgnaaDoorAt
import Derived.Test.YtodocdbnflmgnaaDoorD12p
namespace Go.Proofs.YtodocdbnflmgnaaDoor
open Go.RowKit

/-- A token's four cells. -/
structure TokAt (w : World) (b o : Nat) (t : Tk) (v : Value) : Prop where
  c0 : w.cell? ⟨b, o, none⟩ = some (.int .i64 t.kind)
  c1 : w.cell? ⟨b, o + 1, none⟩ = some (strV t.name)
  c2 : w.cell? ⟨b, o + 2, none⟩ = some v
  c3 : w.cell? ⟨b, o + 3, none⟩ = some (strV t.text)
/-- A node's. -/
structure NdAt (w : World) (b o : Nat) (x : Nd) (v : Value) : Prop where
  c0 : w.cell? ⟨b, o, none⟩ = some (strV x.name)
  c1 : w.cell? ⟨b, o + 1, none⟩ = some v
  c2 : w.cell? ⟨b, o + 2, none⟩ = some (strV x.text)
  c3 : w.cell? ⟨b, o + 3, none⟩ = some (.int .i64 x.up)
theorem TokAt.next {w w' : World} {b o : Nat} {t : Tk} {v : Value} (h : TokAt w b o t v) (hb : Below w.heap.size w w') : TokAt w' b o t v := by
  have hlt := World.block_lt_of_cell? w ⟨b, o, none⟩ h.c0
  have hc : ∀ k, w'.cell? ⟨b, k, none⟩ = w.cell? ⟨b, k, none⟩ := fun k => hb.cell (p := ⟨b, k, none⟩) hlt
  exact ⟨(hc _).trans h.c0, (hc _).trans h.c1, (hc _).trans h.c2, (hc _).trans h.c3⟩
theorem NdAt.next {w w' : World} {b o : Nat} {x : Nd} {v : Value} (h : NdAt w b o x v) (hb : Below w.heap.size w w') : NdAt w' b o x v := by
  have hlt := World.block_lt_of_cell? w ⟨b, o, none⟩ h.c0
  have hc : ∀ k, w'.cell? ⟨b, k, none⟩ = w.cell? ⟨b, k, none⟩ := fun k => hb.cell (p := ⟨b, k, none⟩) hlt
  exact ⟨(hc _).trans h.c0, (hc _).trans h.c1, (hc _).trans h.c2, (hc _).trans h.c3⟩
/-- A slice of tokens that can be read: P tells each one, with its attributes' slice. -/
def TkSl (w : World) (v : Value) (P : List (Tk × Value)) : Prop :=
  ((P = [] ∧ ∃ a c, v = .slice a 0 c) ∨ ∃ b off c, P.length ≤ c ∧ v = .slice (some ⟨b, off, none⟩) P.length c ∧ ∀ j (hj : j < P.length), TokAt w b (off + j * 4) (P[j]'hj).1 (P[j]'hj).2) ∧ ∀ p ∈ P, AtSl w p.2 p.1.attrs
/-- A slice of nodes that can be read. -/
def NdSl (w : World) (v : Value) (P : List (Nd × Value)) : Prop :=
  ((P = [] ∧ ∃ a c, v = .slice a 0 c) ∨ ∃ b off c, P.length ≤ c ∧ v = .slice (some ⟨b, off, none⟩) P.length c ∧ ∀ j (hj : j < P.length), NdAt w b (off + j * 4) (P[j]'hj).1 (P[j]'hj).2) ∧ ∀ p ∈ P, AtSl w p.2 p.1.attrs
section
variable {w w' : World} {v : Value}
theorem TkSl.form {P : List (Tk × Value)} (h : TkSl w v P) : ∃ a c, v = .slice a P.length c := by
  rcases h.1 with ⟨rfl, a, c, rfl⟩ | ⟨b, off, c, _, rfl, _⟩
  · exact ⟨a, c, rfl⟩
  · exact ⟨_, c, rfl⟩
theorem NdSl.form {P : List (Nd × Value)} (h : NdSl w v P) : ∃ a c, v = .slice a P.length c := by
  rcases h.1 with ⟨rfl, a, c, rfl⟩ | ⟨b, off, c, _, rfl, _⟩
  · exact ⟨a, c, rfl⟩
  · exact ⟨_, c, rfl⟩
theorem TkSl.next {P : List (Tk × Value)} (h : TkSl w v P) (hb : Below w.heap.size w w') : TkSl w' v P := by
  refine ⟨?_, fun p hp => (h.2 p hp).next hb⟩
  rcases h.1 with k | ⟨b, off, c, hc, hv, k⟩
  · exact Or.inl k
  · exact Or.inr ⟨b, off, c, hc, hv, fun j hj => (k j hj).next hb⟩
theorem NdSl.next {P : List (Nd × Value)} (h : NdSl w v P) (hb : Below w.heap.size w w') : NdSl w' v P := by
  refine ⟨?_, fun p hp => (h.2 p hp).next hb⟩
  rcases h.1 with k | ⟨b, off, c, hc, hv, k⟩
  · exact Or.inl k
  · exact Or.inr ⟨b, off, c, hc, hv, fun j hj => (k j hj).next hb⟩
/-- The place of its cells, and each node there, in any world that left alone what was there. -/
theorem NdSl.some {P : List (Nd × Value)} (h : NdSl w v P) (h0 : 0 < P.length) : ∃ b off c, P.length ≤ c ∧ b < w.heap.size ∧ v = .slice (some ⟨b, off, none⟩) P.length c ∧ ∀ j (hj : j < P.length), NdAt w b (off + j * 4) (P[j]'hj).1 (P[j]'hj).2 := by
  rcases h.1 with ⟨rfl, _⟩ | ⟨b, off, c, hc, hv, h⟩
  · simp at h0
  · exact ⟨b, off, c, hc, World.block_lt_of_cell? w ⟨b, off + 0 * 4, none⟩ (h 0 h0).c0, hv, h⟩
theorem TkSl.some {P : List (Tk × Value)} (h : TkSl w v P) (h0 : 0 < P.length) : ∃ b off c, P.length ≤ c ∧ b < w.heap.size ∧ v = .slice (some ⟨b, off, none⟩) P.length c ∧ ∀ j (hj : j < P.length), TokAt w b (off + j * 4) (P[j]'hj).1 (P[j]'hj).2 := by
  rcases h.1 with ⟨rfl, _⟩ | ⟨b, off, c, hc, hv, h⟩
  · simp at h0
  · exact ⟨b, off, c, hc, World.block_lt_of_cell? w ⟨b, off + 0 * 4, none⟩ (h 0 h0).c0, hv, h⟩
theorem NdSl.atsAt {P : List (Nd × Value)} (h : NdSl w v P) (j : Nat) (hj : j < P.length) : AtSl w (P[j]'hj).2 (P[j]'hj).1.attrs := h.2 _ (List.getElem_mem hj)
theorem TkSl.atsAt {P : List (Tk × Value)} (h : TkSl w v P) (j : Nat) (hj : j < P.length) : AtSl w (P[j]'hj).2 (P[j]'hj).1.attrs := h.2 _ (List.getElem_mem hj)
end
/-- The nodes alone. -/
abbrev nodes (P : List (Nd × Value)) : List Nd := P.map Prod.fst
theorem nodes_len (P : List (Nd × Value)) : (nodes P).length = P.length := by unfold nodes; simp
theorem nodes_at {P : List (Nd × Value)} {j : Nat} (h : j < P.length) : (P[j]'h).1 = atN (nodes P) (j : Int) := by
  unfold atN nodes
  simp [List.getD, h]
def ndV (p : Nd × Value) : List Value := [strV p.1.name, p.2, strV p.1.text, .int .i64 p.1.up]
def cellsN (P : List (Nd × Value)) : List Value := P.flatMap ndV
theorem cellsN_app (l m : List (Nd × Value)) : cellsN (l ++ m) = cellsN l ++ cellsN m := by simp [cellsN]
theorem cellsN_at : ∀ (P : List (Nd × Value)) (j : Nat) (h : j < P.length), (cellsN P)[j * 4]? = some (strV (P[j]'h).1.name) ∧ (cellsN P)[j * 4 + 1]? = some (P[j]'h).2 ∧ (cellsN P)[j * 4 + 2]? = some (strV (P[j]'h).1.text) ∧ (cellsN P)[j * 4 + 3]? = some (.int .i64 (P[j]'h).1.up)
  | [], j, h => by simp at h
  | x :: t, 0, _ => ⟨rfl, rfl, rfl, rfl⟩
  | x :: t, j + 1, h => by
    have h' : j < t.length := by simpa using h
    have := cellsN_at t j h'
    have e : cellsN (x :: t) = strV x.1.name :: x.2 :: strV x.1.text :: .int .i64 x.1.up :: cellsN t := rfl
    have e1 : ∀ i, (cellsN (x :: t))[(j + 1) * 4 + i]? = (cellsN t)[j * 4 + i]? := fun i => by
      rw [e, show (j + 1) * 4 + i = (j * 4 + i) + 1 + 1 + 1 + 1 by omega]; simp only [List.getElem?_cons_succ]
    have e0 := e1 0
    rw [Nat.add_zero, Nat.add_zero] at e0
    rw [e0, e1, e1, e1]
    simpa using this
/-- A row of nodes that the call itself made. -/
def OwnN (w : World) (B : Nat) (v : Value) (P : List (Nd × Value)) : Prop := w.ownsRow B 44 4 v P.length (cellsN P)
theorem ownN_nil (w : World) (B : Nat) : OwnN w B (.slice none 0 0) [] := World.ownsRow_nil _ _ _ _
theorem info_node : (Tryd.prog.info? 44).map (fun i => (i.zero, i.size, i.bytes)) = some (some (.agg #[.string ⟨#[]⟩, .slice none 0 0, .string ⟨#[]⟩, .int .i64 0]), 4, 64) := by kernel_rfl
/-- The cells of a node in such a row. -/
theorem OwnN.at {w : World} {B : Nat} {v : Value} {P : List (Nd × Value)} (h : OwnN w B v P) {j : Nat} (hj : j < P.length) : ∃ g cap, v = .slice (some ⟨g, 0, none⟩) P.length cap ∧ B ≤ g ∧ g < w.heap.size ∧ P.length ≤ cap ∧ v.ownBlock = some g ∧ NdAt w g (j * 4) (P[j]'hj).1 (P[j]'hj).2 := by
  have hlt := World.ownsRow.lt h
  have hcg := fun g hv => World.ownsRow.cells h (g := g) hv
  rcases h.2 with ⟨_, hn⟩ | ⟨g, cap, cur, hv, _, _, hcap, _⟩
  · omega
  · have hob : v.ownBlock = some g := by rw [hv]; rfl
    obtain ⟨e0, e1, e2, e3⟩ := cellsN_at P j hj
    have hadd : ∀ i, (⟨g, 0, none⟩ : Addr).add i = ⟨g, i, none⟩ := fun i => by unfold Addr.add; split <;> simp_all
    have h0 := hcg g hob _ _ e0
    have h1 := hcg g hob _ _ e1
    have h2 := hcg g hob _ _ e2
    have h3 := hcg g hob _ _ e3
    rw [hadd] at h0 h1 h2 h3
    exact ⟨g, cap, hv, (hlt g hob).1, (hlt g hob).2, hcap, hob, h0, h1, h2, h3⟩
theorem OwnN.sl {w : World} {B : Nat} {v : Value} {P : List (Nd × Value)} (h : OwnN w B v P) (ha : ∀ p ∈ P, AtSl w p.2 p.1.attrs) : NdSl w v P := by
  refine ⟨?_, ha⟩
  by_cases h0 : P = []
  · obtain ⟨a, c, e⟩ := own_form h
    subst h0
    exact Or.inl ⟨rfl, a, c, e⟩
  · have hp : 0 < P.length := List.length_pos_iff.2 h0
    obtain ⟨g, cap, hv, _, _, hcap, _⟩ := h.at hp
    refine Or.inr ⟨g, 0, cap, hcap, hv, fun j hj => ?_⟩
    obtain ⟨g', cap', hv', _, _, _, _, hat⟩ := h.at hj
    rw [hv] at hv'
    injection hv' with e _ _
    injection e with e
    injection e with e
    subst e
    rw [Nat.zero_add]
    exact hat
end Go.Proofs.YtodocdbnflmgnaaDoor
