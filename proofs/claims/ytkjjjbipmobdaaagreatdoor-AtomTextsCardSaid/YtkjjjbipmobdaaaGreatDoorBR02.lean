/- A listed datum that is an interface, opened; a nil pointer is none. -/
import Derived.Test.YtkjjjbipmobdaaaGreatDoorBR01
import Derived.Laws.OwnMore
import Derived.Maps.AppendAt
namespace Go.Proofs.YtkjjjbipmobdaaaGreatDoor
open Go.ChangeShapes Go.WideShapes Go.ChangeAt Go.RowKit

theorem trod_iface_inv {H : Type} {enc : TypeId × Value → H} {P : Program} {w : World} {base n : Nat} {sp : Nat → Bool} {t : TypeId} {ms : Array (String × TypeId)} {l : List Value} {nm : String} {d : DataW H} {p : List MemPlace}
    (ht : P.underlying t = some (.interface ms)) (h : DataW.trod enc P w base sp false (n + 1) t l = some (.iface nm d, p)) :
    ∃ u v, l = [.iface u v] ∧ P.typeName? 3 u = some nm ∧ ∃ p', DataW.trod enc P w base sp false n u v.cells.toList = some (d, p') := by
  unfold DataW.trod at h
  rw [ht] at h
  split at h
  all_goals try (rename_i e _; cases e; done)
  all_goals try (rename_i e; cases e; done)
  all_goals try (simp at h; done)
  rename_i u v _
  cases hn : P.typeName? 3 u with
  | none => rw [hn] at h; cases h
  | some name =>
    rw [hn] at h
    cases hx : DataW.trod enc P w base sp false n u v.cells.toList with
    | none => rw [hx] at h; cases h
    | some x =>
      rw [hx] at h
      obtain ⟨y, q⟩ := x
      simp only [Option.map_some, Option.some.injEq, Prod.mk.injEq, DataW.iface.injEq] at h
      obtain ⟨⟨rfl, rfl⟩, rfl⟩ := h
      exact ⟨u, v, rfl, hn, q, hx⟩
theorem trod_nil_ptr {H : Type} {enc : TypeId × Value → H} {P : Program} {w : World} {base n : Nat} {sp : Nat → Bool} {held : Bool} {t e : TypeId} {d : DataW H} {p : List MemPlace}
    (ht : P.underlying t = some (.pointer e)) : ¬ DataW.trod enc P w base sp held n t (Value.pointer none).cells.toList = some (.ptr d, p) := by
  intro h
  cases n with
  | zero => simp [DataW.trod] at h
  | succ n =>
    unfold DataW.trod at h
    rw [ht] at h
    simp [Value.cells] at h
end Go.Proofs.YtkjjjbipmobdaaaGreatDoor

/- Attributes, tokens and nodes: plain. -/
namespace Go.Proofs.YtkjjjbipmobdaaaGreatDoor

/-- An attribute: its name, its value. -/
abbrev At := List UInt8 × List UInt8
/-- A token. -/
structure Tk where
  kind : Int
  name : List UInt8
  attrs : List At
  text : List UInt8
/-- A node: up is its parent's place. -/
structure Nd where
  name : List UInt8
  attrs : List At
  text : List UInt8
  up : Int
end Go.Proofs.YtkjjjbipmobdaaaGreatDoor

/- A world in which certain blocks alone have turned, and new ones have come. -/
namespace Go.RowKit
/-- w' is w, but for the blocks of S and new ones. -/
structure Turned (S : Nat → Prop) (w w' : World) : Prop where
  os : w'.os = w.os
  tape : w'.tape = w.tape
  output : w'.output = w.output
  size : w.heap.size ≤ w'.heap.size
  block : ∀ k, k < w.heap.size → ¬ S k → w'.heap[k]? = w.heap[k]?
theorem Turned.refl (S : Nat → Prop) (w : World) : Turned S w w := ⟨rfl, rfl, rfl, Nat.le_refl _, fun _ _ _ => rfl⟩
theorem Turned.of_below {S : Nat → Prop} {w w' : World} (h : Below w.heap.size w w') : Turned S w w' := ⟨h.os, h.tape, h.output, h.size, fun k hk _ => h.block k hk⟩
theorem Turned.of_grown {S : Nat → Prop} {w w' : World} {row : Option Nat} (h : w.grownBy w' row) (hr : ∀ k, row = some k → S k) : Turned S w w' :=
  ⟨h.os, h.tape, h.output, h.size, fun k hk hS => h.block k hk (fun e => hS (hr k e.symm))⟩
theorem Turned.trans {S S' : Nat → Prop} {a b c : World} (h : Turned S a b) (k : Turned S' b c) (hS : ∀ i, i < a.heap.size → S' i → S i) : Turned S a c :=
  ⟨k.os.trans h.os, k.tape.trans h.tape, k.output.trans h.output, Nat.le_trans h.size k.size, fun i hi hn => (k.block i (Nat.lt_of_lt_of_le hi h.size) (fun hs => hn (hS i hi hs))).trans (h.block i hi hn)⟩
theorem Turned.mono {S S' : Nat → Prop} {w w' : World} (h : Turned S w w') (hS : ∀ i, i < w.heap.size → S i → S' i) : Turned S' w w' :=
  ⟨h.os, h.tape, h.output, h.size, fun i hi hn => h.block i hi (fun hs => hn (hS i hi hs))⟩
theorem Turned.below {S : Nat → Prop} {w w' : World} {B : Nat} (h : Turned S w w') (hS : ∀ i, i < w.heap.size → S i → B ≤ i) (hB : B ≤ w.heap.size) : Below B w w' :=
  ⟨h.os, h.tape, h.output, h.size, fun i hi => h.block i (Nat.lt_of_lt_of_le hi hB) (fun hs => by have := hS i (Nat.lt_of_lt_of_le hi hB) hs; omega)⟩
end Go.RowKit
namespace Go.Proofs.YtkjjjbipmobdaaaGreatDoor
open Go.RowKit

theorem ownsRow_turned {S : Nat → Prop} {w w' : World} {B : Nat} {E : TypeId} {z : Nat} {v : Value} {n : Nat} {xs : List Value} (h : w.ownsRow B E z v n xs) (ht : Turned S w w') (hS : ∀ k, v.ownBlock = some k → ¬ S k) : w'.ownsRow B E z v n xs := by
  have hl := h.lt
  rcases h with ⟨h1, h | ⟨g, cap, cur, rfl, hb, hg, h3⟩⟩
  · exact ⟨h1, Or.inl h⟩
  · exact ⟨h1, Or.inr ⟨g, cap, cur, rfl, hb, (ht.block g (hl g rfl).2 (hS g rfl)).trans hg, h3⟩⟩
theorem ArrAt.turned {S : Nat → Prop} {w w' : World} {g : Nat} {t : TypeId} {c : List Value} (h : ArrAt w g t c) (ht : Turned S w w') (hS : ¬ S g) : ArrAt w' g t c := (ht.block g h.lt hS).trans h
theorem ArrAt.grown {w w' : World} {row : Option Nat} {g : Nat} {t : TypeId} {c : List Value} (h : ArrAt w g t c) (hg : w.grownBy w' row) (hne : some g ≠ row) : ArrAt w' g t c := (hg.block g h.lt hne).trans h
theorem grown_setRow (w : World) (g : Nat) (cs : Array Value) : w.grownBy (w.setRow g cs) (some g) := ⟨rfl, rfl, rfl, by simp, fun k _ hk => setRow_other w g k cs (fun e => hk (by rw [e]))⟩
theorem grown_trans {w w1 w2 : World} {row : Option Nat} (h : w.grownBy w1 row) (k : w1.grownBy w2 row) : w.grownBy w2 row :=
  ⟨k.os.trans h.os, k.tape.trans h.tape, k.output.trans h.output, Nat.le_trans h.size k.size, fun i hi hn => (k.block i (Nat.lt_of_lt_of_le hi h.size) hn).trans (h.block i hi hn)⟩
/-- A row of which all is known, as a slice that is owned: its first n elements. -/
theorem ArrAt.owns {w : World} {g n cap z : Nat} {t : TypeId} {c xs : List Value} (h : ArrAt w g t c) (hx : c.take (n * z) = xs) (hl : c.length = cap * z) (hn : n ≤ cap) (hm : cap ≤ maxLen) :
    w.ownsRow 0 t z (.slice (some ⟨g, 0, none⟩) n cap) n xs := by
  have hle : n * z ≤ cap * z := Nat.mul_le_mul_right _ hn
  exact ⟨by rw [← hx, List.length_take]; omega, Or.inr ⟨g, cap, c.toArray, rfl, Nat.zero_le _, h, hn, hm, by simpa using hl, by simpa using hx⟩⟩
/-- A slice that is owned and has something, as a row of which all is known. -/
theorem owns_arr {w : World} {B n z : Nat} {t : TypeId} {v : Value} {xs : List Value} (h : w.ownsRow B t z v n xs) (hn : v ≠ .slice none 0 0) :
    ∃ g cap c, v = .slice (some ⟨g, 0, none⟩) n cap ∧ ArrAt w g t c ∧ c.take (n * z) = xs ∧ c.length = cap * z ∧ n ≤ cap ∧ cap ≤ maxLen := by
  rcases h with ⟨h1, ⟨hv, _⟩ | ⟨g, cap, cur, hv, hb, hg, hnc, hcm, hcs, htk⟩⟩
  · exact absurd hv hn
  · exact ⟨g, cap, cur.toList, hv, by unfold ArrAt; simpa using hg, htk, by simpa using hcs, hnc, hcm⟩
theorem own_heap {w : World} {B n z : Nat} {E : TypeId} {v : Value} {xs : List Value} {g : Nat} (h : w.ownsRow B E z v n xs) (hv : v.ownBlock = some g) : ∃ cur, w.heap[g]? = some (.cells cur E (0, 0)) := by
  rcases h.2 with ⟨rfl, _⟩ | ⟨g', cap, cur, rfl, _, hg, _⟩
  · cases hv
  · injection hv with hv
    have : g' = g := hv
    subst this
    exact ⟨cur, hg⟩
theorem own_apart {w : World} {B B' n m z z' : Nat} {E E' : TypeId} {v u : Value} {xs ys : List Value} {g : Nat} (h1 : w.ownsRow B E z v n xs) (h2 : w.ownsRow B' E' z' u m ys) (hE : E ≠ E') (hv : v.ownBlock = some g) (hu : u.ownBlock = some g) : False := by
  obtain ⟨c1, e1⟩ := own_heap h1 hv
  obtain ⟨c2, e2⟩ := own_heap h2 hu
  rw [e1] at e2
  injection e2 with e2
  injection e2 with _ e2
  exact hE e2
theorem turned_setCell (w : World) (a : Addr) (u : Value) : Turned (fun b => b = a.block) w (w.setCell a u) :=
  ⟨rfl, rfl, rfl, by simp [World.setCell], fun k _ hk => Below.heap_setCell w a u k hk⟩
theorem own_ne_arr {w : World} {B n z g : Nat} {E t : TypeId} {v : Value} {xs c : List Value} (h : w.ownsRow B E z v n xs) (ha : ArrAt w g t c) (hE : E ≠ t) : v.ownBlock ≠ some g := fun e => by
  obtain ⟨cur, e1⟩ := own_heap h e
  unfold ArrAt at ha
  rw [ha] at e1
  injection e1 with e1
  injection e1 with _ e1
  exact hE e1.symm
theorem arr_apart {w : World} {g g' : Nat} {t t' : TypeId} {c c' : List Value} (h : ArrAt w g t c) (h' : ArrAt w g' t' c') (ht : t ≠ t') : g ≠ g' := fun e => by
  subst e
  unfold ArrAt at h h'
  rw [h] at h'
  injection h' with h'
  injection h' with _ h'
  exact ht h'
end Go.Proofs.YtkjjjbipmobdaaaGreatDoor

/- Attributes in memory: a slice of them that the call itself made, and one that can be read, wherever it lies. -/
namespace Go.Proofs.YtkjjjbipmobdaaaGreatDoor
open Go.RowKit

def atV (x : At) : List Value := [strV x.1, strV x.2]
def cellsA (l : List At) : List Value := l.flatMap atV
theorem cellsA_len (l : List At) : (cellsA l).length = l.length * 2 := by
  induction l with
  | nil => rfl
  | cons x t ih => simp [cellsA, atV] at ih ⊢; omega
theorem cellsA_app (l m : List At) : cellsA (l ++ m) = cellsA l ++ cellsA m := by simp [cellsA]
theorem cellsA_one (x : At) : cellsA [x] = [strV x.1, strV x.2] := rfl
theorem cellsA_at : ∀ (l : List At) (j : Nat), j < l.length → (cellsA l)[j * 2]? = some (strV (l.getD j ([], [])).1) ∧ (cellsA l)[j * 2 + 1]? = some (strV (l.getD j ([], [])).2)
  | [], j, h => by simp at h
  | x :: t, 0, _ => ⟨rfl, rfl⟩
  | x :: t, j + 1, h => by
    have := cellsA_at t j (by simpa using h)
    have e : cellsA (x :: t) = strV x.1 :: strV x.2 :: cellsA t := rfl
    rw [e, show (j + 1) * 2 = j * 2 + 1 + 1 by omega, show j * 2 + 1 + 1 + 1 = (j * 2 + 1) + 1 + 1 by omega]
    simpa using this
theorem cellsA_one' (l : List At) : ∀ u ∈ cellsA l, u.oneCell' = true := by
  intro u hu
  simp only [cellsA, List.mem_flatMap, atV] at hu
  obtain ⟨x, _, hu⟩ := hu
  simp at hu
  rcases hu with rfl | rfl <;> rfl
/-- A slice of attributes that the call itself made. -/
def Ats (w : World) (B : Nat) (v : Value) (l : List At) : Prop := w.ownsRow B 85 2 v l.length (cellsA l)
theorem Ats.cells {w : World} {B : Nat} {v : Value} {l : List At} (h : Ats w B v l) (h0 : l ≠ []) : ∃ g cap, v = .slice (some ⟨g, 0, none⟩) l.length cap ∧ g < w.heap.size ∧ B ≤ g ∧
    ∀ j, j < l.length → w.cell? ⟨g, j * 2, none⟩ = some (strV (l.getD j ([], [])).1) ∧ w.cell? ⟨g, j * 2 + 1, none⟩ = some (strV (l.getD j ([], [])).2) := by
  have hlt := World.ownsRow.lt h
  rcases h.2 with ⟨_, hn⟩ | ⟨g, cap, cur, hv, _⟩
  · exact absurd (List.length_eq_zero_iff.1 hn) h0
  · refine ⟨g, cap, hv, (hlt g (by rw [hv]; rfl)).2, (hlt g (by rw [hv]; rfl)).1, fun j hj => ?_⟩
    have hcg := World.ownsRow.cells h (g := g) (by rw [hv]; rfl)
    obtain ⟨e1, e2⟩ := cellsA_at l j hj
    have hadd : ∀ i, (⟨g, 0, none⟩ : Addr).add i = ⟨g, i, none⟩ := fun i => by unfold Addr.add; split <;> simp_all
    have h1 := hcg _ _ e1
    have h2 := hcg _ _ e2
    rw [hadd] at h1 h2
    exact ⟨h1, h2⟩
theorem ats_nil (w : World) (B : Nat) : Ats w B (.slice none 0 0) [] := World.ownsRow_nil _ _ _ _

/-- A slice of attributes that can be read. -/
def AtSl (w : World) (v : Value) (l : List At) : Prop :=
  (l = [] ∧ ∃ a c, v = .slice a 0 c) ∨ ∃ b off c, l.length ≤ c ∧ v = .slice (some ⟨b, off, none⟩) l.length c ∧
    ∀ j, j < l.length → w.cell? ⟨b, off + j * 2, none⟩ = some (strV (l.getD j ([], [])).1) ∧ w.cell? ⟨b, off + j * 2 + 1, none⟩ = some (strV (l.getD j ([], [])).2)
theorem AtSl.form {w : World} {v : Value} {l : List At} (h : AtSl w v l) : ∃ a c, v = .slice a l.length c := by
  rcases h with ⟨rfl, a, c, rfl⟩ | ⟨b, off, c, _, rfl, _⟩
  · exact ⟨a, c, rfl⟩
  · exact ⟨_, c, rfl⟩
theorem AtSl.next {w w' : World} {v : Value} {l : List At} (h : AtSl w v l) (hb : Below w.heap.size w w') : AtSl w' v l := by
  rcases h with h | ⟨b, off, c, hc, rfl, h⟩
  · exact Or.inl h
  · refine Or.inr ⟨b, off, c, hc, rfl, fun j hj => ?_⟩
    have h0 := h j hj
    have hlt := World.block_lt_of_cell? w ⟨b, off + j * 2, none⟩ h0.1
    exact ⟨(hb.cell (p := ⟨b, off + j * 2, none⟩) hlt).trans h0.1, (hb.cell (p := ⟨b, off + j * 2 + 1, none⟩) hlt).trans h0.2⟩
theorem AtSl.some {w : World} {v : Value} {l : List At} (h : AtSl w v l) (h0 : l ≠ []) : ∃ b off c, l.length ≤ c ∧ b < w.heap.size ∧ v = .slice (some ⟨b, off, none⟩) l.length c ∧
    ∀ j, j < l.length → w.cell? ⟨b, off + j * 2, none⟩ = some (strV (l.getD j ([], [])).1) ∧ w.cell? ⟨b, off + j * 2 + 1, none⟩ = some (strV (l.getD j ([], [])).2) := by
  rcases h with ⟨h, _⟩ | ⟨b, off, c, hc, hv, h⟩
  · exact absurd h h0
  · have hl : 0 < l.length := List.length_pos_iff.2 h0
    exact ⟨b, off, c, hc, World.block_lt_of_cell? w ⟨b, off + 0 * 2, none⟩ (h 0 hl).1, hv, h⟩
theorem AtSl.nil {w : World} {v : Value} {l : List At} (h : AtSl w v l) (h0 : l = []) : ∃ a c, v = .slice a 0 c := by
  obtain ⟨a, c, e⟩ := h.form
  subst h0
  exact ⟨a, c, e⟩
theorem atSl_nil (w : World) (a : Option Addr) (c : Nat) : AtSl w (.slice a 0 c) [] := Or.inl ⟨rfl, a, c, rfl⟩
theorem Ats.sl {w : World} {B : Nat} {v : Value} {l : List At} (h : Ats w B v l) : AtSl w v l := by
  by_cases h0 : l = []
  · obtain ⟨a, c, e⟩ := own_form h
    subst h0
    exact Or.inl ⟨rfl, a, c, e⟩
  · obtain ⟨a, c', e, hcap⟩ := own_cap h
    obtain ⟨g, cap, hv, _, _, hc⟩ := h.cells h0
    have : cap = c' := by rw [hv] at e; injection e
    exact Or.inr ⟨g, 0, cap, by omega, hv, fun j hj => by rw [Nat.zero_add]; exact hc j hj⟩
end Go.Proofs.YtkjjjbipmobdaaaGreatDoor

/- Layer 12, plain: nodes of tokens; what stands within a node. -/
namespace Go.Proofs.YtkjjjbipmobdaaaGreatDoor

def nd0 : Nd := ⟨[], [], [], -1⟩
/-- Whether k is a place of l. -/
def placeB (l : List Nd) (k : Int) : Bool := decide (0 ≤ k) && decide (k < l.length)
def atN (l : List Nd) (k : Int) : Nd := l.getD k.toNat nd0
def upN (l : List Nd) (k : Int) : Int := (atN l k).up
theorem place_iff {l : List Nd} {k : Int} : placeB l k = true ↔ 0 ≤ k ∧ k < l.length := by unfold placeB; simp
theorem place_nat {l : List Nd} {k : Nat} (h : k < l.length) : placeB l k = true := by rw [place_iff]; omega
/-- What a builder has come to: its nodes, the place of the innermost open element. -/
structure Bs where
  nds : List Nd
  up : Int
def elemN (x : Tk) (up : Int) : Nd := ⟨x.name, x.attrs, [], up⟩
def textN (x : Tk) (up : Int) : Nd := ⟨[], [], x.text, up⟩
/-- One token more. -/
def takeB (s : Bs) (x : Tk) : Option Bs :=
  if s.up = -1 ∧ s.nds ≠ [] then none
  else if x.kind = 1 ∧ x.name ≠ [] then some ⟨s.nds ++ [elemN x s.up], s.nds.length⟩
  else if x.kind = 3 ∧ x.name ≠ [] then some ⟨s.nds ++ [elemN x s.up], s.up⟩
  else if x.kind = 4 ∧ s.up ≠ -1 then some ⟨s.nds ++ [textN x s.up], s.up⟩
  else if x.kind = 2 ∧ s.up ≠ -1 ∧ x.name = (atN s.nds s.up).name then some ⟨s.nds, upN s.nds s.up⟩
  else none
def foldB : Bs → List Tk → Option Bs
  | s, [] => some s
  | s, x :: t => match takeB s x with
    | none => none
    | some s' => foldB s' t
def bs0 : Bs := ⟨[], -1⟩
/-- The nodes of tokens that make a tree. -/
def buildB (l : List Tk) : Option (List Nd) :=
  match foldB bs0 l with
  | none => none
  | some s => if s.up = -1 ∧ s.nds ≠ [] then some s.nds else none
/-- The places of a builder are such, and stand ahead. -/
structure BsOk (s : Bs) : Prop where
  up : s.up = -1 ∨ 0 ≤ s.up ∧ s.up < s.nds.length
  ups : ∀ j, j < s.nds.length → (s.nds.getD j nd0).up = -1 ∨ 0 ≤ (s.nds.getD j nd0).up ∧ (s.nds.getD j nd0).up < j
theorem bsOk_0 : BsOk bs0 := ⟨Or.inl rfl, fun j h => by simp [bs0] at h⟩
theorem getD_app {α : Type} (l : List α) (x d : α) (j : Nat) (h : j < l.length) : (l ++ [x]).getD j d = l.getD j d := by simp [List.getD, List.getElem?_append_left h]
theorem getD_last {α : Type} (l : List α) (x d : α) : (l ++ [x]).getD l.length d = x := by simp [List.getD]
theorem BsOk.app {s : Bs} (h : BsOk s) (y : Nd) (u : Int) (hy : y.up = s.up) (hu : u = s.up ∨ u = s.nds.length) : BsOk ⟨s.nds ++ [y], u⟩ := by
  refine ⟨?_, fun j hj => ?_⟩
  · rcases hu with rfl | rfl
    · rcases h.up with e | e
      · exact Or.inl e
      · right; simp only [List.length_append, List.length_cons, List.length_nil]; omega
    · right; simp only [List.length_append, List.length_cons, List.length_nil]; omega
  · simp only [List.length_append, List.length_cons, List.length_nil] at hj
    by_cases e : j < s.nds.length
    · simp only [getD_app _ _ _ _ e]; exact h.ups j e
    · obtain rfl : j = s.nds.length := by omega
      simp only [getD_last, hy]
      exact h.up
theorem upN_ok {s : Bs} (h : BsOk s) (hu : s.up ≠ -1) : upN s.nds s.up = -1 ∨ 0 ≤ upN s.nds s.up ∧ upN s.nds s.up < s.up := by
  rcases h.up with e | e
  · exact absurd e hu
  · have := h.ups s.up.toNat (by omega)
    unfold upN atN
    omega
theorem takeB_ok {s s' : Bs} {x : Tk} (h : BsOk s) (e : takeB s x = some s') : BsOk s' ∧ s'.nds ≠ [] ∧ s'.nds.length ≤ s.nds.length + 1 := by
  unfold takeB at e
  split at e
  · cases e
  split at e
  · injection e with e; subst e; exact ⟨h.app _ _ rfl (Or.inr rfl), by simp, by simp⟩
  split at e
  · injection e with e; subst e; exact ⟨h.app _ _ rfl (Or.inl rfl), by simp, by simp⟩
  split at e
  · injection e with e; subst e; exact ⟨h.app _ _ rfl (Or.inl rfl), by simp, by simp⟩
  split at e
  · rename_i hc
    injection e with e
    subst e
    have := upN_ok h hc.2.1
    rcases h.up with hu | hu
    · exact absurd hu hc.2.1
    · refine ⟨⟨?_, h.ups⟩, by intro e; rw [e] at hu; simp at hu; omega, by simp⟩
      show upN s.nds s.up = -1 ∨ 0 ≤ upN s.nds s.up ∧ upN s.nds s.up < s.nds.length
      omega
  · cases e

/-- A node stands within i. -/
inductive Within (l : List Nd) (i : Int) : Int → Prop where
  | here : placeB l i = true → Within l i i
  | up {k : Int} : placeB l k = true → Within l i (upN l k) → Within l i k
theorem Within.place {l : List Nd} {i k : Int} (h : Within l i k) : placeB l k = true := by cases h <;> assumption
theorem Within.top {l : List Nd} {i k : Int} (h : Within l i k) : placeB l i = true := by
  induction h with
  | here h => exact h
  | up _ _ ih => exact ih
/-- The same, told in so many steps. -/
def winF (l : List Nd) (i : Int) : Nat → Int → Bool
  | 0, _ => false
  | F + 1, k => placeB l k && (k == i || winF l i F (upN l k))
def winB (l : List Nd) (i k : Int) : Bool := winF l i (l.length + 1) k
theorem within_of_win {l : List Nd} {i : Int} : ∀ (F : Nat) (k : Int), winF l i F k = true → Within l i k
  | 0, _, h => by cases h
  | F + 1, k, h => by
    unfold winF at h
    rw [Bool.and_eq_true, Bool.or_eq_true, beq_iff_eq] at h
    rcases h.2 with rfl | e
    · exact .here h.1
    · exact .up h.1 (within_of_win F _ e)
theorem winF_up {l : List Nd} {i : Int} : ∀ (F : Nat) (k : Int), winF l i F k = true → winF l i (F + 1) k = true
  | 0, _, h => by cases h
  | F + 1, k, h => by
    rw [winF] at h
    rw [winF]
    rw [Bool.and_eq_true, Bool.or_eq_true] at h ⊢
    refine ⟨h.1, ?_⟩
    rcases h.2 with e | e
    · exact Or.inl e
    · exact Or.inr (winF_up F _ e)
theorem winF_le {l : List Nd} {i : Int} {k : Int} {F G : Nat} (hle : F ≤ G) (h : winF l i F k = true) : winF l i G k = true := by
  induction G with
  | zero => obtain rfl : F = 0 := by omega
            exact h
  | succ G ih =>
    by_cases e : F = G + 1
    · subst e; exact h
    · exact winF_up _ _ (ih (by omega))
theorem win_of_within {l : List Nd} {i k : Int} (h : Within l i k) : ∃ F, winF l i F k = true := by
  induction h with
  | here h => exact ⟨1, by unfold winF; simp [h]⟩
  | up hp _ ih =>
    obtain ⟨F, hF⟩ := ih
    exact ⟨F + 1, by rw [winF]; simp [hp, hF]⟩
theorem count_le {α : Type} (p q : α → Bool) : ∀ l : List α, (∀ x ∈ l, p x = true → q x = true) → l.countP p < l.countP q ∨ ∀ x ∈ l, p x = q x
  | [], _ => Or.inr (fun x h => by cases h)
  | a :: t, h => by
    have ih := count_le p q t (fun x hx => h x (List.mem_cons_of_mem _ hx))
    have hmono : t.countP p ≤ t.countP q := List.countP_mono_left (fun x hx => h x (List.mem_cons_of_mem _ hx))
    have ha := h a (List.mem_cons_self ..)
    rw [List.countP_cons, List.countP_cons]
    cases hp : p a
    · cases hq : q a
      · rcases ih with e | e
        · left; simpa using e
        · right; intro x hx; rcases List.mem_cons.1 hx with rfl | hx
          · rw [hp, hq]
          · exact e x hx
      · left; simp; omega
    · have hq := ha hp
      rcases ih with e | e
      · left; simp [hq]; omega
      · right; intro x hx; rcases List.mem_cons.1 hx with rfl | hx
        · rw [hp, hq]
        · exact e x hx
/-- Steps of no account: from some number of them on nothing more is told. -/
theorem win_still {l : List Nd} {i : Int} : ∀ F : Nat, F ≤ (List.range l.length).countP (fun j : Nat => winF l i F (j : Int)) ∨ ∃ G, G < F ∧ ∀ j, j < l.length → winF l i G (j : Int) = winF l i (G + 1) (j : Int)
  | 0 => Or.inl (Nat.zero_le _)
  | F + 1 => by
    rcases win_still (l := l) (i := i) F with h | ⟨G, hG, h⟩
    · rcases count_le (fun j : Nat => winF l i F (j : Int)) (fun j : Nat => winF l i (F + 1) (j : Int)) (List.range l.length) (fun x _ => winF_up F _) with e | e
      · left; omega
      · exact Or.inr ⟨F, by omega, fun j hj => e j (List.mem_range.2 hj)⟩
    · exact Or.inr ⟨G, by omega, h⟩
theorem win_no {l : List Nd} {i k : Int} (h : ¬ placeB l k = true) (F : Nat) : winF l i F k = false := by
  cases F with
  | zero => rfl
  | succ F => unfold winF; rw [Bool.eq_false_iff.2 h]; rfl
theorem win_same {l : List Nd} {i : Int} {G : Nat} (h : ∀ j, j < l.length → winF l i G (j : Int) = winF l i (G + 1) (j : Int)) : ∀ (F : Nat) (k : Int), G ≤ F → winF l i F k = winF l i G k := by
  have h' : ∀ k : Int, winF l i G k = winF l i (G + 1) k := fun k => by
    by_cases hp : placeB l k = true
    · rw [place_iff] at hp
      have := h k.toNat (by omega)
      rwa [Int.toNat_of_nonneg hp.1] at this
    · rw [win_no hp, win_no hp]
  intro F
  induction F with
  | zero => intro k hk; obtain rfl : G = 0 := by omega
            rfl
  | succ F ih =>
    intro k hk
    by_cases e : G = F + 1
    · rw [e]
    · rw [h' k, winF, winF, ih _ (by omega)]
theorem winB_iff {l : List Nd} {i k : Int} : winB l i k = true ↔ Within l i k := by
  refine ⟨within_of_win _ _, fun h => ?_⟩
  obtain ⟨F, hF⟩ := win_of_within h
  unfold winB
  rcases win_still (l := l) (i := i) (l.length + 1) with e | ⟨G, hG, e⟩
  · have := List.countP_le_length (p := fun j : Nat => winF l i (l.length + 1) (j : Int)) (l := List.range l.length)
    rw [List.length_range] at this
    omega
  · rcases Nat.le_total F (l.length + 1) with hle | hle
    · exact winF_le hle hF
    · rw [win_same e F k (by omega)] at hF
      exact winF_le (by omega) hF

/-- The places of a node's kids among the first k. -/
def kidsTo (l : List Nd) (i : Int) (k : Nat) : List Int := ((List.range k).filter fun j : Nat => decide (upN l (j : Int) = i) && decide ((j : Int) ≠ i)).map fun j : Nat => (j : Int)
def kidsB (l : List Nd) (i : Int) : List Int := if placeB l i = true then kidsTo l i l.length else []
def namedB (l : List Nd) (i : Int) (nm : List UInt8) : List Int := if nm = [] then [] else (kidsB l i).filter fun j => (atN l j).name == nm
/-- What the node at j adds to the text of the one at i. -/
def bitB (l : List Nd) (i : Int) (j : Nat) : List UInt8 := if (atN l (j : Int)).name = [] ∧ winB l i (j : Int) = true then (atN l (j : Int)).text else []
def textTo (l : List Nd) (i : Int) (k : Nat) : List UInt8 := (List.range k).flatMap (bitB l i)
def textB (l : List Nd) (i : Int) : List UInt8 := if placeB l i = true then textTo l i l.length else []
def attrB (l : List At) (nm : List UInt8) : List UInt8 × Bool :=
  match l.find? fun a => a.1 == nm with
  | some a => (a.2, true)
  | none => ([], false)
theorem kidsTo_next (l : List Nd) (i : Int) (k : Nat) : kidsTo l i (k + 1) = kidsTo l i k ++ if upN l (k : Int) = i ∧ (k : Int) ≠ i then [(k : Int)] else [] := by
  unfold kidsTo
  rw [List.range_succ, List.filter_append, List.map_append]
  congr 1
  by_cases h : upN l (k : Int) = i ∧ (k : Int) ≠ i
  · rw [if_pos h]; simp [h.1, h.2]
  · rw [if_neg h, List.filter_cons, if_neg (by simpa using h)]; rfl
theorem textTo_next (l : List Nd) (i : Int) (k : Nat) : textTo l i (k + 1) = textTo l i k ++ bitB l i k := by
  unfold textTo; rw [List.range_succ, List.flatMap_append]; simp
theorem kidsTo_bd {l : List Nd} {i : Int} {k : Nat} {j : Int} (h : j ∈ kidsTo l i k) : 0 ≤ j ∧ j < k ∧ upN l j = i ∧ j ≠ i := by
  unfold kidsTo at h
  simp only [List.mem_map, List.mem_filter, List.mem_range, Bool.and_eq_true, decide_eq_true_eq] at h
  obtain ⟨a, ⟨h1, h2, h3⟩, rfl⟩ := h
  exact ⟨by omega, by omega, h2, h3⟩
theorem kidsB_bd {l : List Nd} {i j : Int} (h : j ∈ kidsB l i) : placeB l j = true ∧ upN l j = i ∧ j ≠ i ∧ placeB l i = true := by
  unfold kidsB at h
  split at h
  · have := kidsTo_bd h
    exact ⟨by rw [place_iff]; omega, this.2.2.1, this.2.2.2, by assumption⟩
  · cases h
theorem kidsTo_len (l : List Nd) (i : Int) (k : Nat) : (kidsTo l i k).length ≤ k := by
  unfold kidsTo
  rw [List.length_map]
  exact Nat.le_trans (List.length_filter_le _ _) (by simp)
theorem kidsB_len (l : List Nd) (i : Int) : (kidsB l i).length ≤ l.length := by
  unfold kidsB
  split
  · exact kidsTo_len _ _ _
  · simp
def sumT (l : List Nd) : Nat := (l.map fun x => x.text.length).sum
theorem sum_getD (l : List Nd) : ∀ k, k ≤ l.length → ((List.range k).map fun j => (l.getD j nd0).text.length).sum = ((l.take k).map fun x => x.text.length).sum
  | 0, _ => by simp
  | k + 1, h => by
    rw [List.range_succ, List.map_append, List.sum_append, sum_getD l k (by omega), List.take_add_one, List.map_append, List.sum_append]
    simp [List.getD, List.getElem?_eq_getElem (show k < l.length by omega)]
theorem textTo_len (l : List Nd) (i : Int) (k : Nat) (h : k ≤ l.length) : (textTo l i k).length ≤ sumT l := by
  have h1 : (textTo l i k).length ≤ ((List.range k).map fun j => (l.getD j nd0).text.length).sum := by
    clear h
    induction k with
    | zero => simp [textTo]
    | succ k ih =>
      rw [textTo_next, List.length_append, List.range_succ, List.map_append, List.sum_append]
      have : (bitB l i k).length ≤ (l.getD k nd0).text.length := by
        unfold bitB atN
        split
        · simp
        · simp
      simp only [List.map_cons, List.map_nil, List.sum_cons, List.sum_nil]
      omega
  have h2 : ((l.take k).map fun x => x.text.length).sum ≤ sumT l := by
    have : sumT l = ((l.take k).map fun x => x.text.length).sum + ((l.drop k).map fun x => x.text.length).sum := by
      unfold sumT
      rw [← List.sum_append, ← List.map_append, List.take_append_drop]
    omega
  rw [sum_getD l k h] at h1
  omega
theorem textB_len (l : List Nd) (i : Int) : (textB l i).length ≤ sumT l := by
  unfold textB
  split
  · exact textTo_len l i _ (Nat.le_refl _)
  · simp
end Go.Proofs.YtkjjjbipmobdaaaGreatDoor

/- Tokens and nodes in memory: slices of them that can be read, wherever they lie; a row of nodes that the call itself made. -/
namespace Go.Proofs.YtkjjjbipmobdaaaGreatDoor
open Go.RowKit

/-- A token's four cells. -/
structure TokAt (w : World) (b o : Nat) (t : Tk) (v : Value) : Prop where
  c0 : w.cell? ⟨b, o, none⟩ = some (.int .i64 t.kind)
  c1 : w.cell? ⟨b, o + 1, none⟩ = some (strV t.name)
  c2 : w.cell? ⟨b, o + 2, none⟩ = some v
  c3 : w.cell? ⟨b, o + 3, none⟩ = some (strV t.text)
/-- A node's. -/
structure NdAt (w : World) (b o : Nat) (x : Nd) (v : Value) : Prop where
  c0 : w.cell? ⟨b, o, none⟩ = some (strV x.name)
  c1 : w.cell? ⟨b, o + 1, none⟩ = some v
  c2 : w.cell? ⟨b, o + 2, none⟩ = some (strV x.text)
  c3 : w.cell? ⟨b, o + 3, none⟩ = some (.int .i64 x.up)
theorem TokAt.next {w w' : World} {b o : Nat} {t : Tk} {v : Value} (h : TokAt w b o t v) (hb : Below w.heap.size w w') : TokAt w' b o t v := by
  have hlt := World.block_lt_of_cell? w ⟨b, o, none⟩ h.c0
  have hc : ∀ k, w'.cell? ⟨b, k, none⟩ = w.cell? ⟨b, k, none⟩ := fun k => hb.cell (p := ⟨b, k, none⟩) hlt
  exact ⟨(hc _).trans h.c0, (hc _).trans h.c1, (hc _).trans h.c2, (hc _).trans h.c3⟩
theorem NdAt.next {w w' : World} {b o : Nat} {x : Nd} {v : Value} (h : NdAt w b o x v) (hb : Below w.heap.size w w') : NdAt w' b o x v := by
  have hlt := World.block_lt_of_cell? w ⟨b, o, none⟩ h.c0
  have hc : ∀ k, w'.cell? ⟨b, k, none⟩ = w.cell? ⟨b, k, none⟩ := fun k => hb.cell (p := ⟨b, k, none⟩) hlt
  exact ⟨(hc _).trans h.c0, (hc _).trans h.c1, (hc _).trans h.c2, (hc _).trans h.c3⟩
/-- A slice of tokens that can be read: P tells each one, with its attributes' slice. -/
def TkSl (w : World) (v : Value) (P : List (Tk × Value)) : Prop :=
  ((P = [] ∧ ∃ a c, v = .slice a 0 c) ∨ ∃ b off c, P.length ≤ c ∧ v = .slice (some ⟨b, off, none⟩) P.length c ∧ ∀ j (hj : j < P.length), TokAt w b (off + j * 4) (P[j]'hj).1 (P[j]'hj).2) ∧ ∀ p ∈ P, AtSl w p.2 p.1.attrs
/-- A slice of nodes that can be read. -/
def NdSl (w : World) (v : Value) (P : List (Nd × Value)) : Prop :=
  ((P = [] ∧ ∃ a c, v = .slice a 0 c) ∨ ∃ b off c, P.length ≤ c ∧ v = .slice (some ⟨b, off, none⟩) P.length c ∧ ∀ j (hj : j < P.length), NdAt w b (off + j * 4) (P[j]'hj).1 (P[j]'hj).2) ∧ ∀ p ∈ P, AtSl w p.2 p.1.attrs
section
variable {w w' : World} {v : Value}
theorem TkSl.form {P : List (Tk × Value)} (h : TkSl w v P) : ∃ a c, v = .slice a P.length c := by
  rcases h.1 with ⟨rfl, a, c, rfl⟩ | ⟨b, off, c, _, rfl, _⟩
  · exact ⟨a, c, rfl⟩
  · exact ⟨_, c, rfl⟩
theorem NdSl.form {P : List (Nd × Value)} (h : NdSl w v P) : ∃ a c, v = .slice a P.length c := by
  rcases h.1 with ⟨rfl, a, c, rfl⟩ | ⟨b, off, c, _, rfl, _⟩
  · exact ⟨a, c, rfl⟩
  · exact ⟨_, c, rfl⟩
theorem TkSl.next {P : List (Tk × Value)} (h : TkSl w v P) (hb : Below w.heap.size w w') : TkSl w' v P := by
  refine ⟨?_, fun p hp => (h.2 p hp).next hb⟩
  rcases h.1 with k | ⟨b, off, c, hc, hv, k⟩
  · exact Or.inl k
  · exact Or.inr ⟨b, off, c, hc, hv, fun j hj => (k j hj).next hb⟩
theorem NdSl.next {P : List (Nd × Value)} (h : NdSl w v P) (hb : Below w.heap.size w w') : NdSl w' v P := by
  refine ⟨?_, fun p hp => (h.2 p hp).next hb⟩
  rcases h.1 with k | ⟨b, off, c, hc, hv, k⟩
  · exact Or.inl k
  · exact Or.inr ⟨b, off, c, hc, hv, fun j hj => (k j hj).next hb⟩
/-- The place of its cells, and each node there, in any world that left alone what was there. -/
theorem NdSl.some {P : List (Nd × Value)} (h : NdSl w v P) (h0 : 0 < P.length) : ∃ b off c, P.length ≤ c ∧ b < w.heap.size ∧ v = .slice (some ⟨b, off, none⟩) P.length c ∧ ∀ j (hj : j < P.length), NdAt w b (off + j * 4) (P[j]'hj).1 (P[j]'hj).2 := by
  rcases h.1 with ⟨rfl, _⟩ | ⟨b, off, c, hc, hv, h⟩
  · simp at h0
  · exact ⟨b, off, c, hc, World.block_lt_of_cell? w ⟨b, off + 0 * 4, none⟩ (h 0 h0).c0, hv, h⟩
theorem TkSl.some {P : List (Tk × Value)} (h : TkSl w v P) (h0 : 0 < P.length) : ∃ b off c, P.length ≤ c ∧ b < w.heap.size ∧ v = .slice (some ⟨b, off, none⟩) P.length c ∧ ∀ j (hj : j < P.length), TokAt w b (off + j * 4) (P[j]'hj).1 (P[j]'hj).2 := by
  rcases h.1 with ⟨rfl, _⟩ | ⟨b, off, c, hc, hv, h⟩
  · simp at h0
  · exact ⟨b, off, c, hc, World.block_lt_of_cell? w ⟨b, off + 0 * 4, none⟩ (h 0 h0).c0, hv, h⟩
theorem NdSl.atsAt {P : List (Nd × Value)} (h : NdSl w v P) (j : Nat) (hj : j < P.length) : AtSl w (P[j]'hj).2 (P[j]'hj).1.attrs := h.2 _ (List.getElem_mem hj)
theorem TkSl.atsAt {P : List (Tk × Value)} (h : TkSl w v P) (j : Nat) (hj : j < P.length) : AtSl w (P[j]'hj).2 (P[j]'hj).1.attrs := h.2 _ (List.getElem_mem hj)
end
/-- The nodes alone. -/
abbrev nodes (P : List (Nd × Value)) : List Nd := P.map Prod.fst
theorem nodes_len (P : List (Nd × Value)) : (nodes P).length = P.length := by unfold nodes; simp
theorem nodes_at {P : List (Nd × Value)} {j : Nat} (h : j < P.length) : (P[j]'h).1 = atN (nodes P) (j : Int) := by
  unfold atN nodes
  simp [List.getD, h]
def ndV (p : Nd × Value) : List Value := [strV p.1.name, p.2, strV p.1.text, .int .i64 p.1.up]
def cellsN (P : List (Nd × Value)) : List Value := P.flatMap ndV
theorem cellsN_app (l m : List (Nd × Value)) : cellsN (l ++ m) = cellsN l ++ cellsN m := by simp [cellsN]
theorem cellsN_at : ∀ (P : List (Nd × Value)) (j : Nat) (h : j < P.length), (cellsN P)[j * 4]? = some (strV (P[j]'h).1.name) ∧ (cellsN P)[j * 4 + 1]? = some (P[j]'h).2 ∧ (cellsN P)[j * 4 + 2]? = some (strV (P[j]'h).1.text) ∧ (cellsN P)[j * 4 + 3]? = some (.int .i64 (P[j]'h).1.up)
  | [], j, h => by simp at h
  | x :: t, 0, _ => ⟨rfl, rfl, rfl, rfl⟩
  | x :: t, j + 1, h => by
    have h' : j < t.length := by simpa using h
    have := cellsN_at t j h'
    have e : cellsN (x :: t) = strV x.1.name :: x.2 :: strV x.1.text :: .int .i64 x.1.up :: cellsN t := rfl
    have e1 : ∀ i, (cellsN (x :: t))[(j + 1) * 4 + i]? = (cellsN t)[j * 4 + i]? := fun i => by
      rw [e, show (j + 1) * 4 + i = (j * 4 + i) + 1 + 1 + 1 + 1 by omega]; simp only [List.getElem?_cons_succ]
    have e0 := e1 0
    rw [Nat.add_zero, Nat.add_zero] at e0
    rw [e0, e1, e1, e1]
    simpa using this
/-- A row of nodes that the call itself made. -/
def OwnN (w : World) (B : Nat) (v : Value) (P : List (Nd × Value)) : Prop := w.ownsRow B 51 4 v P.length (cellsN P)
theorem ownN_nil (w : World) (B : Nat) : OwnN w B (.slice none 0 0) [] := World.ownsRow_nil _ _ _ _
theorem info_node : (Tryz.prog.info? 51).map (fun i => (i.zero, i.size, i.bytes)) = some (some (.agg #[.string ⟨#[]⟩, .slice none 0 0, .string ⟨#[]⟩, .int .i64 0]), 4, 64) := by kernel_rfl
/-- The cells of a node in such a row. -/
theorem OwnN.at {w : World} {B : Nat} {v : Value} {P : List (Nd × Value)} (h : OwnN w B v P) {j : Nat} (hj : j < P.length) : ∃ g cap, v = .slice (some ⟨g, 0, none⟩) P.length cap ∧ B ≤ g ∧ g < w.heap.size ∧ P.length ≤ cap ∧ v.ownBlock = some g ∧ NdAt w g (j * 4) (P[j]'hj).1 (P[j]'hj).2 := by
  have hlt := World.ownsRow.lt h
  have hcg := fun g hv => World.ownsRow.cells h (g := g) hv
  rcases h.2 with ⟨_, hn⟩ | ⟨g, cap, cur, hv, _, _, hcap, _⟩
  · omega
  · have hob : v.ownBlock = some g := by rw [hv]; rfl
    obtain ⟨e0, e1, e2, e3⟩ := cellsN_at P j hj
    have hadd : ∀ i, (⟨g, 0, none⟩ : Addr).add i = ⟨g, i, none⟩ := fun i => by unfold Addr.add; split <;> simp_all
    have h0 := hcg g hob _ _ e0
    have h1 := hcg g hob _ _ e1
    have h2 := hcg g hob _ _ e2
    have h3 := hcg g hob _ _ e3
    rw [hadd] at h0 h1 h2 h3
    exact ⟨g, cap, hv, (hlt g hob).1, (hlt g hob).2, hcap, hob, h0, h1, h2, h3⟩
theorem OwnN.sl {w : World} {B : Nat} {v : Value} {P : List (Nd × Value)} (h : OwnN w B v P) (ha : ∀ p ∈ P, AtSl w p.2 p.1.attrs) : NdSl w v P := by
  refine ⟨?_, ha⟩
  by_cases h0 : P = []
  · obtain ⟨a, c, e⟩ := own_form h
    subst h0
    exact Or.inl ⟨rfl, a, c, e⟩
  · have hp : 0 < P.length := List.length_pos_iff.2 h0
    obtain ⟨g, cap, hv, _, _, hcap, _⟩ := h.at hp
    refine Or.inr ⟨g, 0, cap, hcap, hv, fun j hj => ?_⟩
    obtain ⟨g', cap', hv', _, _, _, _, hat⟩ := h.at hj
    rw [hv] at hv'
    injection hv' with e _ _
    injection e with e
    injection e with e
    subst e
    rw [Nat.zero_add]
    exact hat
end Go.Proofs.YtkjjjbipmobdaaaGreatDoor
