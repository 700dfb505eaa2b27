/- A world in which certain blocks alone have turned, and new ones have come. -/
import Derived.Test.YtpfcamebkcengaaAr
import Derived.Test.YtpfcamebkcengaaApp
import Derived.Laws.OwnMore
import Derived.Maps.AppendAt
namespace Go.RowKit
/-- w' is w, but for the blocks of S and new ones. -/
structure Turned (S : Nat → Prop) (w w' : World) : Prop where
  os : w'.os = w.os
  tape : w'.tape = w.tape
  output : w'.output = w.output
  size : w.heap.size ≤ w'.heap.size
  block : ∀ k, k < w.heap.size → ¬ S k → w'.heap[k]? = w.heap[k]?
theorem Turned.refl (S : Nat → Prop) (w : World) : Turned S w w := ⟨rfl, rfl, rfl, Nat.le_refl _, fun _ _ _ => rfl⟩
theorem Turned.of_below {S : Nat → Prop} {w w' : World} (h : Below w.heap.size w w') : Turned S w w' := ⟨h.os, h.tape, h.output, h.size, fun k hk _ => h.block k hk⟩
theorem Turned.of_grown {S : Nat → Prop} {w w' : World} {row : Option Nat} (h : w.grownBy w' row) (hr : ∀ k, row = some k → S k) : Turned S w w' :=
  ⟨h.os, h.tape, h.output, h.size, fun k hk hS => h.block k hk (fun e => hS (hr k e.symm))⟩
theorem Turned.trans {S S' : Nat → Prop} {a b c : World} (h : Turned S a b) (k : Turned S' b c) (hS : ∀ i, i < a.heap.size → S' i → S i) : Turned S a c :=
  ⟨k.os.trans h.os, k.tape.trans h.tape, k.output.trans h.output, Nat.le_trans h.size k.size, fun i hi hn => (k.block i (Nat.lt_of_lt_of_le hi h.size) (fun hs => hn (hS i hi hs))).trans (h.block i hi hn)⟩
theorem Turned.mono {S S' : Nat → Prop} {w w' : World} (h : Turned S w w') (hS : ∀ i, i < w.heap.size → S i → S' i) : Turned S' w w' :=
  ⟨h.os, h.tape, h.output, h.size, fun i hi hn => h.block i hi (fun hs => hn (hS i hi hs))⟩
theorem Turned.below {S : Nat → Prop} {w w' : World} {B : Nat} (h : Turned S w w') (hS : ∀ i, i < w.heap.size → S i → B ≤ i) (hB : B ≤ w.heap.size) : Below B w w' :=
  ⟨h.os, h.tape, h.output, h.size, fun i hi => h.block i (Nat.lt_of_lt_of_le hi hB) (fun hs => by have := hS i (Nat.lt_of_lt_of_le hi hB) hs; omega)⟩
end Go.RowKit
namespace Go.Proofs.Ytpfcamebkcengaa
open Go.RowKit

theorem ownsRow_turned {S : Nat → Prop} {w w' : World} {B : Nat} {E : TypeId} {z : Nat} {v : Value} {n : Nat} {xs : List Value} (h : w.ownsRow B E z v n xs) (ht : Turned S w w') (hS : ∀ k, v.ownBlock = some k → ¬ S k) : w'.ownsRow B E z v n xs := by
  have hl := h.lt
  rcases h with ⟨h1, h | ⟨g, cap, cur, rfl, hb, hg, h3⟩⟩
  · exact ⟨h1, Or.inl h⟩
  · exact ⟨h1, Or.inr ⟨g, cap, cur, rfl, hb, (ht.block g (hl g rfl).2 (hS g rfl)).trans hg, h3⟩⟩
theorem ArrAt.turned {S : Nat → Prop} {w w' : World} {g : Nat} {t : TypeId} {c : List Value} (h : ArrAt w g t c) (ht : Turned S w w') (hS : ¬ S g) : ArrAt w' g t c := (ht.block g h.lt hS).trans h
theorem ArrAt.grown {w w' : World} {row : Option Nat} {g : Nat} {t : TypeId} {c : List Value} (h : ArrAt w g t c) (hg : w.grownBy w' row) (hne : some g ≠ row) : ArrAt w' g t c := (hg.block g h.lt hne).trans h
theorem grown_setRow (w : World) (g : Nat) (cs : Array Value) : w.grownBy (w.setRow g cs) (some g) := ⟨rfl, rfl, rfl, by simp, fun k _ hk => setRow_other w g k cs (fun e => hk (by rw [e]))⟩
theorem grown_trans {w w1 w2 : World} {row : Option Nat} (h : w.grownBy w1 row) (k : w1.grownBy w2 row) : w.grownBy w2 row :=
  ⟨k.os.trans h.os, k.tape.trans h.tape, k.output.trans h.output, Nat.le_trans h.size k.size, fun i hi hn => (k.block i (Nat.lt_of_lt_of_le hi h.size) hn).trans (h.block i hi hn)⟩
/-- A row of which all is known, as a slice that is owned: its first n elements. -/
theorem ArrAt.owns {w : World} {g n cap z : Nat} {t : TypeId} {c xs : List Value} (h : ArrAt w g t c) (hx : c.take (n * z) = xs) (hl : c.length = cap * z) (hn : n ≤ cap) (hm : cap ≤ maxLen) :
    w.ownsRow 0 t z (.slice (some ⟨g, 0, none⟩) n cap) n xs := by
  have hle : n * z ≤ cap * z := Nat.mul_le_mul_right _ hn
  exact ⟨by rw [← hx, List.length_take]; omega, Or.inr ⟨g, cap, c.toArray, rfl, Nat.zero_le _, h, hn, hm, by simpa using hl, by simpa using hx⟩⟩
/-- A slice that is owned and has something, as a row of which all is known. -/
theorem owns_arr {w : World} {B n z : Nat} {t : TypeId} {v : Value} {xs : List Value} (h : w.ownsRow B t z v n xs) (hn : v ≠ .slice none 0 0) :
    ∃ g cap c, v = .slice (some ⟨g, 0, none⟩) n cap ∧ ArrAt w g t c ∧ c.take (n * z) = xs ∧ c.length = cap * z ∧ n ≤ cap ∧ cap ≤ maxLen := by
  rcases h with ⟨h1, ⟨hv, _⟩ | ⟨g, cap, cur, hv, hb, hg, hnc, hcm, hcs, htk⟩⟩
  · exact absurd hv hn
  · exact ⟨g, cap, cur.toList, hv, by unfold ArrAt; simpa using hg, htk, by simpa using hcs, hnc, hcm⟩
theorem own_heap {w : World} {B n z : Nat} {E : TypeId} {v : Value} {xs : List Value} {g : Nat} (h : w.ownsRow B E z v n xs) (hv : v.ownBlock = some g) : ∃ cur, w.heap[g]? = some (.cells cur E (0, 0)) := by
  rcases h.2 with ⟨rfl, _⟩ | ⟨g', cap, cur, rfl, _, hg, _⟩
  · cases hv
  · injection hv with hv
    have : g' = g := hv
    subst this
    exact ⟨cur, hg⟩
theorem own_apart {w : World} {B B' n m z z' : Nat} {E E' : TypeId} {v u : Value} {xs ys : List Value} {g : Nat} (h1 : w.ownsRow B E z v n xs) (h2 : w.ownsRow B' E' z' u m ys) (hE : E ≠ E') (hv : v.ownBlock = some g) (hu : u.ownBlock = some g) : False := by
  obtain ⟨c1, e1⟩ := own_heap h1 hv
  obtain ⟨c2, e2⟩ := own_heap h2 hu
  rw [e1] at e2
  injection e2 with e2
  injection e2 with _ e2
  exact hE e2
theorem turned_setCell (w : World) (a : Addr) (u : Value) : Turned (fun b => b = a.block) w (w.setCell a u) :=
  ⟨rfl, rfl, rfl, by simp [World.setCell], fun k _ hk => Below.heap_setCell w a u k hk⟩
theorem own_ne_arr {w : World} {B n z g : Nat} {E t : TypeId} {v : Value} {xs c : List Value} (h : w.ownsRow B E z v n xs) (ha : ArrAt w g t c) (hE : E ≠ t) : v.ownBlock ≠ some g := fun e => by
  obtain ⟨cur, e1⟩ := own_heap h e
  unfold ArrAt at ha
  rw [ha] at e1
  injection e1 with e1
  injection e1 with _ e1
  exact hE e1.symm
theorem arr_apart {w : World} {g g' : Nat} {t t' : TypeId} {c c' : List Value} (h : ArrAt w g t c) (h' : ArrAt w g' t' c') (ht : t ≠ t') : g ≠ g' := fun e => by
  subst e
  unfold ArrAt at h h'
  rw [h] at h'
  injection h' with h'
  injection h' with _ h'
  exact ht h'
end Go.Proofs.Ytpfcamebkcengaa
