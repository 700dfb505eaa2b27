/- Slices of strings: read, made, compared with what they hold. -/
import Derived.Test.YtahndjgamoojkaaBR01
import Derived.Deep.Strs
import Derived.Deep.MidRow
import Derived.Deep.DeepMust
import Derived.Laws.OwnMore
import Derived.Maps.AppendAt
namespace Go.Proofs.Ytahndjgamoojkaa
open Go.RowKit

/-- A text as a value. -/
def strV (l : List UInt8) : Value := .string ⟨l.toArray⟩
theorem info_str : (Try.prog.info? 9).map (fun i => (i.zero, i.size, i.bytes)) = some (some (.string ⟨#[]⟩), 1, 16) := by kernel_rfl
/-- A slice of strings that the call itself made. -/
def Strs (w : World) (B : Nat) (v : Value) (xs : List (List UInt8)) : Prop := w.ownsRow B 9 1 v xs.length (xs.map strV)
/-- A slice of strings that can be read: wherever it lies. -/
def StrSl (w : World) (v : Value) (xs : List (List UInt8)) : Prop :=
  (xs = [] ∧ ∃ a c, v = .slice a 0 c) ∨ ∃ b off c, xs.length ≤ c ∧ v = .slice (some ⟨b, off, none⟩) xs.length c ∧ ∀ j, j < xs.length → w.cell? ⟨b, off + j, none⟩ = some (strV (xs.getD j []))

theorem strSl_own {w : World} {B : Nat} {E : TypeId} {v : Value} {xs : List (List UInt8)} (h : w.ownsRow B E 1 v xs.length (xs.map strV)) : StrSl w v xs := by
  rcases h.2 with ⟨hv, hn⟩ | ⟨g, cap, cur, hv, _, _, hcap, _⟩
  · exact Or.inl ⟨List.length_eq_zero_iff.1 hn, _, _, hv⟩
  · refine Or.inr ⟨g, 0, cap, hcap, hv, fun j hj => ?_⟩
    have := h.cells (g := g) (by rw [hv]; rfl) j (strV (xs.getD j [])) (by simp [hj, List.getD])
    have hadd : (⟨g, 0, none⟩ : Addr).add j = ⟨g, 0 + j, none⟩ := by unfold Addr.add; split <;> simp_all
    rw [hadd] at this; exact this
theorem StrSl.drawn {w w' : World} {v : Value} {xs : List (List UInt8)} (h : StrSl w v xs) (hd : Drawn w w') : StrSl w' v xs := by
  obtain ⟨n, rfl⟩ := hd; exact h
theorem StrSl.below {w w' : World} {v : Value} {xs : List (List UInt8)} {B : Nat} (h : StrSl w v xs) (hb : Below B w w') (hv : SlBelow B v) : StrSl w' v xs := by
  rcases h with h | ⟨b, off, c, hc, rfl, h⟩
  · exact Or.inl h
  · exact Or.inr ⟨b, off, c, hc, rfl, fun j hj => (hb.cell (p := ⟨b, off + j, none⟩) (hv ⟨b, off, none⟩ _ _ rfl (by omega))).trans (h j hj)⟩
theorem StrSl.nil {w : World} {v : Value} {xs : List (List UInt8)} (h : StrSl w v xs) (hx : xs = []) : ∃ a c, v = .slice a 0 c := by
  rcases h with ⟨_, h⟩ | ⟨b, off, c, _, h, _⟩
  · exact h
  · subst hx; exact ⟨_, _, h⟩
theorem StrSl.some {w : World} {v : Value} {xs : List (List UInt8)} (h : StrSl w v xs) (hx : xs ≠ []) :
    ∃ b off c, v = .slice (some ⟨b, off, none⟩) xs.length c ∧ ∀ j, j < xs.length → w.cell? ⟨b, off + j, none⟩ = some (strV (xs.getD j [])) := by
  rcases h with ⟨h, _⟩ | ⟨b, off, c, _, h⟩
  · exact absurd h hx
  · exact ⟨b, off, c, h⟩
theorem StrSl.form {w : World} {v : Value} {xs : List (List UInt8)} (h : StrSl w v xs) : ∃ a c, v = .slice a xs.length c := by
  rcases h with ⟨rfl, a, c, h⟩ | ⟨b, off, c, _, h, _⟩
  · exact ⟨a, c, h⟩
  · exact ⟨_, c, h⟩
theorem strs_mk {w : World} {B : Nat} {v : Value} {xs : List (List UInt8)} {x : List UInt8} (h : w.ownsRow B 9 1 v (xs.length + 1) (xs.map strV ++ [strV x])) : Strs w B v (xs ++ [x]) := by
  unfold Strs; rw [List.length_append, List.map_append]; exact h
theorem strs_app {w : World} {B : Nat} {v : Value} {xs ys : List (List UInt8)} (h : w.ownsRow B 9 1 v (xs.length + ys.length) (xs.map strV ++ ys.map strV)) : Strs w B v (xs ++ ys) := by
  unfold Strs; rw [List.length_append, List.map_append]; exact h
/-- A slice's length, in a slot. -/
def slLen : Value → Nat
  | .slice _ n _ => n
  | _ => 0
theorem slLen_own {w : World} {B : Nat} {E : TypeId} {z : Nat} {v : Value} {n : Nat} {xs : List Value} (h : w.ownsRow B E z v n xs) : slLen v = n := by
  rcases h.2 with ⟨rfl, rfl⟩ | ⟨g, cap, cur, rfl, _⟩ <;> rfl
/-- The form of what the call itself made. -/
theorem own_form {w : World} {B : Nat} {E : TypeId} {z : Nat} {v : Value} {n : Nat} {xs : List Value} (h : w.ownsRow B E z v n xs) : ∃ a c, v = .slice a n c := by
  rcases h.2 with ⟨rfl, rfl⟩ | ⟨g, cap, cur, rfl, _⟩
  · exact ⟨_, _, rfl⟩
  · exact ⟨_, _, rfl⟩
theorem own_cap {w : World} {B : Nat} {E : TypeId} {z : Nat} {v : Value} {n : Nat} {xs : List Value} (h : w.ownsRow B E z v n xs) : ∃ a c, v = .slice a n c ∧ n ≤ c := by
  rcases h.2 with ⟨rfl, rfl⟩ | ⟨g, cap, cur, rfl, _, _, h, _⟩
  · exact ⟨_, _, rfl, Nat.le_refl _⟩
  · exact ⟨_, _, rfl, h⟩
/-- A part of a slice of integers. -/
theorem intSl_sub {k : IntKind} {w : World} {b off c : Nat} {xs : List Int} (h : IntSl k w (.slice (some ⟨b, off, none⟩) xs.length c) xs) (h0 : xs ≠ []) (i m c' : Nat) (hi : i ≤ m) (hm : m ≤ xs.length) :
    IntSl k w (.slice (some ⟨b, off + i, none⟩) (m - i) c') ((xs.drop i).take (m - i)) := by
  have hl : ((xs.drop i).take (m - i)).length = m - i := by simp; omega
  refine Or.inr ⟨b, off + i, c', by rw [hl], fun j hj => ?_⟩
  obtain ⟨b', o', c'', e, hc⟩ := h.some h0
  injection e with e e'' e'
  injection e with e
  injection e with e1 e2
  subst e1 e2
  rw [hl] at hj
  have := hc (i + j) (by omega)
  rw [show off + i + j = off + (i + j) from by omega, this]
  simp [List.getD, hj]
/-- A part of a slice of strings. -/
theorem strSl_sub {w : World} {b off c : Nat} {xs : List (List UInt8)} (h : StrSl w (.slice (some ⟨b, off, none⟩) xs.length c) xs) (h0 : xs ≠ []) (i m c' : Nat) (hi : i ≤ m) (hm : m ≤ xs.length) (hc' : m - i ≤ c') :
    StrSl w (.slice (some ⟨b, off + i, none⟩) (m - i) c') ((xs.drop i).take (m - i)) := by
  have hl : ((xs.drop i).take (m - i)).length = m - i := by simp; omega
  refine Or.inr ⟨b, off + i, c', by rw [hl]; exact hc', by rw [hl], fun j hj => ?_⟩
  obtain ⟨b', o', c'', e, hc⟩ := h.some h0
  injection e with e e'' e'
  injection e with e
  injection e with e1 e2
  subst e1 e2
  rw [hl] at hj
  have := hc (i + j) (by omega)
  rw [show off + i + j = off + (i + j) from by omega, this]
  simp [List.getD, hj]
/-- A slice of strings, just built. -/
theorem strSl_new (w : World) (E : TypeId) (xs : List (List UInt8)) (n : Nat) (hn : n = xs.length) : StrSl (w.alloc (.cells (xs.map strV).toArray E)) (.slice (some ⟨w.heap.size, 0, none⟩) n n) xs := by
  subst hn
  refine Or.inr ⟨_, 0, _, Nat.le_refl _, rfl, fun j hj => ?_⟩
  rw [cell_of_row _ _ _ _ _ _ (heap_alloc_new w _)]
  simp [List.getD, hj]
/-- A slice of integers, just built. -/
theorem intSl_new (w : World) (k : IntKind) (E : TypeId) (xs : List Int) (n : Nat) (hn : n = xs.length) : IntSl k (w.alloc (.cells (xs.map (Value.int k)).toArray E)) (.slice (some ⟨w.heap.size, 0, none⟩) n n) xs := by
  subst hn
  refine Or.inr ⟨_, 0, _, rfl, fun j hj => ?_⟩
  rw [cell_of_row _ _ _ _ _ _ (heap_alloc_new w _)]
  simp [List.getD, hj]
theorem slBelow_new (w : World) (E : TypeId) (vs : Array Value) (n c : Nat) : SlBelow (w.alloc (.cells vs E)).heap.size (.slice (some ⟨w.heap.size, 0, none⟩) n c) := by
  intro a' n' c' e _
  injection e with e
  injection e with e
  subst e
  simp
/-- The capacity has room for what is in it. -/
theorem StrSl.cap {w : World} {a : Option Addr} {n c : Nat} {xs : List (List UInt8)} (h : StrSl w (.slice a n c) xs) : n = xs.length ∧ (xs ≠ [] → xs.length ≤ c) := by
  rcases h with ⟨rfl, a', c', e⟩ | ⟨b, off, c', hc, e, _⟩
  · injection e with _ e _; exact ⟨e, fun h => absurd rfl h⟩
  · injection e with _ e e2; exact ⟨e, fun _ => by omega⟩
theorem ownsRow_mono {w : World} {B B' : Nat} {E : TypeId} {z : Nat} {v : Value} {n : Nat} {xs : List Value} (h : w.ownsRow B E z v n xs) (hb : B' ≤ B) : w.ownsRow B' E z v n xs := by
  rcases h.2 with h2 | ⟨g, cap, cur, h2, h3, h4⟩
  · exact ⟨h.1, Or.inl h2⟩
  · exact ⟨h.1, Or.inr ⟨g, cap, cur, h2, Nat.le_trans hb h3, h4⟩⟩
/-- Bytes as the numbers that a slice of them holds. -/
def nums (l : List UInt8) : List Int := l.map fun c => (c.toNat : Int)
theorem nums_app (a b : List UInt8) : nums (a ++ b) = nums a ++ nums b := by unfold nums; simp
theorem nums_len (a : List UInt8) : (nums a).length = a.length := by unfold nums; simp
theorem Strs.sl {w : World} {B : Nat} {v : Value} {xs : List (List UInt8)} (h : Strs w B v xs) : StrSl w v xs := strSl_own h
theorem Strs.low {w : World} {B : Nat} {v : Value} {xs : List (List UInt8)} (h : Strs w B v xs) : SlBelow w.heap.size v := slBelow_own h
end Go.Proofs.Ytahndjgamoojkaa

/- A slice of strings that came in. -/
namespace Go.Proofs.Ytahndjgamoojkaa
open Go.ChangeShapes Go.WideShapes Go.ChangeAt Go.RowKit

section
variable {H : Type} {enc : TypeId × Value → H} {P : Program}

/-- A slice of strings that came in. -/
theorem open_strSl {r : Reach} {b0 : Nat} {w : World} {t e : TypeId} {v : Value} {d : DataW H} {ps : List MemPlace} (ht : P.underlying t = some (.slice e)) (he : P.underlying e = some .string) (hc : P.cellsOf e = 1)
    (hval : Value.okWide P w r b0 t v) (hd : DataW.Trod enc P w 0 (fun _ => true) true t v d ps) (_hlt : ∀ x ∈ ps, x.block < w.heap.size) :
    ∃ xs : List (List UInt8), StrSl w v xs ∧ SlBelow w.heap.size v ∧ xs.length ≤ maxLen ∧ ∀ x ∈ xs, x.length ≤ maxLen := by
  obtain ⟨a0, len, cap, rfl⟩ := okWide_slice ht hval
  obtain ⟨fuel, hf⟩ := hd
  rcases Go.Deep.open_strs ht he hc hf with ⟨hcs, _⟩ | ⟨a, len', cap', m, Sx, hcs, _, hl, hm, hmm, _, hcell⟩
  · simp [Value.cells] at hcs
    obtain ⟨rfl, rfl, rfl⟩ := hcs
    exact ⟨[], Or.inl ⟨rfl, _, _, rfl⟩, fun a n c h => by simp at h, Nat.zero_le _, by simp⟩
  · simp [Value.cells] at hcs
    obtain ⟨rfl, rfl, rfl⟩ := hcs
    simp only [if_true] at hmm
    subst hmm
    have hblk : 0 < len → a.spot = none ∧ a.block < w.heap.size := by
      intro h0
      have hc0 := (hcell 0 (by omega)).1
      have hs : a.spot = none := by simpa [Addr.add] using World.cell?_spot hc0
      have := World.block_lt_of_cell? w _ hc0
      refine ⟨hs, ?_⟩
      obtain ⟨b, off, spot⟩ := a
      simp at hs
      subst hs
      simpa [Addr.add] using this
    refine ⟨(List.range len).map fun i => (Sx i).data.toList, ?_, ?_, ?_, ?_⟩
    · by_cases h0 : len = 0
      · subst h0; exact Or.inl ⟨rfl, _, _, rfl⟩
      · obtain ⟨b, off, spot⟩ := a
        have hs := (hblk (by omega)).1
        simp at hs
        subst hs
        refine Or.inr ⟨b, off, _, by simpa using hl, by simp, fun j hj => ?_⟩
        have hj' : j < len := by simpa using hj
        have := (hcell j (by omega)).1
        rw [add_plain] at this
        rw [this]
        simp [strV, List.getD, hj']
    · intro a' n c h h0
      simp at h
      obtain ⟨rfl, rfl, rfl⟩ := h
      exact (hblk h0).2
    · simp; omega
    · intro x hx
      obtain ⟨i, hi, rfl⟩ := List.mem_map.1 hx
      have hi := List.mem_range.1 hi
      have := (hcell i (by omega)).2
      exact this
end
end Go.Proofs.Ytahndjgamoojkaa

/- An array that the call itself made, as a row of its own: read, written, cell by cell and whole. -/
namespace Go.Proofs.Ytahndjgamoojkaa
open Go.RowKit

/-- Block g is a row of the cells c, and may be written. -/
def ArrAt (w : World) (g : Nat) (t : TypeId) (c : List Value) : Prop := w.heap[g]? = some (.cells c.toArray t (0, 0))
theorem arrAt_new (w : World) (t : TypeId) (c : List Value) : ArrAt (w.alloc (.cells c.toArray t)) w.heap.size t c := heap_alloc_new w _
theorem ArrAt.cell {w : World} {g : Nat} {t : TypeId} {c : List Value} (h : ArrAt w g t c) (k : Nat) : w.cell? ⟨g, k, none⟩ = c[k]? := by
  rw [cell_of_row w g k _ t _ h]; simp
theorem ArrAt.soft {w : World} {g : Nat} {t : TypeId} {c : List Value} (h : ArrAt w g t c) (k : Nat) : w.frozen? ⟨g, k, none⟩ = false := frozen_of_row w g k _ t h
theorem ArrAt.lt {w : World} {g : Nat} {t : TypeId} {c : List Value} (h : ArrAt w g t c) : g < w.heap.size := (Array.getElem?_eq_some_iff.1 h).1
theorem ArrAt.set {w : World} {g : Nat} {t : TypeId} {c : List Value} (h : ArrAt w g t c) (k : Nat) (v : Value) : ArrAt (w.setCell ⟨g, k, none⟩ v) g t (c.set k v) := by
  unfold ArrAt
  rw [heap_setCell_same w g k _ t v h]
  simp
theorem ArrAt.far {w : World} {g g' : Nat} {t : TypeId} {c : List Value} (h : ArrAt w g t c) (k : Nat) (v : Value) (hg : g ≠ g') : ArrAt (w.setCell ⟨g', k, none⟩ v) g t c := by
  unfold ArrAt
  rw [heap_setCell_other w _ _ v hg]; exact h
theorem ArrAt.below {w w' : World} {g B : Nat} {t : TypeId} {c : List Value} (h : ArrAt w g t c) (hb : Below B w w') (hg : g < B) : ArrAt w' g t c := (hb.block g hg).trans h
theorem ArrAt.next {w w' : World} {g : Nat} {t : TypeId} {c : List Value} (h : ArrAt w g t c) (hb : Below w.heap.size w w') : ArrAt w' g t c := h.below hb h.lt
theorem ArrAt.drawn {w w' : World} {g : Nat} {t : TypeId} {c : List Value} (h : ArrAt w g t c) (hd : Drawn w w') : ArrAt w' g t c := h.next (hd.below _)
theorem ArrAt.range {w : World} {g : Nat} {t : TypeId} {c : List Value} (h : ArrAt w g t c) : w.rangeAt g 0 c := fun j v hv => by rw [Nat.zero_add, h.cell j]; exact hv
theorem ArrAt.there {w : World} {g : Nat} {t : TypeId} {c : List Value} (h : ArrAt w g t c) : w.there g 0 c.length := fun j hj => by
  rw [Nat.zero_add]; exact ⟨by rw [h.cell j]; simp [hj], h.soft j⟩
theorem setCells_row (t : TypeId) (g : Nat) : ∀ (vs pre post : List Value) (w : World), ArrAt w g t (pre ++ post) → vs.length = post.length → ArrAt (w.setCells g pre.length vs) g t (pre ++ vs)
  | [], pre, post, w, h, hl => by
    obtain rfl : post = [] := List.length_eq_zero_iff.1 hl.symm
    exact h
  | v :: vs, pre, post, w, h, hl => by
    cases post with
    | nil => simp at hl
    | cons p post =>
      have h2 := setCells_row t g vs (pre ++ [v]) post (w.setCell ⟨g, pre.length, none⟩ v) (by
        have := h.set pre.length v
        simpa [List.set_append_right] using this) (by simpa using hl)
      simp only [List.length_append, List.length_cons, List.length_nil, List.append_assoc, List.singleton_append] at h2
      exact h2
/-- A whole array, stored over one of as many cells. -/
theorem ArrAt.whole {w : World} {g : Nat} {t : TypeId} {c c' : List Value} (h : ArrAt w g t c) (hl : c'.length = c.length) : ArrAt (w.setCells g 0 c') g t c' := setCells_row t g c' [] c w h hl
theorem below_setCells {B : Nat} {a : World} (g : Nat) (hg : B ≤ g) : ∀ (vs : List Value) (o : Nat) (w : World), Below B a w → Below B a (w.setCells g o vs)
  | [], _, _, h => h
  | v :: vs, o, _, h => below_setCells g hg vs (o + 1) _ (h.setCell (p := ⟨g, o, none⟩) hg v)
/-- A result that lies in a row of its own. -/
theorem results_row {P : Program} {fn : Func} {p : Tmp} {ty : TypeId} (h : fn.results = #[.cell p ty]) (tmps : Array Value) (w : World) (g : Nat) (c : List Value) (n : Nat) (e t : TypeId) (hp : tmps.getD p undef = .pointer (some ⟨g, 0, none⟩)) (hr : ArrAt w g t c)
    (hu : P.underlying ty = some (.array n e)) (hi : (P.info? ty).map (·.size) = some c.length) : (results fn tmps).run P w = .ok (.agg c.toArray) w := by
  have hl := run_loadVar_mid (P := P) w g 0 ty c (.array n e) hr.range hu rfl hi
  have hp' : tmps[p]?.getD undef = .pointer (some ⟨g, 0, none⟩) := by simpa using hp
  simp only [results, h]
  simp [hp', asAddr, hl]
/-- A whole array, stored over one of as many cells: of the world behind it what matters. -/
theorem wpList_store_arr {P : Program} {ops : Array Oper} {rest : List Oper} {op : Oper} {a : Act} {w : World} {Q : Exit → Act → World → Prop} (hgd : op.guard = none) (ty : TypeId) (x y : Operand) (ho : op.op = .store ty x y)
    (g : Nat) (t : TypeId) (c c' : List Value) (hx : a.eval x = .pointer (some ⟨g, 0, none⟩)) (hy : a.eval y = .agg c'.toArray) (hr : ArrAt w g t c) (hl : c'.length = c.length) (hi : (P.info? ty).map (·.size) = some c'.length) (h1 : ∀ v ∈ c', v.oneCell' = true)
    (h : ∀ w', Hid (ArrAt w' g t c') → Hid (∀ B a0, B ≤ g → Below B a0 w → Below B a0 w') → wpList P ops Q rest (a.put op.dst undef) w') : wpList P ops Q (op :: rest) a w :=
  wpList_store_mid hgd ty x y ho g 0 c'.toArray hx hy (by have := hr.there; rw [← hl] at this; simpa using this) (by simpa using hi) (all_oneCell_toArray h1) (h _ (hr.whole hl) (fun _ _ hB hb => below_setCells g hB _ _ _ hb))
end Go.Proofs.Ytahndjgamoojkaa

/- A world in which certain blocks alone have turned, and new ones have come. -/
namespace Go.RowKit
/-- w' is w, but for the blocks of S and new ones. -/
structure Turned (S : Nat → Prop) (w w' : World) : Prop where
  os : w'.os = w.os
  tape : w'.tape = w.tape
  output : w'.output = w.output
  size : w.heap.size ≤ w'.heap.size
  block : ∀ k, k < w.heap.size → ¬ S k → w'.heap[k]? = w.heap[k]?
theorem Turned.refl (S : Nat → Prop) (w : World) : Turned S w w := ⟨rfl, rfl, rfl, Nat.le_refl _, fun _ _ _ => rfl⟩
theorem Turned.of_below {S : Nat → Prop} {w w' : World} (h : Below w.heap.size w w') : Turned S w w' := ⟨h.os, h.tape, h.output, h.size, fun k hk _ => h.block k hk⟩
theorem Turned.of_grown {S : Nat → Prop} {w w' : World} {row : Option Nat} (h : w.grownBy w' row) (hr : ∀ k, row = some k → S k) : Turned S w w' :=
  ⟨h.os, h.tape, h.output, h.size, fun k hk hS => h.block k hk (fun e => hS (hr k e.symm))⟩
theorem Turned.trans {S S' : Nat → Prop} {a b c : World} (h : Turned S a b) (k : Turned S' b c) (hS : ∀ i, i < a.heap.size → S' i → S i) : Turned S a c :=
  ⟨k.os.trans h.os, k.tape.trans h.tape, k.output.trans h.output, Nat.le_trans h.size k.size, fun i hi hn => (k.block i (Nat.lt_of_lt_of_le hi h.size) (fun hs => hn (hS i hi hs))).trans (h.block i hi hn)⟩
theorem Turned.mono {S S' : Nat → Prop} {w w' : World} (h : Turned S w w') (hS : ∀ i, i < w.heap.size → S i → S' i) : Turned S' w w' :=
  ⟨h.os, h.tape, h.output, h.size, fun i hi hn => h.block i hi (fun hs => hn (hS i hi hs))⟩
theorem Turned.below {S : Nat → Prop} {w w' : World} {B : Nat} (h : Turned S w w') (hS : ∀ i, i < w.heap.size → S i → B ≤ i) (hB : B ≤ w.heap.size) : Below B w w' :=
  ⟨h.os, h.tape, h.output, h.size, fun i hi => h.block i (Nat.lt_of_lt_of_le hi hB) (fun hs => by have := hS i (Nat.lt_of_lt_of_le hi hB) hs; omega)⟩
end Go.RowKit
namespace Go.Proofs.Ytahndjgamoojkaa
open Go.RowKit

theorem ownsRow_turned {S : Nat → Prop} {w w' : World} {B : Nat} {E : TypeId} {z : Nat} {v : Value} {n : Nat} {xs : List Value} (h : w.ownsRow B E z v n xs) (ht : Turned S w w') (hS : ∀ k, v.ownBlock = some k → ¬ S k) : w'.ownsRow B E z v n xs := by
  have hl := h.lt
  rcases h with ⟨h1, h | ⟨g, cap, cur, rfl, hb, hg, h3⟩⟩
  · exact ⟨h1, Or.inl h⟩
  · exact ⟨h1, Or.inr ⟨g, cap, cur, rfl, hb, (ht.block g (hl g rfl).2 (hS g rfl)).trans hg, h3⟩⟩
theorem ArrAt.turned {S : Nat → Prop} {w w' : World} {g : Nat} {t : TypeId} {c : List Value} (h : ArrAt w g t c) (ht : Turned S w w') (hS : ¬ S g) : ArrAt w' g t c := (ht.block g h.lt hS).trans h
theorem ArrAt.grown {w w' : World} {row : Option Nat} {g : Nat} {t : TypeId} {c : List Value} (h : ArrAt w g t c) (hg : w.grownBy w' row) (hne : some g ≠ row) : ArrAt w' g t c := (hg.block g h.lt hne).trans h
theorem grown_setRow (w : World) (g : Nat) (cs : Array Value) : w.grownBy (w.setRow g cs) (some g) := ⟨rfl, rfl, rfl, by simp, fun k _ hk => setRow_other w g k cs (fun e => hk (by rw [e]))⟩
theorem grown_trans {w w1 w2 : World} {row : Option Nat} (h : w.grownBy w1 row) (k : w1.grownBy w2 row) : w.grownBy w2 row :=
  ⟨k.os.trans h.os, k.tape.trans h.tape, k.output.trans h.output, Nat.le_trans h.size k.size, fun i hi hn => (k.block i (Nat.lt_of_lt_of_le hi h.size) hn).trans (h.block i hi hn)⟩
/-- A row of which all is known, as a slice that is owned: its first n elements. -/
theorem ArrAt.owns {w : World} {g n cap z : Nat} {t : TypeId} {c xs : List Value} (h : ArrAt w g t c) (hx : c.take (n * z) = xs) (hl : c.length = cap * z) (hn : n ≤ cap) (hm : cap ≤ maxLen) :
    w.ownsRow 0 t z (.slice (some ⟨g, 0, none⟩) n cap) n xs := by
  have hle : n * z ≤ cap * z := Nat.mul_le_mul_right _ hn
  exact ⟨by rw [← hx, List.length_take]; omega, Or.inr ⟨g, cap, c.toArray, rfl, Nat.zero_le _, h, hn, hm, by simpa using hl, by simpa using hx⟩⟩
/-- A slice that is owned and has something, as a row of which all is known. -/
theorem owns_arr {w : World} {B n z : Nat} {t : TypeId} {v : Value} {xs : List Value} (h : w.ownsRow B t z v n xs) (hn : v ≠ .slice none 0 0) :
    ∃ g cap c, v = .slice (some ⟨g, 0, none⟩) n cap ∧ ArrAt w g t c ∧ c.take (n * z) = xs ∧ c.length = cap * z ∧ n ≤ cap ∧ cap ≤ maxLen := by
  rcases h with ⟨h1, ⟨hv, _⟩ | ⟨g, cap, cur, hv, hb, hg, hnc, hcm, hcs, htk⟩⟩
  · exact absurd hv hn
  · exact ⟨g, cap, cur.toList, hv, by unfold ArrAt; simpa using hg, htk, by simpa using hcs, hnc, hcm⟩
theorem own_heap {w : World} {B n z : Nat} {E : TypeId} {v : Value} {xs : List Value} {g : Nat} (h : w.ownsRow B E z v n xs) (hv : v.ownBlock = some g) : ∃ cur, w.heap[g]? = some (.cells cur E (0, 0)) := by
  rcases h.2 with ⟨rfl, _⟩ | ⟨g', cap, cur, rfl, _, hg, _⟩
  · cases hv
  · injection hv with hv
    have : g' = g := hv
    subst this
    exact ⟨cur, hg⟩
theorem own_apart {w : World} {B B' n m z z' : Nat} {E E' : TypeId} {v u : Value} {xs ys : List Value} {g : Nat} (h1 : w.ownsRow B E z v n xs) (h2 : w.ownsRow B' E' z' u m ys) (hE : E ≠ E') (hv : v.ownBlock = some g) (hu : u.ownBlock = some g) : False := by
  obtain ⟨c1, e1⟩ := own_heap h1 hv
  obtain ⟨c2, e2⟩ := own_heap h2 hu
  rw [e1] at e2
  injection e2 with e2
  injection e2 with _ e2
  exact hE e2
theorem turned_setCell (w : World) (a : Addr) (u : Value) : Turned (fun b => b = a.block) w (w.setCell a u) :=
  ⟨rfl, rfl, rfl, by simp [World.setCell], fun k _ hk => Below.heap_setCell w a u k hk⟩
theorem own_ne_arr {w : World} {B n z g : Nat} {E t : TypeId} {v : Value} {xs c : List Value} (h : w.ownsRow B E z v n xs) (ha : ArrAt w g t c) (hE : E ≠ t) : v.ownBlock ≠ some g := fun e => by
  obtain ⟨cur, e1⟩ := own_heap h e
  unfold ArrAt at ha
  rw [ha] at e1
  injection e1 with e1
  injection e1 with _ e1
  exact hE e1.symm
theorem arr_apart {w : World} {g g' : Nat} {t t' : TypeId} {c c' : List Value} (h : ArrAt w g t c) (h' : ArrAt w g' t' c') (ht : t ≠ t') : g ≠ g' := fun e => by
  subst e
  unfold ArrAt at h h'
  rw [h] at h'
  injection h' with h'
  injection h' with _ h'
  exact ht h'
end Go.Proofs.Ytahndjgamoojkaa
