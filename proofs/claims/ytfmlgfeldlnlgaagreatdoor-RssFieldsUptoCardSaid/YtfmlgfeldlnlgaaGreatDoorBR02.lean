/- Slices of strings: read, made, compared with what they hold. -/
import Derived.Test.YtfmlgfeldlnlgaaGreatDoorBR01
import Derived.Lib.LaidTab
import Derived.Laws.OwnMore
import Derived.Maps.AppendAt
namespace Go.Proofs.YtfmlgfeldlnlgaaGreatDoor
open Go.RowKit

/-- A text as a value. -/
def strV (l : List UInt8) : Value := .string ⟨l.toArray⟩
theorem info_str : (Tryz.prog.info? 9).map (fun i => (i.zero, i.size, i.bytes)) = some (some (.string ⟨#[]⟩), 1, 16) := by kernel_rfl
/-- A slice of strings that the call itself made. -/
def Strs (w : World) (B : Nat) (v : Value) (xs : List (List UInt8)) : Prop := w.ownsRow B 9 1 v xs.length (xs.map strV)
/-- A slice of strings that can be read: wherever it lies. -/
def StrSl (w : World) (v : Value) (xs : List (List UInt8)) : Prop :=
  (xs = [] ∧ ∃ a c, v = .slice a 0 c) ∨ ∃ b off c, xs.length ≤ c ∧ v = .slice (some ⟨b, off, none⟩) xs.length c ∧ ∀ j, j < xs.length → w.cell? ⟨b, off + j, none⟩ = some (strV (xs.getD j []))

theorem strSl_own {w : World} {B : Nat} {E : TypeId} {v : Value} {xs : List (List UInt8)} (h : w.ownsRow B E 1 v xs.length (xs.map strV)) : StrSl w v xs := by
  rcases h.2 with ⟨hv, hn⟩ | ⟨g, cap, cur, hv, _, _, hcap, _⟩
  · exact Or.inl ⟨List.length_eq_zero_iff.1 hn, _, _, hv⟩
  · refine Or.inr ⟨g, 0, cap, hcap, hv, fun j hj => ?_⟩
    have := h.cells (g := g) (by rw [hv]; rfl) j (strV (xs.getD j [])) (by simp [hj, List.getD])
    have hadd : (⟨g, 0, none⟩ : Addr).add j = ⟨g, 0 + j, none⟩ := by unfold Addr.add; split <;> simp_all
    rw [hadd] at this; exact this
theorem StrSl.drawn {w w' : World} {v : Value} {xs : List (List UInt8)} (h : StrSl w v xs) (hd : Drawn w w') : StrSl w' v xs := by
  obtain ⟨n, rfl⟩ := hd; exact h
theorem StrSl.below {w w' : World} {v : Value} {xs : List (List UInt8)} {B : Nat} (h : StrSl w v xs) (hb : Below B w w') (hv : SlBelow B v) : StrSl w' v xs := by
  rcases h with h | ⟨b, off, c, hc, rfl, h⟩
  · exact Or.inl h
  · exact Or.inr ⟨b, off, c, hc, rfl, fun j hj => (hb.cell (p := ⟨b, off + j, none⟩) (hv ⟨b, off, none⟩ _ _ rfl (by omega))).trans (h j hj)⟩
theorem StrSl.nil {w : World} {v : Value} {xs : List (List UInt8)} (h : StrSl w v xs) (hx : xs = []) : ∃ a c, v = .slice a 0 c := by
  rcases h with ⟨_, h⟩ | ⟨b, off, c, _, h, _⟩
  · exact h
  · subst hx; exact ⟨_, _, h⟩
theorem StrSl.some {w : World} {v : Value} {xs : List (List UInt8)} (h : StrSl w v xs) (hx : xs ≠ []) :
    ∃ b off c, v = .slice (some ⟨b, off, none⟩) xs.length c ∧ ∀ j, j < xs.length → w.cell? ⟨b, off + j, none⟩ = some (strV (xs.getD j [])) := by
  rcases h with ⟨h, _⟩ | ⟨b, off, c, _, h⟩
  · exact absurd h hx
  · exact ⟨b, off, c, h⟩
theorem StrSl.form {w : World} {v : Value} {xs : List (List UInt8)} (h : StrSl w v xs) : ∃ a c, v = .slice a xs.length c := by
  rcases h with ⟨rfl, a, c, h⟩ | ⟨b, off, c, _, h, _⟩
  · exact ⟨a, c, h⟩
  · exact ⟨_, c, h⟩
theorem strs_mk {w : World} {B : Nat} {v : Value} {xs : List (List UInt8)} {x : List UInt8} (h : w.ownsRow B 9 1 v (xs.length + 1) (xs.map strV ++ [strV x])) : Strs w B v (xs ++ [x]) := by
  unfold Strs; rw [List.length_append, List.map_append]; exact h
theorem strs_app {w : World} {B : Nat} {v : Value} {xs ys : List (List UInt8)} (h : w.ownsRow B 9 1 v (xs.length + ys.length) (xs.map strV ++ ys.map strV)) : Strs w B v (xs ++ ys) := by
  unfold Strs; rw [List.length_append, List.map_append]; exact h
/-- A slice's length, in a slot. -/
def slLen : Value → Nat
  | .slice _ n _ => n
  | _ => 0
theorem slLen_own {w : World} {B : Nat} {E : TypeId} {z : Nat} {v : Value} {n : Nat} {xs : List Value} (h : w.ownsRow B E z v n xs) : slLen v = n := by
  rcases h.2 with ⟨rfl, rfl⟩ | ⟨g, cap, cur, rfl, _⟩ <;> rfl
/-- The form of what the call itself made. -/
theorem own_form {w : World} {B : Nat} {E : TypeId} {z : Nat} {v : Value} {n : Nat} {xs : List Value} (h : w.ownsRow B E z v n xs) : ∃ a c, v = .slice a n c := by
  rcases h.2 with ⟨rfl, rfl⟩ | ⟨g, cap, cur, rfl, _⟩
  · exact ⟨_, _, rfl⟩
  · exact ⟨_, _, rfl⟩
theorem own_cap {w : World} {B : Nat} {E : TypeId} {z : Nat} {v : Value} {n : Nat} {xs : List Value} (h : w.ownsRow B E z v n xs) : ∃ a c, v = .slice a n c ∧ n ≤ c := by
  rcases h.2 with ⟨rfl, rfl⟩ | ⟨g, cap, cur, rfl, _, _, h, _⟩
  · exact ⟨_, _, rfl, Nat.le_refl _⟩
  · exact ⟨_, _, rfl, h⟩
/-- A part of a slice of integers. -/
theorem intSl_sub {k : IntKind} {w : World} {b off c : Nat} {xs : List Int} (h : IntSl k w (.slice (some ⟨b, off, none⟩) xs.length c) xs) (h0 : xs ≠ []) (i m c' : Nat) (hi : i ≤ m) (hm : m ≤ xs.length) :
    IntSl k w (.slice (some ⟨b, off + i, none⟩) (m - i) c') ((xs.drop i).take (m - i)) := by
  have hl : ((xs.drop i).take (m - i)).length = m - i := by simp; omega
  refine Or.inr ⟨b, off + i, c', by rw [hl], fun j hj => ?_⟩
  obtain ⟨b', o', c'', e, hc⟩ := h.some h0
  injection e with e e'' e'
  injection e with e
  injection e with e1 e2
  subst e1 e2
  rw [hl] at hj
  have := hc (i + j) (by omega)
  rw [show off + i + j = off + (i + j) from by omega, this]
  simp [List.getD, hj]
/-- A part of a slice of strings. -/
theorem strSl_sub {w : World} {b off c : Nat} {xs : List (List UInt8)} (h : StrSl w (.slice (some ⟨b, off, none⟩) xs.length c) xs) (h0 : xs ≠ []) (i m c' : Nat) (hi : i ≤ m) (hm : m ≤ xs.length) (hc' : m - i ≤ c') :
    StrSl w (.slice (some ⟨b, off + i, none⟩) (m - i) c') ((xs.drop i).take (m - i)) := by
  have hl : ((xs.drop i).take (m - i)).length = m - i := by simp; omega
  refine Or.inr ⟨b, off + i, c', by rw [hl]; exact hc', by rw [hl], fun j hj => ?_⟩
  obtain ⟨b', o', c'', e, hc⟩ := h.some h0
  injection e with e e'' e'
  injection e with e
  injection e with e1 e2
  subst e1 e2
  rw [hl] at hj
  have := hc (i + j) (by omega)
  rw [show off + i + j = off + (i + j) from by omega, this]
  simp [List.getD, hj]
/-- A slice of strings, just built. -/
theorem strSl_new (w : World) (E : TypeId) (xs : List (List UInt8)) (n : Nat) (hn : n = xs.length) : StrSl (w.alloc (.cells (xs.map strV).toArray E)) (.slice (some ⟨w.heap.size, 0, none⟩) n n) xs := by
  subst hn
  refine Or.inr ⟨_, 0, _, Nat.le_refl _, rfl, fun j hj => ?_⟩
  rw [cell_of_row _ _ _ _ _ _ (heap_alloc_new w _)]
  simp [List.getD, hj]
/-- A slice of integers, just built. -/
theorem intSl_new (w : World) (k : IntKind) (E : TypeId) (xs : List Int) (n : Nat) (hn : n = xs.length) : IntSl k (w.alloc (.cells (xs.map (Value.int k)).toArray E)) (.slice (some ⟨w.heap.size, 0, none⟩) n n) xs := by
  subst hn
  refine Or.inr ⟨_, 0, _, rfl, fun j hj => ?_⟩
  rw [cell_of_row _ _ _ _ _ _ (heap_alloc_new w _)]
  simp [List.getD, hj]
theorem slBelow_new (w : World) (E : TypeId) (vs : Array Value) (n c : Nat) : SlBelow (w.alloc (.cells vs E)).heap.size (.slice (some ⟨w.heap.size, 0, none⟩) n c) := by
  intro a' n' c' e _
  injection e with e
  injection e with e
  subst e
  simp
/-- The capacity has room for what is in it. -/
theorem StrSl.cap {w : World} {a : Option Addr} {n c : Nat} {xs : List (List UInt8)} (h : StrSl w (.slice a n c) xs) : n = xs.length ∧ (xs ≠ [] → xs.length ≤ c) := by
  rcases h with ⟨rfl, a', c', e⟩ | ⟨b, off, c', hc, e, _⟩
  · injection e with _ e _; exact ⟨e, fun h => absurd rfl h⟩
  · injection e with _ e e2; exact ⟨e, fun _ => by omega⟩
theorem ownsRow_mono {w : World} {B B' : Nat} {E : TypeId} {z : Nat} {v : Value} {n : Nat} {xs : List Value} (h : w.ownsRow B E z v n xs) (hb : B' ≤ B) : w.ownsRow B' E z v n xs := by
  rcases h.2 with h2 | ⟨g, cap, cur, h2, h3, h4⟩
  · exact ⟨h.1, Or.inl h2⟩
  · exact ⟨h.1, Or.inr ⟨g, cap, cur, h2, Nat.le_trans hb h3, h4⟩⟩
/-- Bytes as the numbers that a slice of them holds. -/
def nums (l : List UInt8) : List Int := l.map fun c => (c.toNat : Int)
theorem nums_app (a b : List UInt8) : nums (a ++ b) = nums a ++ nums b := by unfold nums; simp
theorem nums_len (a : List UInt8) : (nums a).length = a.length := by unfold nums; simp
theorem Strs.sl {w : World} {B : Nat} {v : Value} {xs : List (List UInt8)} (h : Strs w B v xs) : StrSl w v xs := strSl_own h
theorem Strs.low {w : World} {B : Nat} {v : Value} {xs : List (List UInt8)} (h : Strs w B v xs) : SlBelow w.heap.size v := slBelow_own h
end Go.Proofs.YtfmlgfeldlnlgaaGreatDoor

/- An array of texts that a row lists: its cells. -/
namespace Go.Proofs.YtfmlgfeldlnlgaaGreatDoor
open Go.ChangeShapes Go.WideShapes Go.ChangeAt Go.RowKit

/-- Texts as a row lists them: an array. -/
def strD {H : Type} (L : List (List UInt8)) : DataW H := .agg (L.map fun s => .lit (.string s))
theorem cells_of_strs {H : Type} {enc : TypeId × Value → H} {P : Program} {w : World} {base : Nat} {sp : Nat → Bool} {held : Bool} {fuel : Nat} {t e : TypeId} {n : Nat} {cs : List Value} {L : List (List UInt8)} {p : List MemPlace}
    (ht : P.underlying t = some (.array n e)) (he : P.underlying e = some .string) (hce : P.cellsOf e = 1) (hct : P.cellsOf t = n)
    (h : DataW.trod enc P w base sp held fuel t cs = some (strD L, p)) : cs = L.map strV := by
  cases fuel with
  | zero => simp [DataW.trod] at h
  | succ fuel =>
    simp only [DataW.trod, ht, hce, hct, Nat.mul_one] at h
    split at h
    · obtain ⟨xs, hm, hx⟩ := Option.map_eq_some_iff.1 h
      have hxs : xs.map (·.1) = L.map fun s => (DataW.lit (.string s) : DataW H) := by
        have := congrArg Prod.fst hx
        simpa [strD] using this
      have hxl : xs.length = n := by simpa using Lib.mapM_length hm
      have hzl : L.length = n := by
        have := congrArg List.length hxs
        simp at this
        omega
      apply List.ext_getElem?
      intro i
      by_cases hi : i < n
      · obtain ⟨b, hb, hf⟩ := Lib.mapM_at hm i i (by simp [hi])
        obtain ⟨s, hc, rfl, _⟩ := DataW.trod_string he hf
        have h1 : cs[i]? = some (.string s) := by
          have := congrArg (·[0]?) hc
          simpa [List.getElem?_take, List.getElem?_drop] using this
        have h2 : (xs.map (·.1))[i]? = some (DataW.lit (.string s.data.toList) : DataW H) := by simp [hb]
        rw [hxs] at h2
        simp only [List.getElem?_map, Option.map_eq_some_iff, DataW.lit.injEq, Lit.string.injEq] at h2
        obtain ⟨z, hz, ez⟩ := h2
        subst ez
        rw [h1, List.getElem?_map, hz]
        rfl
      · rw [List.getElem?_eq_none (by omega), List.getElem?_eq_none (by simp; omega)]
    · cases h
/-- A listed array of texts lies in memory. -/
theorem range_of_laid {P : Program} {l : List (String × DataW Unit)} {W : World} (h : laidMet P l W) {nm : String} {L : List (List UInt8)} (hm : (nm, strD L) ∈ l) {g t e n : Nat} (hg : P.globalNamed nm = some g) (ht : (P.globals[g]?).map (·.type) = some t)
    (hu : P.underlying t = some (.array n e)) (he : P.underlying e = some .string) (hce : P.cellsOf e = 1) (hct : P.cellsOf t = n) : W.rangeAt g 0 (L.map strV) := by
  obtain ⟨cs, fuel, p, hv, hd⟩ := laid_one h hm hg ht
  have hc := cells_of_strs hu he hce hct hd
  intro j v hj
  have := World.var?_cell hg hv j
  rw [Nat.zero_add, this, ← hj, ← hc]
  simp
/-- A listed array of integers is a table. -/
theorem tab_of_laid13 {P : Program} {l : List (String × DataW Unit)} {W : World} (h : laidMet P l W) {nm : String} {k : IntKind} {zs : List Int} (hm : (nm, Lib.tabData k zs) ∈ l) {g t e n : Nat} (hg : P.globalNamed nm = some g) (ht : (P.globals[g]?).map (·.type) = some t)
    (hu : P.underlying t = some (.array n e)) (he : P.underlying e = some (.int k)) (hce : P.cellsOf e = 1) (hct : P.cellsOf t = n) : Lib.TabIs P W nm k zs := by
  obtain ⟨cs, fuel, p, hv, hd⟩ := laid_one h hm hg ht
  unfold Lib.TabIs
  rw [hv, ← Lib.cells_of_tab hu he hce hct hd]
end Go.Proofs.YtfmlgfeldlnlgaaGreatDoor

/- A listed datum that is an interface, opened; a nil pointer is none. -/
namespace Go.Proofs.YtfmlgfeldlnlgaaGreatDoor
open Go.ChangeShapes Go.WideShapes Go.ChangeAt Go.RowKit

theorem trod_iface_inv {H : Type} {enc : TypeId × Value → H} {P : Program} {w : World} {base n : Nat} {sp : Nat → Bool} {t : TypeId} {ms : Array (String × TypeId)} {l : List Value} {nm : String} {d : DataW H} {p : List MemPlace}
    (ht : P.underlying t = some (.interface ms)) (h : DataW.trod enc P w base sp false (n + 1) t l = some (.iface nm d, p)) :
    ∃ u v, l = [.iface u v] ∧ P.typeName? 3 u = some nm ∧ ∃ p', DataW.trod enc P w base sp false n u v.cells.toList = some (d, p') := by
  unfold DataW.trod at h
  rw [ht] at h
  split at h
  all_goals try (rename_i e _; cases e; done)
  all_goals try (rename_i e; cases e; done)
  all_goals try (simp at h; done)
  rename_i u v _
  cases hn : P.typeName? 3 u with
  | none => rw [hn] at h; cases h
  | some name =>
    rw [hn] at h
    cases hx : DataW.trod enc P w base sp false n u v.cells.toList with
    | none => rw [hx] at h; cases h
    | some x =>
      rw [hx] at h
      obtain ⟨y, q⟩ := x
      simp only [Option.map_some, Option.some.injEq, Prod.mk.injEq, DataW.iface.injEq] at h
      obtain ⟨⟨rfl, rfl⟩, rfl⟩ := h
      exact ⟨u, v, rfl, hn, q, hx⟩
theorem trod_nil_ptr {H : Type} {enc : TypeId × Value → H} {P : Program} {w : World} {base n : Nat} {sp : Nat → Bool} {held : Bool} {t e : TypeId} {d : DataW H} {p : List MemPlace}
    (ht : P.underlying t = some (.pointer e)) : ¬ DataW.trod enc P w base sp held n t (Value.pointer none).cells.toList = some (.ptr d, p) := by
  intro h
  cases n with
  | zero => simp [DataW.trod] at h
  | succ n =>
    unfold DataW.trod at h
    rw [ht] at h
    simp [Value.cells] at h
end Go.Proofs.YtfmlgfeldlnlgaaGreatDoor

/- Attributes, tokens and nodes: plain. -/
namespace Go.Proofs.YtfmlgfeldlnlgaaGreatDoor

/-- An attribute: its name, its value. -/
abbrev At := List UInt8 × List UInt8
/-- A token. -/
structure Tk where
  kind : Int
  name : List UInt8
  attrs : List At
  text : List UInt8
/-- A node: up is its parent's place. -/
structure Nd where
  name : List UInt8
  attrs : List At
  text : List UInt8
  up : Int
end Go.Proofs.YtfmlgfeldlnlgaaGreatDoor

/- A world in which certain blocks alone have turned, and new ones have come. -/
namespace Go.RowKit
/-- w' is w, but for the blocks of S and new ones. -/
structure Turned (S : Nat → Prop) (w w' : World) : Prop where
  os : w'.os = w.os
  tape : w'.tape = w.tape
  output : w'.output = w.output
  size : w.heap.size ≤ w'.heap.size
  block : ∀ k, k < w.heap.size → ¬ S k → w'.heap[k]? = w.heap[k]?
theorem Turned.refl (S : Nat → Prop) (w : World) : Turned S w w := ⟨rfl, rfl, rfl, Nat.le_refl _, fun _ _ _ => rfl⟩
theorem Turned.of_below {S : Nat → Prop} {w w' : World} (h : Below w.heap.size w w') : Turned S w w' := ⟨h.os, h.tape, h.output, h.size, fun k hk _ => h.block k hk⟩
theorem Turned.of_grown {S : Nat → Prop} {w w' : World} {row : Option Nat} (h : w.grownBy w' row) (hr : ∀ k, row = some k → S k) : Turned S w w' :=
  ⟨h.os, h.tape, h.output, h.size, fun k hk hS => h.block k hk (fun e => hS (hr k e.symm))⟩
theorem Turned.trans {S S' : Nat → Prop} {a b c : World} (h : Turned S a b) (k : Turned S' b c) (hS : ∀ i, i < a.heap.size → S' i → S i) : Turned S a c :=
  ⟨k.os.trans h.os, k.tape.trans h.tape, k.output.trans h.output, Nat.le_trans h.size k.size, fun i hi hn => (k.block i (Nat.lt_of_lt_of_le hi h.size) (fun hs => hn (hS i hi hs))).trans (h.block i hi hn)⟩
theorem Turned.mono {S S' : Nat → Prop} {w w' : World} (h : Turned S w w') (hS : ∀ i, i < w.heap.size → S i → S' i) : Turned S' w w' :=
  ⟨h.os, h.tape, h.output, h.size, fun i hi hn => h.block i hi (fun hs => hn (hS i hi hs))⟩
theorem Turned.below {S : Nat → Prop} {w w' : World} {B : Nat} (h : Turned S w w') (hS : ∀ i, i < w.heap.size → S i → B ≤ i) (hB : B ≤ w.heap.size) : Below B w w' :=
  ⟨h.os, h.tape, h.output, h.size, fun i hi => h.block i (Nat.lt_of_lt_of_le hi hB) (fun hs => by have := hS i (Nat.lt_of_lt_of_le hi hB) hs; omega)⟩
end Go.RowKit
namespace Go.Proofs.YtfmlgfeldlnlgaaGreatDoor
open Go.RowKit

theorem ownsRow_turned {S : Nat → Prop} {w w' : World} {B : Nat} {E : TypeId} {z : Nat} {v : Value} {n : Nat} {xs : List Value} (h : w.ownsRow B E z v n xs) (ht : Turned S w w') (hS : ∀ k, v.ownBlock = some k → ¬ S k) : w'.ownsRow B E z v n xs := by
  have hl := h.lt
  rcases h with ⟨h1, h | ⟨g, cap, cur, rfl, hb, hg, h3⟩⟩
  · exact ⟨h1, Or.inl h⟩
  · exact ⟨h1, Or.inr ⟨g, cap, cur, rfl, hb, (ht.block g (hl g rfl).2 (hS g rfl)).trans hg, h3⟩⟩
theorem ArrAt.turned {S : Nat → Prop} {w w' : World} {g : Nat} {t : TypeId} {c : List Value} (h : ArrAt w g t c) (ht : Turned S w w') (hS : ¬ S g) : ArrAt w' g t c := (ht.block g h.lt hS).trans h
theorem ArrAt.grown {w w' : World} {row : Option Nat} {g : Nat} {t : TypeId} {c : List Value} (h : ArrAt w g t c) (hg : w.grownBy w' row) (hne : some g ≠ row) : ArrAt w' g t c := (hg.block g h.lt hne).trans h
theorem grown_setRow (w : World) (g : Nat) (cs : Array Value) : w.grownBy (w.setRow g cs) (some g) := ⟨rfl, rfl, rfl, by simp, fun k _ hk => setRow_other w g k cs (fun e => hk (by rw [e]))⟩
theorem grown_trans {w w1 w2 : World} {row : Option Nat} (h : w.grownBy w1 row) (k : w1.grownBy w2 row) : w.grownBy w2 row :=
  ⟨k.os.trans h.os, k.tape.trans h.tape, k.output.trans h.output, Nat.le_trans h.size k.size, fun i hi hn => (k.block i (Nat.lt_of_lt_of_le hi h.size) hn).trans (h.block i hi hn)⟩
/-- A row of which all is known, as a slice that is owned: its first n elements. -/
theorem ArrAt.owns {w : World} {g n cap z : Nat} {t : TypeId} {c xs : List Value} (h : ArrAt w g t c) (hx : c.take (n * z) = xs) (hl : c.length = cap * z) (hn : n ≤ cap) (hm : cap ≤ maxLen) :
    w.ownsRow 0 t z (.slice (some ⟨g, 0, none⟩) n cap) n xs := by
  have hle : n * z ≤ cap * z := Nat.mul_le_mul_right _ hn
  exact ⟨by rw [← hx, List.length_take]; omega, Or.inr ⟨g, cap, c.toArray, rfl, Nat.zero_le _, h, hn, hm, by simpa using hl, by simpa using hx⟩⟩
/-- A slice that is owned and has something, as a row of which all is known. -/
theorem owns_arr {w : World} {B n z : Nat} {t : TypeId} {v : Value} {xs : List Value} (h : w.ownsRow B t z v n xs) (hn : v ≠ .slice none 0 0) :
    ∃ g cap c, v = .slice (some ⟨g, 0, none⟩) n cap ∧ ArrAt w g t c ∧ c.take (n * z) = xs ∧ c.length = cap * z ∧ n ≤ cap ∧ cap ≤ maxLen := by
  rcases h with ⟨h1, ⟨hv, _⟩ | ⟨g, cap, cur, hv, hb, hg, hnc, hcm, hcs, htk⟩⟩
  · exact absurd hv hn
  · exact ⟨g, cap, cur.toList, hv, by unfold ArrAt; simpa using hg, htk, by simpa using hcs, hnc, hcm⟩
theorem own_heap {w : World} {B n z : Nat} {E : TypeId} {v : Value} {xs : List Value} {g : Nat} (h : w.ownsRow B E z v n xs) (hv : v.ownBlock = some g) : ∃ cur, w.heap[g]? = some (.cells cur E (0, 0)) := by
  rcases h.2 with ⟨rfl, _⟩ | ⟨g', cap, cur, rfl, _, hg, _⟩
  · cases hv
  · injection hv with hv
    have : g' = g := hv
    subst this
    exact ⟨cur, hg⟩
theorem own_apart {w : World} {B B' n m z z' : Nat} {E E' : TypeId} {v u : Value} {xs ys : List Value} {g : Nat} (h1 : w.ownsRow B E z v n xs) (h2 : w.ownsRow B' E' z' u m ys) (hE : E ≠ E') (hv : v.ownBlock = some g) (hu : u.ownBlock = some g) : False := by
  obtain ⟨c1, e1⟩ := own_heap h1 hv
  obtain ⟨c2, e2⟩ := own_heap h2 hu
  rw [e1] at e2
  injection e2 with e2
  injection e2 with _ e2
  exact hE e2
theorem turned_setCell (w : World) (a : Addr) (u : Value) : Turned (fun b => b = a.block) w (w.setCell a u) :=
  ⟨rfl, rfl, rfl, by simp [World.setCell], fun k _ hk => Below.heap_setCell w a u k hk⟩
theorem own_ne_arr {w : World} {B n z g : Nat} {E t : TypeId} {v : Value} {xs c : List Value} (h : w.ownsRow B E z v n xs) (ha : ArrAt w g t c) (hE : E ≠ t) : v.ownBlock ≠ some g := fun e => by
  obtain ⟨cur, e1⟩ := own_heap h e
  unfold ArrAt at ha
  rw [ha] at e1
  injection e1 with e1
  injection e1 with _ e1
  exact hE e1.symm
theorem arr_apart {w : World} {g g' : Nat} {t t' : TypeId} {c c' : List Value} (h : ArrAt w g t c) (h' : ArrAt w g' t' c') (ht : t ≠ t') : g ≠ g' := fun e => by
  subst e
  unfold ArrAt at h h'
  rw [h] at h'
  injection h' with h'
  injection h' with _ h'
  exact ht h'
end Go.Proofs.YtfmlgfeldlnlgaaGreatDoor

/- Attributes in memory: a slice of them that the call itself made, and one that can be read, wherever it lies. -/
namespace Go.Proofs.YtfmlgfeldlnlgaaGreatDoor
open Go.RowKit

def atV (x : At) : List Value := [strV x.1, strV x.2]
def cellsA (l : List At) : List Value := l.flatMap atV
theorem cellsA_len (l : List At) : (cellsA l).length = l.length * 2 := by
  induction l with
  | nil => rfl
  | cons x t ih => simp [cellsA, atV] at ih ⊢; omega
theorem cellsA_app (l m : List At) : cellsA (l ++ m) = cellsA l ++ cellsA m := by simp [cellsA]
theorem cellsA_one (x : At) : cellsA [x] = [strV x.1, strV x.2] := rfl
theorem cellsA_at : ∀ (l : List At) (j : Nat), j < l.length → (cellsA l)[j * 2]? = some (strV (l.getD j ([], [])).1) ∧ (cellsA l)[j * 2 + 1]? = some (strV (l.getD j ([], [])).2)
  | [], j, h => by simp at h
  | x :: t, 0, _ => ⟨rfl, rfl⟩
  | x :: t, j + 1, h => by
    have := cellsA_at t j (by simpa using h)
    have e : cellsA (x :: t) = strV x.1 :: strV x.2 :: cellsA t := rfl
    rw [e, show (j + 1) * 2 = j * 2 + 1 + 1 by omega, show j * 2 + 1 + 1 + 1 = (j * 2 + 1) + 1 + 1 by omega]
    simpa using this
theorem cellsA_one' (l : List At) : ∀ u ∈ cellsA l, u.oneCell' = true := by
  intro u hu
  simp only [cellsA, List.mem_flatMap, atV] at hu
  obtain ⟨x, _, hu⟩ := hu
  simp at hu
  rcases hu with rfl | rfl <;> rfl
/-- A slice of attributes that the call itself made. -/
def Ats (w : World) (B : Nat) (v : Value) (l : List At) : Prop := w.ownsRow B 172 2 v l.length (cellsA l)
theorem Ats.cells {w : World} {B : Nat} {v : Value} {l : List At} (h : Ats w B v l) (h0 : l ≠ []) : ∃ g cap, v = .slice (some ⟨g, 0, none⟩) l.length cap ∧ g < w.heap.size ∧ B ≤ g ∧
    ∀ j, j < l.length → w.cell? ⟨g, j * 2, none⟩ = some (strV (l.getD j ([], [])).1) ∧ w.cell? ⟨g, j * 2 + 1, none⟩ = some (strV (l.getD j ([], [])).2) := by
  have hlt := World.ownsRow.lt h
  rcases h.2 with ⟨_, hn⟩ | ⟨g, cap, cur, hv, _⟩
  · exact absurd (List.length_eq_zero_iff.1 hn) h0
  · refine ⟨g, cap, hv, (hlt g (by rw [hv]; rfl)).2, (hlt g (by rw [hv]; rfl)).1, fun j hj => ?_⟩
    have hcg := World.ownsRow.cells h (g := g) (by rw [hv]; rfl)
    obtain ⟨e1, e2⟩ := cellsA_at l j hj
    have hadd : ∀ i, (⟨g, 0, none⟩ : Addr).add i = ⟨g, i, none⟩ := fun i => by unfold Addr.add; split <;> simp_all
    have h1 := hcg _ _ e1
    have h2 := hcg _ _ e2
    rw [hadd] at h1 h2
    exact ⟨h1, h2⟩
theorem ats_nil (w : World) (B : Nat) : Ats w B (.slice none 0 0) [] := World.ownsRow_nil _ _ _ _

/-- A slice of attributes that can be read. -/
def AtSl (w : World) (v : Value) (l : List At) : Prop :=
  (l = [] ∧ ∃ a c, v = .slice a 0 c) ∨ ∃ b off c, l.length ≤ c ∧ v = .slice (some ⟨b, off, none⟩) l.length c ∧
    ∀ j, j < l.length → w.cell? ⟨b, off + j * 2, none⟩ = some (strV (l.getD j ([], [])).1) ∧ w.cell? ⟨b, off + j * 2 + 1, none⟩ = some (strV (l.getD j ([], [])).2)
theorem AtSl.form {w : World} {v : Value} {l : List At} (h : AtSl w v l) : ∃ a c, v = .slice a l.length c := by
  rcases h with ⟨rfl, a, c, rfl⟩ | ⟨b, off, c, _, rfl, _⟩
  · exact ⟨a, c, rfl⟩
  · exact ⟨_, c, rfl⟩
theorem AtSl.next {w w' : World} {v : Value} {l : List At} (h : AtSl w v l) (hb : Below w.heap.size w w') : AtSl w' v l := by
  rcases h with h | ⟨b, off, c, hc, rfl, h⟩
  · exact Or.inl h
  · refine Or.inr ⟨b, off, c, hc, rfl, fun j hj => ?_⟩
    have h0 := h j hj
    have hlt := World.block_lt_of_cell? w ⟨b, off + j * 2, none⟩ h0.1
    exact ⟨(hb.cell (p := ⟨b, off + j * 2, none⟩) hlt).trans h0.1, (hb.cell (p := ⟨b, off + j * 2 + 1, none⟩) hlt).trans h0.2⟩
theorem AtSl.some {w : World} {v : Value} {l : List At} (h : AtSl w v l) (h0 : l ≠ []) : ∃ b off c, l.length ≤ c ∧ b < w.heap.size ∧ v = .slice (some ⟨b, off, none⟩) l.length c ∧
    ∀ j, j < l.length → w.cell? ⟨b, off + j * 2, none⟩ = some (strV (l.getD j ([], [])).1) ∧ w.cell? ⟨b, off + j * 2 + 1, none⟩ = some (strV (l.getD j ([], [])).2) := by
  rcases h with ⟨h, _⟩ | ⟨b, off, c, hc, hv, h⟩
  · exact absurd h h0
  · have hl : 0 < l.length := List.length_pos_iff.2 h0
    exact ⟨b, off, c, hc, World.block_lt_of_cell? w ⟨b, off + 0 * 2, none⟩ (h 0 hl).1, hv, h⟩
theorem AtSl.nil {w : World} {v : Value} {l : List At} (h : AtSl w v l) (h0 : l = []) : ∃ a c, v = .slice a 0 c := by
  obtain ⟨a, c, e⟩ := h.form
  subst h0
  exact ⟨a, c, e⟩
theorem atSl_nil (w : World) (a : Option Addr) (c : Nat) : AtSl w (.slice a 0 c) [] := Or.inl ⟨rfl, a, c, rfl⟩
theorem Ats.sl {w : World} {B : Nat} {v : Value} {l : List At} (h : Ats w B v l) : AtSl w v l := by
  by_cases h0 : l = []
  · obtain ⟨a, c, e⟩ := own_form h
    subst h0
    exact Or.inl ⟨rfl, a, c, e⟩
  · obtain ⟨a, c', e, hcap⟩ := own_cap h
    obtain ⟨g, cap, hv, _, _, hc⟩ := h.cells h0
    have : cap = c' := by rw [hv] at e; injection e
    exact Or.inr ⟨g, 0, cap, by omega, hv, fun j hj => by rw [Nat.zero_add]; exact hc j hj⟩
end Go.Proofs.YtfmlgfeldlnlgaaGreatDoor
