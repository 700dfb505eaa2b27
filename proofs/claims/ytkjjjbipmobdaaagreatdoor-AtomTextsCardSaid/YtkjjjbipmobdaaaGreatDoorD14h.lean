/- Layer 14: the entries of a channel, plain; what the loop of Items keeps. -/
import Derived.Test.YtkjjjbipmobdaaaGreatDoorBR20
import Derived.Test.YtkjjjbipmobdaaaGreatDoorD14d
import Derived.Test.YtkjjjbipmobdaaaGreatDoorBR22
namespace Go.Proofs.YtkjjjbipmobdaaaGreatDoor
open Go.RowKit

/-- Entries, or what is wrong. -/
inductive ItsO where
  | bad (q : Int)
  | its (l : List It)
def gatherB : List ItO → List It → Bool → ItsO
  | [], acc, bad => if bad = true then .bad 7 else .its acc
  | .bad q :: r, acc, _ => if q = 6 then .bad 6 else gatherB r acc true
  | .it x :: r, acc, bad => gatherB r (acc ++ [x]) bad
/-- The entries of the kids of a name, by what one says of each. -/
def readB (l : List Nd) (c : Int) (nm : List UInt8) (G : Int → ItO) (many : Int) : ItsO := if many < (namedB l c nm).length then .bad 6 else gatherB ((namedB l c nm).map G) [] false
def itsB (l : List Nd) (R : List UInt8 → Int × Bool) (many most : Int) : ItsO :=
  match chanB l with
  | none => .bad 5
  | some c => readB l c itemL (fun i => itO (fieldB l i) R most) many
theorem itO_cases (F : List UInt8 → Option (List UInt8)) (R : List UInt8 → Int × Bool) (most : Int) : itO F R most = .bad 6 ∨ itO F R most = .bad 7 ∨ ∃ x, itO F R most = .it x := by
  unfold itO
  by_cases h1 : shortB (oneB F R) most = false
  · rw [if_pos h1]; exact Or.inl rfl
  · rw [if_neg h1]
    by_cases h2 : (oneB F R).guid = [] ∨ lateB F R = true
    · rw [if_pos h2]; exact Or.inr (Or.inl rfl)
    · rw [if_neg h2]; exact Or.inr (Or.inr ⟨_, rfl⟩)
theorem kidsB_nodup (l : List Nd) (i : Int) : (kidsB l i).Nodup := by
  unfold kidsB
  split
  · unfold kidsTo
    refine List.Pairwise.map _ (R := (· ≠ ·)) ?_ (List.Pairwise.filter _ List.nodup_range)
    intro a b h; omega
  · exact List.nodup_nil
theorem namedB_nodup (l : List Nd) (i : Int) (nm : List UInt8) : (namedB l i nm).Nodup := by
  unfold namedB
  split
  · exact List.nodup_nil
  · exact List.Pairwise.filter _ (kidsB_nodup l i)
theorem namedB_bd {l : List Nd} {i j : Int} {nm : List UInt8} (h : j ∈ namedB l i nm) : placeB l j = true ∧ upN l j = i ∧ j ≠ i ∧ placeB l i = true := by
  unfold namedB at h
  split at h
  · cases h
  · exact kidsB_bd (List.mem_filter.1 h).1
theorem namedB_len (l : List Nd) (i : Int) (nm : List UInt8) : (namedB l i nm).length ≤ l.length := by
  unfold namedB
  split
  · simp
  · refine Nat.le_trans (List.length_filter_le _ _) ?_
    unfold kidsB
    split
    · exact kidsTo_len _ _ _
    · simp
theorem chanB_place {l : List Nd} {c : Int} (h : chanB l = some c) : 0 ≤ c ∧ c < l.length := by
  unfold chanB at h
  split at h
  · cases h
  · unfold firstB at h
    have := namedB_bd (List.mem_of_mem_head? h)
    exact place_iff.1 this.1

/-- A cell with a pointer in it is none of a text's. -/
theorem text_apart {w : World} {B b k : Nat} {t : TypeId} {x : Option Addr} {s : List UInt8} (hW : ArrAt w B t [.pointer x]) (h : w.cell? ⟨b, k, none⟩ = some (strV s)) : b ≠ B := fun e => by
  subst e
  rw [hW.cell] at h
  cases k with
  | zero => simp [strV] at h
  | succ k => simp at h
theorem AtSl.turned {w w' : World} {B : Nat} {t : TypeId} {x : Option Addr} {v : Value} {l : List At} (h : AtSl w v l) (hW : ArrAt w B t [.pointer x]) (ht : Turned (fun b => b = B) w w') : AtSl w' v l := by
  rcases h with h | ⟨b, off, c, hc, hv, h⟩
  · exact Or.inl h
  · refine Or.inr ⟨b, off, c, hc, hv, fun j hj => ?_⟩
    obtain ⟨h1, h2⟩ := h j hj
    have hb := ht.block b (World.block_lt_of_cell? w ⟨b, _, none⟩ h1) (text_apart hW h1)
    exact ⟨(World.cell?_of_block hb).trans h1, (World.cell?_of_block hb).trans h2⟩
theorem NdSl.turned {w w' : World} {B : Nat} {t : TypeId} {x : Option Addr} {v : Value} {P : List (Nd × Value)} (h : NdSl w v P) (hW : ArrAt w B t [.pointer x]) (ht : Turned (fun b => b = B) w w') : NdSl w' v P := by
  refine ⟨?_, fun p hp => (h.2 p hp).turned hW ht⟩
  rcases h.1 with k | ⟨b, off, c, hc, hv, k⟩
  · exact Or.inl k
  · refine Or.inr ⟨b, off, c, hc, hv, fun j hj => ?_⟩
    obtain ⟨d0, d1, d2, d3⟩ := k j hj
    have hb := ht.block b (World.block_lt_of_cell? w ⟨b, _, none⟩ d0) (text_apart hW d0)
    exact ⟨(World.cell?_of_block hb).trans d0, (World.cell?_of_block hb).trans d1, (World.cell?_of_block hb).trans d2, (World.cell?_of_block hb).trans d3⟩

theorem info_item : (Tryz.prog.info? 40).map (fun i => (i.zero, i.size, i.bytes)) = some (some (.agg #[.string ⟨#[]⟩, .string ⟨#[]⟩, .string ⟨#[]⟩, .string ⟨#[]⟩, .int .i64 0, .bool false]), 6, 80) := by kernel_rfl
def cellsI (l : List It) : List Value := l.flatMap itC
theorem cellsI_app (l : List It) (x : It) : cellsI (l ++ [x]) = cellsI l ++ itC x := by simp [cellsI]
/-- Entries in a row that the call itself made. -/
def OwnI (w : World) (B : Nat) (v : Value) (l : List It) : Prop := w.ownsRow B 40 6 v l.length (cellsI l)
/-- The fault that is noted, if one is. -/
def NoteAt (w : World) (B : Nat) (bad : Bool) : Prop :=
  ∃ x, ArrAt w B 71 [.pointer x] ∧ (bad = false → x = none) ∧ (bad = true → ∃ f, x = some ⟨f, 0, none⟩ ∧ FaultAt w f 0 (codeV 7))
theorem NoteAt.next {w w' : World} {B : Nat} {bad : Bool} (h : NoteAt w B bad) (hb : Below w.heap.size w w') : NoteAt w' B bad := by
  obtain ⟨x, h1, h2, h3⟩ := h
  exact ⟨x, h1.next hb, h2, fun e => by obtain ⟨f, e1, e2⟩ := h3 e; exact ⟨f, e1, e2.below hb⟩⟩
/-- The parts, as cut left them. -/
structure Ec (K : List At → Prop) (G : List Nd → Int → ItO) (w0 wc : World) (g Wb : Nat) (pcs : List (Value × Int)) (os : List ItO) : Prop where
  arr : ArrAt wc g 77 (cellsQ pcs)
  nd : ∀ (i : Nat) (p : Value × Int), pcs[i]? = some p → ∃ Q : List (Nd × Value), NdSl wc p.1 Q ∧ Q.length ≤ 1000000 ∧ sumT (nodes Q) ≤ 2000000 ∧ (∀ x ∈ nodes Q, K x.attrs) ∧ os[i]? = some (G (nodes Q) p.2)
  note : ArrAt wc Wb 71 [.pointer none]
  low : w0.heap.size ≤ Wb
  below : Below w0.heap.size w0 wc
  len : pcs.length = os.length
/-- What the loop of Items keeps. -/
structure Em (wc : World) (Wb : Nat) (os : List ItO) (k : Nat) (v : Value) (acc : List It) (bad : Bool) (w : World) : Prop where
  tur : Turned (fun b => b = Wb) wc w
  own : OwnI w wc.heap.size v acc
  note : NoteAt w Wb bad
  gat : gatherB os [] false = gatherB (os.drop k) acc bad
  few : acc.length ≤ k
section
variable {K : List At → Prop} {G : List Nd → Int → ItO} {w0 wc w w' : World} {g Wb : Nat} {pcs : List (Value × Int)} {os : List ItO} {k : Nat} {v : Value} {acc : List It} {bad : Bool}
theorem Em.below (h : Em wc Wb os k v acc bad w) (hc : Ec K G w0 wc g Wb pcs os) : Below w0.heap.size w0 w :=
  hc.below.trans (h.tur.below (fun i _ e => by have e : i = Wb := e; have := hc.low; omega) hc.below.size)
theorem Em.arr (h : Em wc Wb os k v acc bad w) (hc : Ec K G w0 wc g Wb pcs os) : ArrAt w g 77 (cellsQ pcs) := hc.arr.turned h.tur (arr_apart hc.arr hc.note (by decide))
theorem Em.nd (h : Em wc Wb os k v acc bad w) (hc : Ec K G w0 wc g Wb pcs os) {i : Nat} {p : Value × Int} (hp : pcs[i]? = some p) : ∃ Q : List (Nd × Value), NdSl w p.1 Q ∧ Q.length ≤ 1000000 ∧ sumT (nodes Q) ≤ 2000000 ∧ (∀ x ∈ nodes Q, K x.attrs) ∧ os[i]? = some (G (nodes Q) p.2) := by
  obtain ⟨Q, h1, h2⟩ := hc.nd i p hp
  exact ⟨Q, h1.turned hc.note h.tur, h2⟩
theorem Em.next (h : Em wc Wb os k v acc bad w) (hb : Below w.heap.size w w') : Em wc Wb os k v acc bad w' :=
  ⟨h.tur.trans (Turned.of_below (S := fun b => b = Wb) hb) fun _ _ e => e, ownsRow_below h.own hb, h.note.next hb, h.gat, h.few⟩
theorem drop_some {α : Type} {l : List α} {k : Nat} {x : α} (h : l[k]? = some x) : l.drop k = x :: l.drop (k + 1) := by
  obtain ⟨hlt, rfl⟩ := List.getElem?_eq_some_iff.1 h
  exact List.drop_eq_getElem_cons hlt
theorem Em.item {x : It} {v' : Value} (h : Em wc Wb os k v acc bad w) (hx : os[k]? = some (.it x)) (h1 : w'.ownsRow wc.heap.size 40 6 v' (acc.length + 1) (cellsI acc ++ itC x)) (h2 : w.grownBy w' v.ownBlock) : Em wc Wb os (k + 1) v' (acc ++ [x]) bad w' := by
  have hT := Turned.of_grown (S := fun b => v.ownBlock = some b) h2 fun _ e => e
  obtain ⟨y, n1, n2, n3⟩ := h.note
  have hnw := own_ne_arr h.own n1 (by decide)
  refine ⟨h.tur.trans hT fun i hi e => ?_, ?_, ⟨y, n1.turned hT hnw, n2, fun e => ?_⟩, ?_, by simp; have := h.few; omega⟩
  · have := (h.own.lt i e).1; omega
  · unfold OwnI; rw [cellsI_app]; simpa using h1
  · obtain ⟨f, e1, e2⟩ := n3 e
    exact ⟨f, e1, ArrAt.turned e2 hT (own_ne_arr h.own e2 (by decide))⟩
  · rw [h.gat, drop_some hx]; rfl
theorem Em.wrong {q : Int} {f : Nat} (h : Em wc Wb os k v acc bad w) (hx : os[k]? = some (.bad q)) (hq : q ≠ 6) (hf : FaultAt w f 0 (codeV 7)) : Em wc Wb os (k + 1) v acc true (w.setCell ⟨Wb, 0, none⟩ (.pointer (some ⟨f, 0, none⟩))) := by
  obtain ⟨y, n1, n2, n3⟩ := h.note
  have hT := turned_setCell w ⟨Wb, 0, none⟩ (.pointer (some ⟨f, 0, none⟩))
  refine ⟨h.tur.trans hT fun _ _ e => e, ownsRow_turned h.own hT fun b e e2 => own_ne_arr h.own n1 (by decide) (e.trans (congrArg some e2)), ⟨_, n1.set 0 _, nofun, fun _ => ⟨f, rfl, ArrAt.turned hf hT (arr_apart hf n1 (by decide))⟩⟩, ?_, by have := h.few; omega⟩
  rw [h.gat, drop_some hx]
  show (if q = 6 then _ else _) = _
  rw [if_neg hq]
end
end Go.Proofs.YtkjjjbipmobdaaaGreatDoor
