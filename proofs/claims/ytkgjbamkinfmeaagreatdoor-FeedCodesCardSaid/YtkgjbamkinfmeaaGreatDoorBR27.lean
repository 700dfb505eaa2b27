/- Layer 14: the entries of a channel, plain; what the loop of Items keeps. -/
import Derived.Test.YtkgjbamkinfmeaaGreatDoorBR23
import Derived.Test.YtkgjbamkinfmeaaGreatDoorBR26
import Derived.Test.YtkgjbamkinfmeaaGreatDoorBR10
import Derived.Test.YtkgjbamkinfmeaaGreatDoorBR21
import Derived.Test.YtkgjbamkinfmeaaGreatDoorBR07
import Derived.Test.YtkgjbamkinfmeaaGreatDoorBR16
import Derived.Test.YtkgjbamkinfmeaaGreatDoorBR15
import Derived.Test.YtkgjbamkinfmeaaGreatDoorBR01
namespace Go.Proofs.YtkgjbamkinfmeaaGreatDoor
open Go.RowKit

/-- Entries, or what is wrong. -/
inductive ItsO where
  | bad (q : Int)
  | its (l : List It)
def gatherB : List ItO → List It → Bool → ItsO
  | [], acc, bad => if bad = true then .bad 7 else .its acc
  | .bad q :: r, acc, _ => if q = 6 then .bad 6 else gatherB r acc true
  | .it x :: r, acc, bad => gatherB r (acc ++ [x]) bad
/-- The entries of the kids of a name, by what one says of each. -/
def readB (l : List Nd) (c : Int) (nm : List UInt8) (G : Int → ItO) (many : Int) : ItsO := if many < (namedB l c nm).length then .bad 6 else gatherB ((namedB l c nm).map G) [] false
def itsB (l : List Nd) (R : List UInt8 → Int × Bool) (many most : Int) : ItsO :=
  match chanB l with
  | none => .bad 5
  | some c => readB l c itemL (fun i => itO (fieldB l i) R most) many
theorem itO_cases (F : List UInt8 → Option (List UInt8)) (R : List UInt8 → Int × Bool) (most : Int) : itO F R most = .bad 6 ∨ itO F R most = .bad 7 ∨ ∃ x, itO F R most = .it x := by
  unfold itO
  by_cases h1 : shortB (oneB F R) most = false
  · rw [if_pos h1]; exact Or.inl rfl
  · rw [if_neg h1]
    by_cases h2 : (oneB F R).guid = [] ∨ lateB F R = true
    · rw [if_pos h2]; exact Or.inr (Or.inl rfl)
    · rw [if_neg h2]; exact Or.inr (Or.inr ⟨_, rfl⟩)
theorem kidsB_nodup (l : List Nd) (i : Int) : (kidsB l i).Nodup := by
  unfold kidsB
  split
  · unfold kidsTo
    refine List.Pairwise.map _ (R := (· ≠ ·)) ?_ (List.Pairwise.filter _ List.nodup_range)
    intro a b h; omega
  · exact List.nodup_nil
theorem namedB_nodup (l : List Nd) (i : Int) (nm : List UInt8) : (namedB l i nm).Nodup := by
  unfold namedB
  split
  · exact List.nodup_nil
  · exact List.Pairwise.filter _ (kidsB_nodup l i)
theorem namedB_bd {l : List Nd} {i j : Int} {nm : List UInt8} (h : j ∈ namedB l i nm) : placeB l j = true ∧ upN l j = i ∧ j ≠ i ∧ placeB l i = true := by
  unfold namedB at h
  split at h
  · cases h
  · exact kidsB_bd (List.mem_filter.1 h).1
theorem namedB_len (l : List Nd) (i : Int) (nm : List UInt8) : (namedB l i nm).length ≤ l.length := by
  unfold namedB
  split
  · simp
  · refine Nat.le_trans (List.length_filter_le _ _) ?_
    unfold kidsB
    split
    · exact kidsTo_len _ _ _
    · simp
theorem chanB_place {l : List Nd} {c : Int} (h : chanB l = some c) : 0 ≤ c ∧ c < l.length := by
  unfold chanB at h
  split at h
  · cases h
  · unfold firstB at h
    have := namedB_bd (List.mem_of_mem_head? h)
    exact place_iff.1 this.1

/-- A cell with a pointer in it is none of a text's. -/
theorem text_apart {w : World} {B b k : Nat} {t : TypeId} {x : Option Addr} {s : List UInt8} (hW : ArrAt w B t [.pointer x]) (h : w.cell? ⟨b, k, none⟩ = some (strV s)) : b ≠ B := fun e => by
  subst e
  rw [hW.cell] at h
  cases k with
  | zero => simp [strV] at h
  | succ k => simp at h
theorem AtSl.turned {w w' : World} {B : Nat} {t : TypeId} {x : Option Addr} {v : Value} {l : List At} (h : AtSl w v l) (hW : ArrAt w B t [.pointer x]) (ht : Turned (fun b => b = B) w w') : AtSl w' v l := by
  rcases h with h | ⟨b, off, c, hc, hv, h⟩
  · exact Or.inl h
  · refine Or.inr ⟨b, off, c, hc, hv, fun j hj => ?_⟩
    obtain ⟨h1, h2⟩ := h j hj
    have hb := ht.block b (World.block_lt_of_cell? w ⟨b, _, none⟩ h1) (text_apart hW h1)
    exact ⟨(World.cell?_of_block hb).trans h1, (World.cell?_of_block hb).trans h2⟩
theorem NdSl.turned {w w' : World} {B : Nat} {t : TypeId} {x : Option Addr} {v : Value} {P : List (Nd × Value)} (h : NdSl w v P) (hW : ArrAt w B t [.pointer x]) (ht : Turned (fun b => b = B) w w') : NdSl w' v P := by
  refine ⟨?_, fun p hp => (h.2 p hp).turned hW ht⟩
  rcases h.1 with k | ⟨b, off, c, hc, hv, k⟩
  · exact Or.inl k
  · refine Or.inr ⟨b, off, c, hc, hv, fun j hj => ?_⟩
    obtain ⟨d0, d1, d2, d3⟩ := k j hj
    have hb := ht.block b (World.block_lt_of_cell? w ⟨b, _, none⟩ d0) (text_apart hW d0)
    exact ⟨(World.cell?_of_block hb).trans d0, (World.cell?_of_block hb).trans d1, (World.cell?_of_block hb).trans d2, (World.cell?_of_block hb).trans d3⟩

theorem info_item : (Tryz.prog.info? 48).map (fun i => (i.zero, i.size, i.bytes)) = some (some (.agg #[.string ⟨#[]⟩, .string ⟨#[]⟩, .string ⟨#[]⟩, .string ⟨#[]⟩, .int .i64 0, .bool false]), 6, 80) := by kernel_rfl
def cellsI (l : List It) : List Value := l.flatMap itC
theorem cellsI_app (l : List It) (x : It) : cellsI (l ++ [x]) = cellsI l ++ itC x := by simp [cellsI]
/-- Entries in a row that the call itself made. -/
def OwnI (w : World) (B : Nat) (v : Value) (l : List It) : Prop := w.ownsRow B 48 6 v l.length (cellsI l)
/-- The fault that is noted, if one is. -/
def NoteAt (w : World) (B : Nat) (bad : Bool) : Prop :=
  ∃ x, ArrAt w B 38 [.pointer x] ∧ (bad = false → x = none) ∧ (bad = true → ∃ f, x = some ⟨f, 0, none⟩ ∧ FaultAt w f 0 (codeV 7))
theorem NoteAt.next {w w' : World} {B : Nat} {bad : Bool} (h : NoteAt w B bad) (hb : Below w.heap.size w w') : NoteAt w' B bad := by
  obtain ⟨x, h1, h2, h3⟩ := h
  exact ⟨x, h1.next hb, h2, fun e => by obtain ⟨f, e1, e2⟩ := h3 e; exact ⟨f, e1, e2.below hb⟩⟩
/-- The parts, as cut left them. -/
structure Ec (K : List At → Prop) (G : List Nd → Int → ItO) (w0 wc : World) (g Wb : Nat) (pcs : List (Value × Int)) (os : List ItO) : Prop where
  arr : ArrAt wc g 150 (cellsQ pcs)
  nd : ∀ (i : Nat) (p : Value × Int), pcs[i]? = some p → ∃ Q : List (Nd × Value), NdSl wc p.1 Q ∧ Q.length ≤ 1000000 ∧ sumT (nodes Q) ≤ 2000000 ∧ (∀ x ∈ nodes Q, K x.attrs) ∧ os[i]? = some (G (nodes Q) p.2)
  note : ArrAt wc Wb 38 [.pointer none]
  low : w0.heap.size ≤ Wb
  below : Below w0.heap.size w0 wc
  len : pcs.length = os.length
/-- What the loop of Items keeps. -/
structure Em (wc : World) (Wb : Nat) (os : List ItO) (k : Nat) (v : Value) (acc : List It) (bad : Bool) (w : World) : Prop where
  tur : Turned (fun b => b = Wb) wc w
  own : OwnI w wc.heap.size v acc
  note : NoteAt w Wb bad
  gat : gatherB os [] false = gatherB (os.drop k) acc bad
  few : acc.length ≤ k
section
variable {K : List At → Prop} {G : List Nd → Int → ItO} {w0 wc w w' : World} {g Wb : Nat} {pcs : List (Value × Int)} {os : List ItO} {k : Nat} {v : Value} {acc : List It} {bad : Bool}
theorem Em.below (h : Em wc Wb os k v acc bad w) (hc : Ec K G w0 wc g Wb pcs os) : Below w0.heap.size w0 w :=
  hc.below.trans (h.tur.below (fun i _ e => by have e : i = Wb := e; have := hc.low; omega) hc.below.size)
theorem Em.arr (h : Em wc Wb os k v acc bad w) (hc : Ec K G w0 wc g Wb pcs os) : ArrAt w g 150 (cellsQ pcs) := hc.arr.turned h.tur (arr_apart hc.arr hc.note (by decide))
theorem Em.nd (h : Em wc Wb os k v acc bad w) (hc : Ec K G w0 wc g Wb pcs os) {i : Nat} {p : Value × Int} (hp : pcs[i]? = some p) : ∃ Q : List (Nd × Value), NdSl w p.1 Q ∧ Q.length ≤ 1000000 ∧ sumT (nodes Q) ≤ 2000000 ∧ (∀ x ∈ nodes Q, K x.attrs) ∧ os[i]? = some (G (nodes Q) p.2) := by
  obtain ⟨Q, h1, h2⟩ := hc.nd i p hp
  exact ⟨Q, h1.turned hc.note h.tur, h2⟩
theorem Em.next (h : Em wc Wb os k v acc bad w) (hb : Below w.heap.size w w') : Em wc Wb os k v acc bad w' :=
  ⟨h.tur.trans (Turned.of_below (S := fun b => b = Wb) hb) fun _ _ e => e, ownsRow_below h.own hb, h.note.next hb, h.gat, h.few⟩
theorem drop_some {α : Type} {l : List α} {k : Nat} {x : α} (h : l[k]? = some x) : l.drop k = x :: l.drop (k + 1) := by
  obtain ⟨hlt, rfl⟩ := List.getElem?_eq_some_iff.1 h
  exact List.drop_eq_getElem_cons hlt
theorem Em.item {x : It} {v' : Value} (h : Em wc Wb os k v acc bad w) (hx : os[k]? = some (.it x)) (h1 : w'.ownsRow wc.heap.size 48 6 v' (acc.length + 1) (cellsI acc ++ itC x)) (h2 : w.grownBy w' v.ownBlock) : Em wc Wb os (k + 1) v' (acc ++ [x]) bad w' := by
  have hT := Turned.of_grown (S := fun b => v.ownBlock = some b) h2 fun _ e => e
  obtain ⟨y, n1, n2, n3⟩ := h.note
  have hnw := own_ne_arr h.own n1 (by decide)
  refine ⟨h.tur.trans hT fun i hi e => ?_, ?_, ⟨y, n1.turned hT hnw, n2, fun e => ?_⟩, ?_, by simp; have := h.few; omega⟩
  · have := (h.own.lt i e).1; omega
  · unfold OwnI; rw [cellsI_app]; simpa using h1
  · obtain ⟨f, e1, e2⟩ := n3 e
    exact ⟨f, e1, ArrAt.turned e2 hT (own_ne_arr h.own e2 (by decide))⟩
  · rw [h.gat, drop_some hx]; rfl
theorem Em.wrong {q : Int} {f : Nat} (h : Em wc Wb os k v acc bad w) (hx : os[k]? = some (.bad q)) (hq : q ≠ 6) (hf : FaultAt w f 0 (codeV 7)) : Em wc Wb os (k + 1) v acc true (w.setCell ⟨Wb, 0, none⟩ (.pointer (some ⟨f, 0, none⟩))) := by
  obtain ⟨y, n1, n2, n3⟩ := h.note
  have hT := turned_setCell w ⟨Wb, 0, none⟩ (.pointer (some ⟨f, 0, none⟩))
  refine ⟨h.tur.trans hT fun _ _ e => e, ownsRow_turned h.own hT fun b e e2 => own_ne_arr h.own n1 (by decide) (e.trans (congrArg some e2)), ⟨_, n1.set 0 _, nofun, fun _ => ⟨f, rfl, ArrAt.turned hf hT (arr_apart hf n1 (by decide))⟩⟩, ?_, by have := h.few; omega⟩
  rw [h.gat, drop_some hx]
  show (if q = 6 then _ else _) = _
  rw [if_neg hq]
end
end Go.Proofs.YtkgjbamkinfmeaaGreatDoor

/- Layer 14, plain: greater limits; what holds of each entry. -/
namespace Go.Proofs.YtkgjbamkinfmeaaGreatDoor
open Go.RowKit

theorem dateC_range {s : RSt} {y m d : Nat} {c : Int} (h : (dateC s y m d c).2 = true) : 0 ≤ (dateC s y m d c).1 ∧ (dateC s y m d c).1 ≤ 253402300799 := by
  by_cases hc : s.2 = true ∨ s.1 ≠ [] ∨ (daysB y m d).2 = false ∨ (daysB y m d).1 * 86400 + c < 0 ∨ 253402300799 < (daysB y m d).1 * 86400 + c
  · rw [dateC_no hc] at h; cases h
  · rw [dateC_yes hc]
    have h1 : ¬ ((daysB y m d).1 * 86400 + c < 0) := fun e => hc (Or.inr (Or.inr (Or.inr (Or.inl e))))
    have h2 : ¬ (253402300799 < (daysB y m d).1 * 86400 + c) := fun e => hc (Or.inr (Or.inr (Or.inr (Or.inr e))))
    exact ⟨Int.not_lt.1 h1, Int.not_lt.1 h2⟩
theorem r822C_range {l : List UInt8} (h : (r822C l).2 = true) : 0 ≤ (r822C l).1 ∧ (r822C l).1 ≤ 253402300799 := by
  unfold r822C r822a r822b r822d r822e r822f at h ⊢
  split at h
  · rename_i e; rw [if_pos e]; exact dateC_range h
  · rename_i e; rw [if_neg e]; exact dateC_range h
/-- An entry as it should be. -/
def ItGood (most : Int) (x : It) : Prop := x.guid ≠ [] ∧ shortB x most = true ∧ (x.dated = true → 0 ≤ x.date ∧ x.date ≤ 253402300799)
theorem shortB_iff {x : It} {most : Int} : shortB x most = true ↔ (x.guid.length : Int) ≤ most ∧ (x.guid.length : Int) ≤ 256 ∧ (x.title.length : Int) ≤ most ∧ (x.link.length : Int) ≤ most ∧ (x.body.length : Int) ≤ most := by
  unfold shortB
  simp only [Bool.and_eq_true, decide_eq_true_eq]
  constructor
  · rintro ⟨⟨⟨⟨h1, h2⟩, h3⟩, h4⟩, h5⟩; exact ⟨h1, h2, h3, h4, h5⟩
  · rintro ⟨h1, h2, h3, h4, h5⟩; exact ⟨⟨⟨⟨h1, h2⟩, h3⟩, h4⟩, h5⟩
theorem shortB_more {x : It} {a b : Int} (h : shortB x a = true) (hab : a ≤ b) : shortB x b = true := by
  rw [shortB_iff] at h ⊢
  omega
theorem itO_it {F : List UInt8 → Option (List UInt8)} {most : Int} {x : It} (h : itO F r822C most = .it x) : ItGood most x ∧ ∀ more, most ≤ more → itO F r822C more = .it x := by
  unfold itO at h
  by_cases h1 : shortB (oneB F r822C) most = false
  · rw [if_pos h1] at h; cases h
  · rw [if_neg h1] at h
    have h1' : shortB (oneB F r822C) most = true := by simpa using h1
    by_cases h2 : (oneB F r822C).guid = [] ∨ lateB F r822C = true
    · rw [if_pos h2] at h; cases h
    · rw [if_neg h2] at h
      injection h with h
      subst h
      refine ⟨⟨fun e => h2 (Or.inl e), h1', fun hd => ?_⟩, fun more hm => ?_⟩
      · unfold oneB at hd ⊢
        simp only at hd ⊢
        cases hp : F pubL with
        | none => rw [hp] at hd; cases hd
        | some s => rw [hp] at hd; exact r822C_range hd
      · unfold itO
        rw [if_neg (by rw [shortB_more h1' hm]; decide), if_neg h2]
theorem gatherB_all : ∀ (os : List ItO) (acc : List It) (bad : Bool) (l : List It), gatherB os acc bad = .its l → bad = false ∧ ∃ xs : List It, os = xs.map .it ∧ l = acc ++ xs
  | [], acc, bad, l, h => by
    unfold gatherB at h
    split at h
    · cases h
    · rename_i hb
      injection h with h
      exact ⟨by simpa using hb, [], rfl, by simp [h]⟩
  | .bad p :: r, acc, bad, l, h => by
    unfold gatherB at h
    split at h
    · cases h
    · have := (gatherB_all r acc true l h).1; cases this
  | .it x :: r, acc, bad, l, h => by
    obtain ⟨h1, xs, h2, h3⟩ := gatherB_all r (acc ++ [x]) bad l h
    exact ⟨h1, x :: xs, by rw [h2]; rfl, by rw [h3]; simp⟩
theorem gatherB_its : ∀ (xs acc : List It), gatherB (xs.map .it) acc false = .its (acc ++ xs)
  | [], acc => by simp [gatherB]
  | x :: r, acc => by
    show gatherB (r.map .it) (acc ++ [x]) false = _
    rw [gatherB_its r]; simp
theorem itsB_all {l : List Nd} {many most : Int} {xs : List It} (h : itsB l r822C many most = .its xs) : (∀ x ∈ xs, ItGood most x) ∧ (xs.length : Int) ≤ many ∧ ∀ more, 0 ≤ more → itsB l r822C (many + more) (most + more) = .its xs := by
  unfold itsB readB at h ⊢
  cases hc : chanB l with
  | none => rw [hc] at h; cases h
  | some c =>
    rw [hc] at h
    simp only at h ⊢
    by_cases hm : many < ((namedB l c itemL).length : Int)
    · rw [if_pos hm] at h; cases h
    · rw [if_neg hm] at h
      obtain ⟨_, ys, h2, h3⟩ := gatherB_all _ _ _ _ h
      rw [List.nil_append] at h3
      subst h3
      have hlen : (namedB l c itemL).length = xs.length := by
        have := congrArg List.length h2
        simpa using this
      have hat : ∀ i ∈ namedB l c itemL, ∃ x ∈ xs, itO (fieldB l i) r822C most = .it x := fun i hi => by
        have hmem : itO (fieldB l i) r822C most ∈ xs.map ItO.it := by rw [← h2]; exact List.mem_map.2 ⟨i, hi, rfl⟩
        obtain ⟨x, hx, e⟩ := List.mem_map.1 hmem
        exact ⟨x, hx, e.symm⟩
      refine ⟨fun x hx => ?_, by omega, fun more h0 => ?_⟩
      · have hmem : ItO.it x ∈ (namedB l c itemL).map fun i => itO (fieldB l i) r822C most := by rw [h2]; exact List.mem_map.2 ⟨x, hx, rfl⟩
        obtain ⟨i, _, e⟩ := List.mem_map.1 hmem
        exact (itO_it e).1
      · rw [if_neg (by omega)]
        have e : ((namedB l c itemL).map fun i => itO (fieldB l i) r822C (most + more)) = xs.map ItO.it := by
          rw [← h2]
          refine List.map_congr_left fun i hi => ?_
          obtain ⟨x, _, e⟩ := hat i hi
          rw [e]
          exact (itO_it e).2 _ (by omega)
        rw [e, gatherB_its]
        rfl
theorem gatherB_codes : ∀ (os : List ItO) (acc : List It) (bad : Bool) (q : Int), gatherB os acc bad = .bad q → q = 6 ∨ q = 7
  | [], acc, bad, q, h => by
    unfold gatherB at h
    split at h
    · injection h with h; exact Or.inr h.symm
    · cases h
  | .bad p :: r, acc, bad, q, h => by
    unfold gatherB at h
    split at h
    · injection h with h; exact Or.inl h.symm
    · exact gatherB_codes r acc true q h
  | .it x :: r, acc, bad, q, h => gatherB_codes r (acc ++ [x]) bad q h
theorem gatherB_len : ∀ (os : List ItO) (acc : List It) (bad : Bool) (l : List It), gatherB os acc bad = .its l → l.length ≤ acc.length + os.length
  | [], acc, bad, l, h => by
    unfold gatherB at h
    split at h
    · cases h
    · injection h with h; subst h; simp
  | .bad p :: r, acc, bad, l, h => by
    unfold gatherB at h
    split at h
    · cases h
    · have := gatherB_len r acc true l h; simp; omega
  | .it x :: r, acc, bad, l, h => by have := gatherB_len r (acc ++ [x]) bad l h; simp at this ⊢; omega
theorem itsB_codes {l : List Nd} {R : List UInt8 → Int × Bool} {many most q : Int} (h : itsB l R many most = .bad q) : q = 5 ∨ q = 6 ∨ q = 7 := by
  unfold itsB readB at h
  split at h
  · injection h with h; exact Or.inl h.symm
  · split at h
    · injection h with h; exact Or.inr (Or.inl h.symm)
    · exact Or.inr (gatherB_codes _ _ _ _ h)
theorem itsB_len {l : List Nd} {R : List UInt8 → Int × Bool} {many most : Int} {x : List It} (h : itsB l R many most = .its x) : x.length ≤ l.length ∧ (x.length : Int) ≤ many := by
  unfold itsB readB at h
  split at h
  · cases h
  · rename_i c _
    split at h
    · cases h
    · have h1 := gatherB_len _ _ _ _ h
      have h2 := namedB_len l c itemL
      rw [List.length_map] at h1
      simp at h1
      omega
end Go.Proofs.YtkgjbamkinfmeaaGreatDoor

/- Layer 15, plain: links; an entry of its fields and its link; the entries of a feed. -/
namespace Go.Proofs.YtkgjbamkinfmeaaGreatDoor
open Go.RowKit

def hrefL : List UInt8 := [104, 114, 101, 102]
def relL : List UInt8 := [114, 101, 108]
def altL : List UInt8 := [97, 108, 116, 101, 114, 110, 97, 116, 101]
def idL : List UInt8 := [105, 100]
def sumL : List UInt8 := [115, 117, 109, 109, 97, 114, 121]
def contL : List UInt8 := [99, 111, 110, 116, 101, 110, 116]
def updL : List UInt8 := [117, 112, 100, 97, 116, 101, 100]
def pubdL : List UInt8 := [112, 117, 98, 108, 105, 115, 104, 101, 100]
def feedL : List UInt8 := [102, 101, 101, 100]
def entryL : List UInt8 := [101, 110, 116, 114, 121]
/-- Are these the attributes of a link that leads somewhere? -/
def goodA (a : List At) : Bool := (attrB a hrefL).2 && (!(attrB a relL).2 || (attrB a relL).1 == altL)
/-- Where the first of links leads. -/
def leadB (L : List (List At)) : Option (List UInt8) := (L.find? goodA).map fun a => cleanB (attrB a hrefL).1
/-- A node's link. -/
def linkB (l : List Nd) (i : Int) : Option (List UInt8) := leadB (linksB l i)
/-- The first of two that is there. -/
def orB (a b : Option (List UInt8)) : Option (List UInt8) := match a with | some s => some s | none => b
/-- The entry of the fields F and the link L, where dates are read by R. -/
def oneA (F : List UInt8 → Option (List UInt8)) (L : Option (List UInt8)) (R : List UInt8 → Int × Bool) : It where
  guid := (F idL).getD []
  title := (F titleL).getD []
  link := L.getD []
  body := (orB (F sumL) (F contL)).getD []
  date := (R ((orB (F updL) (F pubdL)).getD [])).1
  dated := (R ((orB (F updL) (F pubdL)).getD [])).2
def itA (F : List UInt8 → Option (List UInt8)) (L : Option (List UInt8)) (R : List UInt8 → Int × Bool) (most : Int) : ItO :=
  if shortB (oneA F L R) most = false then .bad 6 else if (oneA F L R).guid = [] ∨ (oneA F L R).dated = false then .bad 7 else .it (oneA F L R)
/-- What Items says of a list of nodes. -/
def itsA (l : List Nd) (R : List UInt8 → Int × Bool) (many most : Int) : ItsO :=
  if l = [] ∨ (atN l 0).name ≠ feedL then .bad 5 else readB l 0 entryL (fun i => itA (fieldB l i) (linkB l i) R most) many
theorem itA_cases (F : List UInt8 → Option (List UInt8)) (L : Option (List UInt8)) (R : List UInt8 → Int × Bool) (most : Int) : itA F L R most = .bad 6 ∨ itA F L R most = .bad 7 ∨ ∃ x, itA F L R most = .it x := by
  unfold itA
  by_cases h1 : shortB (oneA F L R) most = false
  · rw [if_pos h1]; exact Or.inl rfl
  · rw [if_neg h1]
    by_cases h2 : (oneA F L R).guid = [] ∨ (oneA F L R).dated = false
    · rw [if_pos h2]; exact Or.inr (Or.inl rfl)
    · rw [if_neg h2]; exact Or.inr (Or.inr ⟨_, rfl⟩)
theorem itA_told {q l : List Nd} {j i : Int} (h : Told q j l i) (R : List UInt8 → Int × Bool) (most : Int) : itA (fieldB q j) (linkB q j) R most = itA (fieldB l i) (linkB l i) R most := by
  unfold linkB
  rw [h.links, show fieldB q j = fieldB l i from funext h.field]
theorem datedA (F : List UInt8 → Option (List UInt8)) (L : Option (List UInt8)) (R : List UInt8 → Int × Bool) : (oneA F L R).dated = (R ((orB (F updL) (F pubdL)).getD [])).2 := rfl
theorem r3339f_range {y m d c : Nat} {s : RSt} (h : (r3339f y m d c s).2 = true) : 0 ≤ (r3339f y m d c s).1 ∧ (r3339f y m d c s).1 ≤ 253402300799 := by
  unfold r3339f r3339g at h ⊢
  by_cases e1 : (skipC s [90]).1 = true
  · rw [if_pos e1] at h ⊢; exact dateC_range h
  · rw [if_neg e1] at h ⊢
    by_cases e2 : (skipC (skipC s [90]).2 [122]).1 = true
    · rw [if_pos e2] at h ⊢; exact dateC_range h
    · rw [if_neg e2] at h ⊢; exact dateC_range h
theorem r3339e_range {y m d c : Nat} {k : Bool × RSt} (h : (r3339e y m d c k).2 = true) : 0 ≤ (r3339e y m d c k).1 ∧ (r3339e y m d c k).1 ≤ 253402300799 := by
  unfold r3339e at h ⊢
  by_cases e1 : k.1 = true
  · rw [if_pos e1] at h ⊢; exact r3339f_range h
  · rw [if_neg e1] at h ⊢; exact r3339f_range h
theorem r3339C_range {l : List UInt8} (h : (r3339C l).2 = true) : 0 ≤ (r3339C l).1 ∧ (r3339C l).1 ≤ 253402300799 := by
  unfold r3339C r3339y r3339a r3339b r3339c r3339d at h ⊢
  exact r3339e_range h
/-- An entry of a feed as it should be. -/
theorem itA_it {F : List UInt8 → Option (List UInt8)} {L : Option (List UInt8)} {R : List UInt8 → Int × Bool} (hR : ∀ l, (R l).2 = true → 0 ≤ (R l).1 ∧ (R l).1 ≤ 253402300799) {most : Int} {x : It} (h : itA F L R most = .it x) : ItGood most x ∧ x.dated = true := by
  unfold itA at h
  by_cases h1 : shortB (oneA F L R) most = false
  · rw [if_pos h1] at h; cases h
  · rw [if_neg h1] at h
    have h1' : shortB (oneA F L R) most = true := by simpa using h1
    by_cases h2 : (oneA F L R).guid = [] ∨ (oneA F L R).dated = false
    · rw [if_pos h2] at h; cases h
    · rw [if_neg h2] at h
      injection h with h
      subst h
      clear h1
      have hd : (oneA F L R).dated = true := by
        cases hc : (oneA F L R).dated with
        | true => rfl
        | false => exact absurd (Or.inr hc) h2
      exact ⟨⟨fun e => h2 (Or.inl e), h1', fun hd => by rw [datedA] at hd; exact hR _ hd⟩, hd⟩
theorem readB_its {l : List Nd} {c : Int} {nm : List UInt8} {G : Int → ItO} {many : Int} {xs : List It} (h : readB l c nm G many = .its xs) : (xs.length : Int) ≤ many ∧ xs.length ≤ l.length ∧ ∀ x ∈ xs, ∃ i, G i = .it x := by
  unfold readB at h
  by_cases hm : many < ((namedB l c nm).length : Int)
  · rw [if_pos hm] at h; cases h
  · rw [if_neg hm] at h
    obtain ⟨_, ys, h2, h3⟩ := gatherB_all _ _ _ _ h
    rw [List.nil_append] at h3
    subst h3
    have hlen : (namedB l c nm).length = xs.length := by
      have := congrArg List.length h2
      simpa using this
    have := namedB_len l c nm
    refine ⟨by omega, by omega, fun x hx => ?_⟩
    have hmem : ItO.it x ∈ (namedB l c nm).map G := by rw [h2]; exact List.mem_map.2 ⟨x, hx, rfl⟩
    obtain ⟨i, _, e⟩ := List.mem_map.1 hmem
    exact ⟨i, e⟩
theorem itsA_its {l : List Nd} {many most : Int} {xs : List It} (h : itsA l r3339C many most = .its xs) : (xs.length : Int) ≤ many ∧ xs.length ≤ l.length ∧ ∀ x ∈ xs, ItGood most x ∧ x.dated = true := by
  unfold itsA at h
  split at h
  · cases h
  · obtain ⟨h1, h2, h3⟩ := readB_its h
    refine ⟨h1, h2, fun x hx => ?_⟩
    obtain ⟨i, e⟩ := h3 x hx
    exact itA_it (fun _ => r3339C_range) e
end Go.Proofs.YtkgjbamkinfmeaaGreatDoor

/- Tokens that the call itself made, read as any others. -/
namespace Go.Proofs.YtkgjbamkinfmeaaGreatDoor
open Go.RowKit

theorem cellsK_four : ∀ (P : List (Tk × Value)) (j : Nat) (h : j < P.length), (cellsK P)[j * 4]? = some (.int .i64 (P[j]'h).1.kind) ∧ (cellsK P)[j * 4 + 1]? = some (strV (P[j]'h).1.name) ∧ (cellsK P)[j * 4 + 2]? = some (P[j]'h).2 ∧ (cellsK P)[j * 4 + 3]? = some (strV (P[j]'h).1.text)
  | [], j, h => by simp at h
  | x :: t, 0, _ => ⟨rfl, rfl, rfl, rfl⟩
  | x :: t, j + 1, h => by
    have := cellsK_four t j (by simpa using h)
    have e : cellsK (x :: t) = .int .i64 x.1.kind :: strV x.1.name :: x.2 :: strV x.1.text :: cellsK t := rfl
    have e1 : ∀ i, (cellsK (x :: t))[(j + 1) * 4 + i]? = (cellsK t)[j * 4 + i]? := fun i => by
      rw [e, show (j + 1) * 4 + i = (j * 4 + i) + 1 + 1 + 1 + 1 by omega]; simp only [List.getElem?_cons_succ]
    have e0 := e1 0
    rw [Nat.add_zero, Nat.add_zero] at e0
    rw [e0, e1, e1, e1]
    simpa using this
/-- Tokens that the call itself made can be read. -/
theorem Tks.sl {w : World} {B : Nat} {v : Value} {P : List (Tk × Value)} (h : Tks w B v P) : TkSl w v P := by
  refine ⟨?_, fun p hp => Ats.sl (h.ats p hp)⟩
  have hcg := fun g hv => World.ownsRow.cells h.row (g := g) hv
  rcases h.row.2 with ⟨hv, hn⟩ | ⟨g, cap, cur, hv, _, _, hcap, _⟩
  · obtain ⟨a, c, e⟩ := own_form h.row
    have h0 : P = [] := List.length_eq_zero_iff.1 hn
    rw [hn] at e
    exact Or.inl ⟨h0, a, c, e⟩
  · have hob : v.ownBlock = some g := by rw [hv]; rfl
    refine Or.inr ⟨g, 0, cap, hcap, hv, fun j hj => ?_⟩
    obtain ⟨e0, e1, e2, e3⟩ := cellsK_four P j hj
    have hadd : ∀ i, (⟨g, 0, none⟩ : Addr).add i = ⟨g, i, none⟩ := fun i => by unfold Addr.add; split <;> simp_all
    have h0 := hcg g hob _ _ e0
    have h1 := hcg g hob _ _ e1
    have h2 := hcg g hob _ _ e2
    have h3 := hcg g hob _ _ e3
    rw [hadd] at h0 h1 h2 h3
    rw [Nat.zero_add]
    exact ⟨h0, h1, h2, h3⟩
theorem ndSl_nil (w : World) : NdSl w (.slice none 0 0) [] := ⟨Or.inl ⟨rfl, none, 0, rfl⟩, fun p hp => by cases hp⟩
theorem tkSl_nil (w : World) : TkSl w (.slice none 0 0) [] := ⟨Or.inl ⟨rfl, none, 0, rfl⟩, fun p hp => by cases hp⟩
end Go.Proofs.YtkgjbamkinfmeaaGreatDoor

/- Layer 11: document. -/
namespace Go.Proofs.YtkgjbamkinfmeaaGreatDoor
open Go.RowKit

/-- What the loop of document keeps: k bytes are read, the state is s. -/
structure DocAt (dep : Int) (l : List UInt8) (m k : Nat) (s : Sc) : Prop where
  le : m ≤ k ∧ k ≤ l.length
  eq : loopK (docF dep) sc0 (l.drop m) m = loopK (docF dep) s (l.drop k) k
  toks : s.toks.length ≤ 2 * k
  text : s.text.length ≤ 4 * k
  opn : s.opn.length ≤ k
theorem DocAt.zero {dep : Int} {l : List UInt8} {m : Nat} (hm : m ≤ l.length) : DocAt dep l m m sc0 := ⟨⟨Nat.le_refl _, hm⟩, rfl, by simp [sc0], by simp [sc0], by simp [sc0]⟩
theorem DocAt.step {dep : Int} {l : List UInt8} {m k n : Nat} {s s' : Sc} (h : DocAt dep l m k s) (e : docF dep s (l.drop k) = .go s' n) : DocAt dep l m (k + n) s' ∧ 1 ≤ n := by
  have hs := docF_step e
  obtain ⟨h1, h2⟩ := h.le
  have hi := hs.hi
  rw [List.length_drop] at hi
  have := hs.lo
  refine ⟨⟨⟨by omega, by omega⟩, ?_, by have := hs.toks; have := h.toks; omega, by have := hs.text; have := h.text; omega, by have := hs.opn; have := h.opn; omega⟩, hs.lo⟩
  rw [h.eq, loopK_go (docF_steps dep) _ e, List.drop_drop]
theorem docB_none {dep : Int} {l : List UInt8} (h : headP l = none) : docB dep l = .syn := by unfold docB; rw [h]
theorem docB_syn {dep : Int} {l : List UInt8} {m k : Nat} {s : Sc} (hh : headP l = some m) (h : DocAt dep l m k s) (e : docF dep s (l.drop k) = .bad .syn) : docB dep l = .syn := by
  unfold docB; rw [hh]; simp only; rw [h.eq, loopK_bad _ e]
theorem docB_deep {dep : Int} {l : List UInt8} {m k : Nat} {s : Sc} (hh : headP l = some m) (h : DocAt dep l m k s) (e : docF dep s (l.drop k) = .bad .deep) : docB dep l = .deep k := by
  unfold docB; rw [hh]; simp only; rw [h.eq, loopK_bad _ e]
theorem docB_fin {dep : Int} {l : List UInt8} {m k : Nat} {s : Sc} (hh : headP l = some m) (h : DocAt dep l m k s) (e : docF dep s (l.drop k) = .bad .fin) : docB dep l = if s.rooted && s.opn.isEmpty then .toks s.toks else .syn := by
  unfold docB; rw [hh]; simp only; rw [h.eq, loopK_bad _ e]
/-- What document comes to. -/
def DocPost (w : World) (B R : Nat) (l : List UInt8) (_dep : Int) : Ans → Ending → World → Prop
  | .toks t, e, w' => e = .returned .nilIface ∧ (∃ c' k' s' P', c'.l = l ∧ s'.toks = t ∧ RdM w' B R c' k' s' P') ∧ Below B w w'
  | .syn, e, w' => ∃ f q, e = .returned (faultV f) ∧ B ≤ f ∧ FaultAt w' f q synV ∧ Below B w w'
  | .deep k, e, w' => ∃ f, e = .returned (faultV f) ∧ B ≤ f ∧ FaultAt w' f k deepV ∧ Below B w w'
section
variable {w w' : World} {B R : Nat} {l : List UInt8} {dep : Int} {o : Ans} {e : Ending} {f q : Nat}
theorem DocPost.syn (ho : o = .syn) (he : e = .returned (faultV f)) (hf : B ≤ f) (h : FaultAt w' f q synV) (hb : Below B w w') : DocPost w B R l dep o e w' := by subst ho; exact ⟨f, q, he, hf, h, hb⟩
theorem DocPost.deep {k : Nat} (ho : o = .deep k) (he : e = .returned (faultV f)) (hf : B ≤ f) (h : FaultAt w' f k deepV) (hb : Below B w w') : DocPost w B R l dep o e w' := by subst ho; exact ⟨f, he, hf, h, hb⟩
theorem DocPost.ok {t : List Tk} {c' : RC} {k' : Nat} {s' : Sc} {P' : List (Tk × Value)} (ho : o = .toks t) (he : e = .returned .nilIface) (hl : c'.l = l) (ht : s'.toks = t) (h : RdM w' B R c' k' s' P') (hb : Below B w w') : DocPost w B R l dep o e w' := by subst ho; exact ⟨he, ⟨c', k', s', P', hl, ht, h⟩, hb⟩
end
/-- Where the loop of document stands: the last step's answer, and what it means. -/
inductive DocSt (w wr : World) (B R : Nat) (l : List UInt8) (dep : Int) (m : Nat) (A : Addr) (o : Ans) : Value → Prop
  | more (k : Nat) (s : Sc) (c : RC) (P : List (Tk × Value)) (hd : DocAt dep l m k s) (hl : c.l = l) (hp : c.dep = dep) (hr : RdM wr B R c k s P) : DocSt w wr B R l dep m A o .nilIface
  | fin (k : Nat) (s : Sc) (c : RC) (P : List (Tk × Value)) (ho : o = if s.rooted && s.opn.isEmpty then .toks s.toks else .syn) (hl : c.l = l) (hr : RdM wr B R c k s P) : DocSt w wr B R l dep m A o (endV A)
  | syn (k : Nat) (c : RC) (ho : o = .syn) (hk : k ≤ l.length) (hl : c.l = l) (hr : Rd wr R c k) : DocSt w wr B R l dep m A o synV
  | deep (k : Nat) (c : RC) (ho : o = .deep k) (hk : k ≤ l.length) (hl : c.l = l) (hr : Rd wr R c k) : DocSt w wr B R l dep m A o deepV
def isNilV : Value → Nat
  | .nilIface => 1
  | _ => 0

set_option maxHeartbeats 4000000 in
theorem document11_any (B R : Nat) (c : RC) (A : Addr) (w : World) (hE : Env w B A) (h : RdM w B R c 0 sc0 []) (hl : c.l.length ≤ 20000) (hB : B ≤ w.heap.size) :
    Calls Tryz.prog 57 #[.pointer (some ⟨R, 0, none⟩)] w (DocPost w B R c.l c.dep (docB c.dep c.l)) := by
  obtain ⟨o, ho⟩ : ∃ o, docB c.dep c.l = o := ⟨_, rfl⟩
  rw [ho]
  have hRB := h.low
  have hhead := head11_any R c w hE.maxl (by have := hE.lowm; omega) h.rd (by omega)
  obtain ⟨ho1, hhp⟩ : ∃ x, headP c.l = x := ⟨_, rfl⟩
  rw [hhp] at hhead
  replace h := Lib.hid h
  replace hE := Lib.hid hE
  replace hhp := Lib.hid hhp
  replace ho := Lib.hid ho
  replace hhead := Lib.hid hhead
  go_enter Tryz.func57, Tryz.ntmps57
  go_wp2_with fail
  refine hhead.out.mono ?_
  intro e w1 hq1
  obtain ⟨ev, m, hev, hst, hb1⟩ : ∃ (ev : Value) (m : Nat), e = .returned ev ∧ Hid (DocSt w w1 B R c.l c.dep m A o ev ∧ (ev = .nilIface → headP c.l = some m)) ∧ Below B w w1 := by
    cases ho1 with
    | none =>
      obtain ⟨rfl, k1, hk1, r1, t1⟩ := hq1
      exact ⟨synV, 0, rfl, ⟨.syn k1 c (ho.out.symm.trans (docB_none hhp.out)) hk1 rfl r1, fun e => by cases e⟩, h.out.toTurned t1⟩
    | some m =>
      obtain ⟨rfl, hm, r1, t1⟩ := hq1
      exact ⟨.nilIface, m, rfl, ⟨.more m sc0 c [] (DocAt.zero hm) rfl rfl (h.out.call r1 t1), fun _ => hhp.out⟩, h.out.toTurned t1⟩
  subst hev
  clear hq1 hhead
  have hE1 := hE.out.below hb1
  replace hb1 := Lib.hid hb1
  replace hE1 := Lib.hid hE1
  go_wp2_with fail
  go_loopw [3] (fun v wr => Hid (DocSt w wr B R c.l c.dep m A o v) ∧ Hid (v = .nilIface → headP c.l = some m) ∧ Hid (Env wr B A) ∧ Hid (Below B w wr)) (fun v wr => isNilV v * (c.l.length + 1 - (intOf ((wr.cell? ⟨R, 1, none⟩).getD undef)).toNat))
  case atStart => exact ⟨hst.out.1, hst.out.2, hE1.out, hb1.out⟩
  case round =>
    clear hst hE1 hb1
    obtain ⟨hst, hhd, hEr, hbr⟩ := hrel
    have hst' := hst.out
    clear hst
    have hende := hEr.out.ende
    cases hst' with
    | more k s c' P hd hl' hp hr =>
      have hk := hd.le.2
      have hstep := step11_any B R c' k s P A wr hEr.out hr (by rw [hl']; exact hk) (by rw [hl']; omega) (by have := hd.opn; omega) (by have := hd.toks; omega) (by have := hd.text; omega)
      rw [hl', hp] at hstep
      have hmm := hhd.out rfl
      obtain ⟨res, hres⟩ : ∃ res, docF c.dep s (c.l.drop k) = res := ⟨_, rfl⟩
      rw [hres] at hstep
      have hc1 := hr.rd.c1
      replace hstep := Lib.hid hstep
      replace hres := Lib.hid hres
      replace hd := Lib.hid hd
      replace hr := Lib.hid hr
      replace hmm := Lib.hid hmm
      replace hl' := Lib.hid hl'
      replace hp := Lib.hid hp
      replace hc1 := Lib.hid hc1
      go_wp2_with fail
      refine hstep.out.mono ?_
      intro e w2 hq2
      obtain ⟨ev, hev, hs2, hb2⟩ : ∃ ev : Value, e = .returned ev ∧ Hid (DocSt w w2 B R c.l c.dep m A o ev ∧ isNilV ev * (c.l.length + 1 - (intOf ((w2.cell? ⟨R, 1, none⟩).getD undef)).toNat) < c.l.length + 1 - k) ∧ Below B wr w2 := by
        cases res with
        | stop => exact hq2.elim
        | go s' n =>
          obtain ⟨rfl, ⟨c2, P2, e1, e2, r2⟩, hb2⟩ := hq2
          obtain ⟨hd2, hn⟩ := hd.out.step hres.out
          refine ⟨.nilIface, rfl, ⟨.more (k + n) s' c2 P2 hd2 e1 e2 r2, ?_⟩, hb2⟩
          rw [r2.rd.c1]
          simp [isNilV, intOf]
          omega
        | bad x =>
          cases x with
          | fin =>
            obtain ⟨rfl, ⟨c2, P2, e1, e2, r2⟩, hb2⟩ := hq2
            exact ⟨endV A, rfl, ⟨.fin k s c2 P2 (ho.out.symm.trans (docB_fin hmm.out hd.out hres.out)) e1 r2, by simp [isNilV, endV]; omega⟩, hb2⟩
          | syn =>
            obtain ⟨rfl, ⟨c2, k2, e1, hk2, _, r2⟩, hb2⟩ := hq2
            exact ⟨synV, rfl, ⟨.syn k2 c2 (ho.out.symm.trans (docB_syn hmm.out hd.out hres.out)) hk2 e1 r2, by simp [isNilV, synV]; omega⟩, hb2⟩
          | deep =>
            obtain ⟨rfl, ⟨c2, k2, e1, hk2, hkk, r2⟩, hb2⟩ := hq2
            subst hkk
            exact ⟨deepV, rfl, ⟨.deep k2 c2 (ho.out.symm.trans (docB_deep hmm.out hd.out hres.out)) hk2 e1 r2, by simp [isNilV, deepV]; omega⟩, hb2⟩
      subst hev
      clear hq2 hstep
      have hE2 := Lib.hid (hEr.out.below hb2)
      have hbb := Lib.hid (hbr.out.trans hb2)
      replace hb2 := Lib.hid hb2
      go_wp2_with fail
      have e1 : (intOf ((some (Value.int .i64 (k : Int))).getD undef)).toNat = k := by simp [intOf]
      refine ⟨⟨hs2.out.1, fun _ => hmm.out, hE2.out, hbb.out⟩, ?_⟩
      rw [hc1.out, e1]
      show _ < 1 * _
      rw [Nat.one_mul]
      exact hs2.out.2
    | syn k c' ho2 hk hl' hr =>
      have hc1 := hr.c1
      have hBr := hbr.out.size
      replace hr := Lib.hid hr
      replace ho2 := Lib.hid ho2
      replace hl' := Lib.hid hl'
      unfold synV
      go_wp2_with fail
      refine (is11_code_end 3 A wr).mono ?_; rintro e w2 ⟨rfl, rfl⟩
      go_wp2_with fail
      go_ret
      exact DocPost.syn ho2.out rfl (by omega : B ≤ wr.heap.size) (arrAt_new wr 40 [.int .i64 k, synV]) (hbr.out.alloc (by omega) _)
    | deep k c' ho2 hk hl' hr =>
      have hc1 := hr.c1
      have hBr := hbr.out.size
      replace hr := Lib.hid hr
      replace ho2 := Lib.hid ho2
      replace hl' := Lib.hid hl'
      unfold deepV
      go_wp2_with fail
      refine (is11_code_end 4 A wr).mono ?_; rintro e w2 ⟨rfl, rfl⟩
      go_wp2_with fail
      go_ret
      exact DocPost.deep ho2.out rfl (by omega : B ≤ wr.heap.size) (arrAt_new wr 40 [.int .i64 k, deepV]) (hbr.out.alloc (by omega) _)
    | fin k s c' P ho2 hl' hr =>
      have hc1 := hr.rd.c1
      have hc3 := hr.rd.c3
      have hc4 := hr.rd.c4
      rw [hr.rt] at hc3
      obtain ⟨a4, e4, hv⟩ := own_form hr.opn
      rw [hv] at hc4
      replace hv := Lib.hid hv
      have hBr := hbr.out.size
      have ho3 := ho2
      replace ho2 := Lib.hid ho2
      replace hr := Lib.hid hr
      replace hl' := Lib.hid hl'
      unfold endV
      cases hrt : s.rooted
      · rw [hrt] at ho3 hc3
        replace ho3 := Lib.hid ho3
        replace hrt := Lib.hid hrt
        go_wp2_with fail
        refine (is11_same A wr).mono ?_; rintro e w2 ⟨rfl, rfl⟩
        go_wp2_with fail
        go_ret
        exact DocPost.syn ho3.out rfl (by omega : B ≤ wr.heap.size) (arrAt_new wr 40 [.int .i64 k, synV]) (hbr.out.alloc (by omega) _)
      · rw [hrt, Bool.true_and] at ho3
        rw [hrt] at hc3
        replace hrt := Lib.hid hrt
        by_cases h0 : s.opn.length = 0
        · have he : s.opn.isEmpty = true := by rw [List.isEmpty_iff]; exact List.length_eq_zero_iff.1 h0
          rw [he] at ho3
          have h0' : ((s.opn.length : Int) == 0) = true := by rw [beq_iff_eq]; omega
          replace ho3 := Lib.hid ho3
          replace he := Lib.hid he
          replace h0 := Lib.hid h0
          go_wp2_with fail
          refine (is11_same A wr).mono ?_; rintro e w2 ⟨rfl, rfl⟩
          go_wp2_with fail
          go_ret
          exact DocPost.ok ho3.out rfl hl'.out rfl hr.out hbr.out
        · have he : s.opn.isEmpty = false := by cases hs : s.opn <;> simp_all
          rw [he] at ho3
          have h0' : ((s.opn.length : Int) == 0) = false := by rw [beq_eq_false_iff_ne]; omega
          replace ho3 := Lib.hid ho3
          replace he := Lib.hid he
          go_wp2_with fail
          refine (is11_same A wr).mono ?_; rintro e w2 ⟨rfl, rfl⟩
          go_wp2_with fail
          go_ret
          exact DocPost.syn ho3.out rfl (by omega : B ≤ wr.heap.size) (arrAt_new wr 40 [.int .i64 k, synV]) (hbr.out.alloc (by omega) _)
end Go.Proofs.YtkgjbamkinfmeaaGreatDoor
