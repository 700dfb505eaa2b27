/- Layer 14: the entries of a channel, plain; what the loop of Items keeps. -/
import Derived.Test.YtfmlgfeldlnlgaaGreatDoorBR37
import Derived.Test.YtfmlgfeldlnlgaaGreatDoorBR41
import Derived.Test.YtfmlgfeldlnlgaaGreatDoorBR13
import Derived.Test.YtfmlgfeldlnlgaaGreatDoorBR08
import Derived.Test.YtfmlgfeldlnlgaaGreatDoorBR18
import Derived.Test.YtfmlgfeldlnlgaaGreatDoorBR19
namespace Go.Proofs.YtfmlgfeldlnlgaaGreatDoor
open Go.RowKit

/-- Entries, or what is wrong. -/
inductive ItsO where
  | bad (q : Int)
  | its (l : List It)
def gatherB : List ItO → List It → Bool → ItsO
  | [], acc, bad => if bad = true then .bad 7 else .its acc
  | .bad q :: r, acc, _ => if q = 6 then .bad 6 else gatherB r acc true
  | .it x :: r, acc, bad => gatherB r (acc ++ [x]) bad
def itsB (l : List Nd) (R : List UInt8 → Int × Bool) (many most : Int) : ItsO :=
  match chanB l with
  | none => .bad 5
  | some c => if many < (namedB l c itemL).length then .bad 6 else gatherB ((namedB l c itemL).map fun i => itO (fieldB l i) R most) [] false
theorem itO_cases (F : List UInt8 → Option (List UInt8)) (R : List UInt8 → Int × Bool) (most : Int) : itO F R most = .bad 6 ∨ itO F R most = .bad 7 ∨ ∃ x, itO F R most = .it x := by
  unfold itO
  by_cases h1 : shortB (oneB F R) most = false
  · rw [if_pos h1]; exact Or.inl rfl
  · rw [if_neg h1]
    by_cases h2 : (oneB F R).guid = [] ∨ lateB F R = true
    · rw [if_pos h2]; exact Or.inr (Or.inl rfl)
    · rw [if_neg h2]; exact Or.inr (Or.inr ⟨_, rfl⟩)
theorem kidsB_nodup (l : List Nd) (i : Int) : (kidsB l i).Nodup := by
  unfold kidsB
  split
  · unfold kidsTo
    refine List.Pairwise.map _ (R := (· ≠ ·)) ?_ (List.Pairwise.filter _ List.nodup_range)
    intro a b h; omega
  · exact List.nodup_nil
theorem namedB_nodup (l : List Nd) (i : Int) (nm : List UInt8) : (namedB l i nm).Nodup := by
  unfold namedB
  split
  · exact List.nodup_nil
  · exact List.Pairwise.filter _ (kidsB_nodup l i)
theorem namedB_bd {l : List Nd} {i j : Int} {nm : List UInt8} (h : j ∈ namedB l i nm) : placeB l j = true ∧ upN l j = i ∧ j ≠ i ∧ placeB l i = true := by
  unfold namedB at h
  split at h
  · cases h
  · exact kidsB_bd (List.mem_filter.1 h).1
theorem namedB_len (l : List Nd) (i : Int) (nm : List UInt8) : (namedB l i nm).length ≤ l.length := by
  unfold namedB
  split
  · simp
  · refine Nat.le_trans (List.length_filter_le _ _) ?_
    unfold kidsB
    split
    · exact kidsTo_len _ _ _
    · simp
theorem chanB_place {l : List Nd} {c : Int} (h : chanB l = some c) : 0 ≤ c ∧ c < l.length := by
  unfold chanB at h
  split at h
  · cases h
  · unfold firstB at h
    have := namedB_bd (List.mem_of_mem_head? h)
    exact place_iff.1 this.1

/-- A cell with a pointer in it is none of a text's. -/
theorem text_apart {w : World} {B b k : Nat} {t : TypeId} {x : Option Addr} {s : List UInt8} (hW : ArrAt w B t [.pointer x]) (h : w.cell? ⟨b, k, none⟩ = some (strV s)) : b ≠ B := fun e => by
  subst e
  rw [hW.cell] at h
  cases k with
  | zero => simp [strV] at h
  | succ k => simp at h
theorem AtSl.turned {w w' : World} {B : Nat} {t : TypeId} {x : Option Addr} {v : Value} {l : List At} (h : AtSl w v l) (hW : ArrAt w B t [.pointer x]) (ht : Turned (fun b => b = B) w w') : AtSl w' v l := by
  rcases h with h | ⟨b, off, c, hc, hv, h⟩
  · exact Or.inl h
  · refine Or.inr ⟨b, off, c, hc, hv, fun j hj => ?_⟩
    obtain ⟨h1, h2⟩ := h j hj
    have hb := ht.block b (World.block_lt_of_cell? w ⟨b, _, none⟩ h1) (text_apart hW h1)
    exact ⟨(World.cell?_of_block hb).trans h1, (World.cell?_of_block hb).trans h2⟩
theorem NdSl.turned {w w' : World} {B : Nat} {t : TypeId} {x : Option Addr} {v : Value} {P : List (Nd × Value)} (h : NdSl w v P) (hW : ArrAt w B t [.pointer x]) (ht : Turned (fun b => b = B) w w') : NdSl w' v P := by
  refine ⟨?_, fun p hp => (h.2 p hp).turned hW ht⟩
  rcases h.1 with k | ⟨b, off, c, hc, hv, k⟩
  · exact Or.inl k
  · refine Or.inr ⟨b, off, c, hc, hv, fun j hj => ?_⟩
    obtain ⟨d0, d1, d2, d3⟩ := k j hj
    have hb := ht.block b (World.block_lt_of_cell? w ⟨b, _, none⟩ d0) (text_apart hW d0)
    exact ⟨(World.cell?_of_block hb).trans d0, (World.cell?_of_block hb).trans d1, (World.cell?_of_block hb).trans d2, (World.cell?_of_block hb).trans d3⟩

theorem info_item : (Tryz.prog.info? 44).map (fun i => (i.zero, i.size, i.bytes)) = some (some (.agg #[.string ⟨#[]⟩, .string ⟨#[]⟩, .string ⟨#[]⟩, .string ⟨#[]⟩, .int .i64 0, .bool false]), 6, 80) := by kernel_rfl
def cellsI (l : List It) : List Value := l.flatMap itC
theorem cellsI_app (l : List It) (x : It) : cellsI (l ++ [x]) = cellsI l ++ itC x := by simp [cellsI]
/-- Entries in a row that the call itself made. -/
def OwnI (w : World) (B : Nat) (v : Value) (l : List It) : Prop := w.ownsRow B 44 6 v l.length (cellsI l)
/-- The fault that is noted, if one is. -/
def NoteAt (w : World) (B : Nat) (bad : Bool) : Prop :=
  ∃ x, ArrAt w B 50 [.pointer x] ∧ (bad = false → x = none) ∧ (bad = true → ∃ f, x = some ⟨f, 0, none⟩ ∧ FaultAt w f 0 (codeV 7))
theorem NoteAt.next {w w' : World} {B : Nat} {bad : Bool} (h : NoteAt w B bad) (hb : Below w.heap.size w w') : NoteAt w' B bad := by
  obtain ⟨x, h1, h2, h3⟩ := h
  exact ⟨x, h1.next hb, h2, fun e => by obtain ⟨f, e1, e2⟩ := h3 e; exact ⟨f, e1, e2.below hb⟩⟩
/-- The parts, as cut left them. -/
structure Ec (w0 wc : World) (g Wb : Nat) (pcs : List (Value × Int)) (os : List ItO) (most : Int) : Prop where
  arr : ArrAt wc g 54 (cellsQ pcs)
  nd : ∀ (i : Nat) (p : Value × Int), pcs[i]? = some p → ∃ Q : List (Nd × Value), NdSl wc p.1 Q ∧ Q.length ≤ 1000000 ∧ sumT (nodes Q) ≤ 2000000 ∧ os[i]? = some (itO (fieldB (nodes Q) p.2) r822C most)
  note : ArrAt wc Wb 50 [.pointer none]
  low : w0.heap.size ≤ Wb
  below : Below w0.heap.size w0 wc
  len : pcs.length = os.length
/-- What the loop of Items keeps. -/
structure Em (wc : World) (Wb : Nat) (os : List ItO) (k : Nat) (v : Value) (acc : List It) (bad : Bool) (w : World) : Prop where
  tur : Turned (fun b => b = Wb) wc w
  own : OwnI w wc.heap.size v acc
  note : NoteAt w Wb bad
  gat : gatherB os [] false = gatherB (os.drop k) acc bad
  few : acc.length ≤ k
section
variable {w0 wc w w' : World} {g Wb : Nat} {pcs : List (Value × Int)} {os : List ItO} {most : Int} {k : Nat} {v : Value} {acc : List It} {bad : Bool}
theorem Em.below (h : Em wc Wb os k v acc bad w) (hc : Ec w0 wc g Wb pcs os most) : Below w0.heap.size w0 w :=
  hc.below.trans (h.tur.below (fun i _ e => by have e : i = Wb := e; have := hc.low; omega) hc.below.size)
theorem Em.arr (h : Em wc Wb os k v acc bad w) (hc : Ec w0 wc g Wb pcs os most) : ArrAt w g 54 (cellsQ pcs) := hc.arr.turned h.tur (arr_apart hc.arr hc.note (by decide))
theorem Em.nd (h : Em wc Wb os k v acc bad w) (hc : Ec w0 wc g Wb pcs os most) {i : Nat} {p : Value × Int} (hp : pcs[i]? = some p) : ∃ Q : List (Nd × Value), NdSl w p.1 Q ∧ Q.length ≤ 1000000 ∧ sumT (nodes Q) ≤ 2000000 ∧ os[i]? = some (itO (fieldB (nodes Q) p.2) r822C most) := by
  obtain ⟨Q, h1, h2⟩ := hc.nd i p hp
  exact ⟨Q, h1.turned hc.note h.tur, h2⟩
theorem Em.next (h : Em wc Wb os k v acc bad w) (hb : Below w.heap.size w w') : Em wc Wb os k v acc bad w' :=
  ⟨h.tur.trans (Turned.of_below (S := fun b => b = Wb) hb) fun _ _ e => e, ownsRow_below h.own hb, h.note.next hb, h.gat, h.few⟩
theorem drop_some {α : Type} {l : List α} {k : Nat} {x : α} (h : l[k]? = some x) : l.drop k = x :: l.drop (k + 1) := by
  obtain ⟨hlt, rfl⟩ := List.getElem?_eq_some_iff.1 h
  exact List.drop_eq_getElem_cons hlt
theorem Em.item {x : It} {v' : Value} (h : Em wc Wb os k v acc bad w) (hx : os[k]? = some (.it x)) (h1 : w'.ownsRow wc.heap.size 44 6 v' (acc.length + 1) (cellsI acc ++ itC x)) (h2 : w.grownBy w' v.ownBlock) : Em wc Wb os (k + 1) v' (acc ++ [x]) bad w' := by
  have hT := Turned.of_grown (S := fun b => v.ownBlock = some b) h2 fun _ e => e
  obtain ⟨y, n1, n2, n3⟩ := h.note
  have hnw := own_ne_arr h.own n1 (by decide)
  refine ⟨h.tur.trans hT fun i hi e => ?_, ?_, ⟨y, n1.turned hT hnw, n2, fun e => ?_⟩, ?_, by simp; have := h.few; omega⟩
  · have := (h.own.lt i e).1; omega
  · unfold OwnI; rw [cellsI_app]; simpa using h1
  · obtain ⟨f, e1, e2⟩ := n3 e
    exact ⟨f, e1, ArrAt.turned e2 hT (own_ne_arr h.own e2 (by decide))⟩
  · rw [h.gat, drop_some hx]; rfl
theorem Em.wrong {q : Int} {f : Nat} (h : Em wc Wb os k v acc bad w) (hx : os[k]? = some (.bad q)) (hq : q ≠ 6) (hf : FaultAt w f 0 (codeV 7)) : Em wc Wb os (k + 1) v acc true (w.setCell ⟨Wb, 0, none⟩ (.pointer (some ⟨f, 0, none⟩))) := by
  obtain ⟨y, n1, n2, n3⟩ := h.note
  have hT := turned_setCell w ⟨Wb, 0, none⟩ (.pointer (some ⟨f, 0, none⟩))
  refine ⟨h.tur.trans hT fun _ _ e => e, ownsRow_turned h.own hT fun b e e2 => own_ne_arr h.own n1 (by decide) (e.trans (congrArg some e2)), ⟨_, n1.set 0 _, nofun, fun _ => ⟨f, rfl, ArrAt.turned hf hT (arr_apart hf n1 (by decide))⟩⟩, ?_, by have := h.few; omega⟩
  rw [h.gat, drop_some hx]
  show (if q = 6 then _ else _) = _
  rw [if_neg hq]
end
end Go.Proofs.YtfmlgfeldlnlgaaGreatDoor

/- Layer 14: the nodes of a document, plain; those of the law's own. -/
namespace Go.Proofs.YtfmlgfeldlnlgaaGreatDoor
open Go.RowKit

/-- The nodes of a document: none, if it is bad. -/
def docN (dep : Int) (l : List UInt8) : List Nd := (buildB (tokR dep l).ts).getD []
def wake1 : List UInt8 := [60, 114, 115, 115, 62, 60, 99, 104, 97, 110, 110, 101, 108, 62, 60, 105, 116, 101, 109, 62, 60, 103, 117, 105, 100, 62, 103, 60, 47, 103, 117, 105, 100, 62, 60, 116, 105, 116, 108, 101, 62, 32, 65, 32, 38, 97, 109, 112, 59, 108, 116, 59, 32, 66, 32, 60, 47, 116, 105, 116, 108, 101, 62, 60, 112, 117, 98, 68, 97, 116, 101, 62, 50, 32, 74, 97, 110, 32, 48, 54, 32, 49, 48, 58, 48, 52, 32, 69, 83, 84, 60, 47, 112, 117, 98, 68, 97, 116, 101, 62, 60, 47, 105, 116, 101, 109, 62, 60, 47, 99, 104, 97, 110, 110, 101, 108, 62, 60, 47, 114, 115, 115, 62]
def wake2 : List UInt8 := [60, 114, 115, 115, 62, 60, 99, 104, 97, 110, 110, 101, 108, 62, 60, 105, 116, 101, 109, 47, 62, 60, 47, 99, 104, 97, 110, 110, 101, 108, 62, 60, 47, 114, 115, 115, 62]
def wake3 : List UInt8 := [60, 102, 101, 101, 100, 47, 62]
def wakeIt : It := ⟨[103], [65, 32, 60, 32, 66], [], [], 1136214240, true⟩
theorem wake_one : itsB (docN 30 wake1) r822C 5 50 = .its [wakeIt] := by kernel_rfl
theorem wake_two : itsB (docN 30 wake1) r822C 0 50 = .bad 6 := by kernel_rfl
theorem wake_three : itsB (docN 30 wake2) r822C 5 50 = .bad 7 := by kernel_rfl
theorem wake_four : itsB (docN 30 wake3) r822C 5 50 = .bad 5 := by kernel_rfl
theorem wake_sum : sumT (docN 30 wake1) ≤ 2000000 ∧ sumT (docN 30 wake2) ≤ 2000000 ∧ sumT (docN 30 wake3) ≤ 2000000 := by
  refine ⟨?_, ?_, ?_⟩ <;> exact of_decide_eq_true (by kernel_rfl)
theorem wake_len : (docN 30 wake1).length ≤ 1000 ∧ (docN 30 wake2).length ≤ 1000 ∧ (docN 30 wake3).length ≤ 1000 := by
  refine ⟨?_, ?_, ?_⟩ <;> exact of_decide_eq_true (by kernel_rfl)
end Go.Proofs.YtfmlgfeldlnlgaaGreatDoor

/- Layer 14: the nodes of a document. -/
namespace Go.Proofs.YtfmlgfeldlnlgaaGreatDoor
open Go.RowKit

theorem cellsK_at : ∀ (P : List (Tk × Value)) (j : Nat) (h : j < P.length), (cellsK P)[j * 4]? = some (.int .i64 (P[j]'h).1.kind) ∧ (cellsK P)[j * 4 + 1]? = some (strV (P[j]'h).1.name) ∧ (cellsK P)[j * 4 + 2]? = some (P[j]'h).2 ∧ (cellsK P)[j * 4 + 3]? = some (strV (P[j]'h).1.text)
  | [], j, h => by simp at h
  | x :: t, 0, _ => ⟨rfl, rfl, rfl, rfl⟩
  | x :: t, j + 1, h => by
    have := cellsK_at t j (by simpa using h)
    have e : cellsK (x :: t) = .int .i64 x.1.kind :: strV x.1.name :: x.2 :: strV x.1.text :: cellsK t := rfl
    have e1 : ∀ i, (cellsK (x :: t))[(j + 1) * 4 + i]? = (cellsK t)[j * 4 + i]? := fun i => by
      rw [e, show (j + 1) * 4 + i = (j * 4 + i) + 1 + 1 + 1 + 1 by omega]; simp only [List.getElem?_cons_succ]
    have e0 := e1 0
    rw [Nat.add_zero, Nat.add_zero] at e0
    rw [e0, e1, e1, e1]
    simpa using this
/-- Tokens that the call itself made can be read. -/
theorem Tks.sl {w : World} {B : Nat} {v : Value} {P : List (Tk × Value)} (h : Tks w B v P) : TkSl w v P := by
  refine ⟨?_, fun p hp => Ats.sl (h.ats p hp)⟩
  have hcg := fun g hv => World.ownsRow.cells h.row (g := g) hv
  rcases h.row.2 with ⟨hv, hn⟩ | ⟨g, cap, cur, hv, _, _, hcap, _⟩
  · obtain ⟨a, c, e⟩ := own_form h.row
    have h0 : P = [] := List.length_eq_zero_iff.1 hn
    rw [hn] at e
    exact Or.inl ⟨h0, a, c, e⟩
  · have hob : v.ownBlock = some g := by rw [hv]; rfl
    refine Or.inr ⟨g, 0, cap, hcap, hv, fun j hj => ?_⟩
    obtain ⟨e0, e1, e2, e3⟩ := cellsK_at P j hj
    have hadd : ∀ i, (⟨g, 0, none⟩ : Addr).add i = ⟨g, i, none⟩ := fun i => by unfold Addr.add; split <;> simp_all
    have h0 := hcg g hob _ _ e0
    have h1 := hcg g hob _ _ e1
    have h2 := hcg g hob _ _ e2
    have h3 := hcg g hob _ _ e3
    rw [hadd] at h0 h1 h2 h3
    rw [Nat.zero_add]
    exact ⟨h0, h1, h2, h3⟩
def DocPost (l : List Nd) (w : World) (e : Ending) (w' : World) : Prop := ∃ v P, e = .returned v ∧ NdSl w' v P ∧ nodes P = l ∧ Below w.heap.size w w'

theorem ndSl_nil (w : World) : NdSl w (.slice none 0 0) [] := ⟨Or.inl ⟨rfl, none, 0, rfl⟩, fun p hp => by cases hp⟩
theorem tkSl_nil (w : World) : TkSl w (.slice none 0 0) [] := ⟨Or.inl ⟨rfl, none, 0, rfl⟩, fun p hp => by cases hp⟩
/-- What Build says, as nodes. -/
theorem RefPost12.nodes {w w' : World} {o : Option (List Nd)} {e : Ending} (h : RefPost12 w o e w') : ∃ v q P, e = .returned (.tuple #[v, .int .i64 q]) ∧ NdSl w' v P ∧ nodes P = o.getD [] ∧ Below w.heap.size w w' := by
  cases o with
  | some l => obtain ⟨v, P, h1, h2, h3, h4⟩ := h; exact ⟨v, 0, P, h1, h2, h3, h4⟩
  | none => exact ⟨_, 2, [], h.1, ndSl_nil _, rfl, h.2⟩
theorem TrPost.toks {w w' : World} {r : OutR} {e : Ending} (h : TrPost w r e w') : ∃ v q P, e = .returned (.tuple #[v, .int .i64 q]) ∧ TkSl w' v P ∧ P.map Prod.fst = r.ts ∧ Below w.heap.size w w' := by
  cases r with
  | toks t => obtain ⟨⟨v, P, h1, h2, h3⟩, h4⟩ := h; exact ⟨v, 0, P, h1, h2.sl, h3, h4⟩
  | bad q => exact ⟨_, q, [], h.1, tkSl_nil _, rfl, h.2⟩

set_option maxHeartbeats 1000000 in
theorem nodes14_any (l : List UInt8) (w : World) (hl : l.length ≤ 50000) : Calls Tryz.prog 12 #[.string ⟨l.toArray⟩] w (DocPost (docN 30 l) w) := by
  have ht := (rtokens_any l 30 w (by omega)).mono fun e w' h => h.toks
  have hlen := (tokR_len 30 l).1
  unfold docN
  generalize (tokR 30 l).ts = t at ht hlen
  replace ht := Lib.hid ht
  go_enter Tryz.func12, Tryz.ntmps12
  go_wp2_with fail
  refine ht.out.mono ?_
  rintro e w1 ⟨v, q, P, rfl, hT, rfl, hb⟩
  rw [List.length_map] at hlen
  have hB := Lib.hid ((refbuild12_any P v w1 hT (by omega)).mono fun e w' h => h.nodes)
  replace hb := Lib.hid hb
  clear hT ht
  go_wp2_with fail
  refine hB.out.mono ?_
  rintro e w2 ⟨v2, q2, P2, rfl, h2, hP2, hb2⟩
  have hb3 := Lib.hid (hb.out.andThen hb2)
  replace h2 := Lib.hid h2
  replace hP2 := Lib.hid hP2
  clear hb2
  go_wp2_with fail
  go_ret
  exact ⟨_, P2, rfl, h2.out, hP2.out, hb3.out⟩
end Go.Proofs.YtfmlgfeldlnlgaaGreatDoor

/- Layer 14: Items. -/
namespace Go.Proofs.YtfmlgfeldlnlgaaGreatDoor
open Go.RowKit

/-- What Items answers. -/
def ItsPost (w : World) (o : ItsO) (e : Ending) (w' : World) : Prop :=
  match o with
  | .bad q => ∃ f, e = .returned (.tuple #[.slice none 0 0, faultV f]) ∧ FaultAt w' f 0 (codeV q) ∧ Below w.heap.size w w'
  | .its l => ∃ v, e = .returned (.tuple #[v, .nilIface]) ∧ OwnI w' w.heap.size v l ∧ Below w.heap.size w w'
theorem ItsPost.bad {w w' : World} {q : Int} {f : Nat} (hf : FaultAt w' f 0 (codeV q)) (hb : Below w.heap.size w w') : ItsPost w (.bad q) (.returned (.tuple #[.slice none 0 0, faultV f])) w' := ⟨f, rfl, hf, hb⟩

set_option maxRecDepth 100000 in
set_option maxHeartbeats 4000000 in
theorem items14_any (P : List (Nd × Value)) (v : Value) (many most : Int) (w : World) (h : NdSl w v P) (hn : P.length ≤ 1000000) (hT : sumT (nodes P) ≤ 2000000) (hE : Env13 w) (hY : EnvT w) :
    Calls Tryz.prog 8 #[v, .int .i64 many, .int .i64 most] w (ItsPost w (itsB (nodes P) r822C many most)) := by
  obtain ⟨o, ho⟩ : ∃ o, itsB (nodes P) r822C many most = o := ⟨_, rfl⟩
  rw [ho]
  unfold itsB at ho
  have hch := channel14_any P v w h hn
  have hnx := fun W (hb : Below w.heap.size w W) => h.next hb
  obtain ⟨a, ac, hv⟩ := h.form
  cases hcB : chanB (nodes P) with
  | none =>
    rw [hcB] at hch ho
    subst ho
    replace hch := Lib.hid hch
    clear hnx h
    subst hv
    go_enter Tryz.func8, Tryz.ntmps8
    go_wp2_with fail
    refine hch.out.mono ?_
    rintro e w1 ⟨rfl, hb⟩
    replace hb := Lib.hid hb
    go_wp2_with fail
    refine (fault14_any 5 _).mono ?_
    rintro e w2 ⟨rfl, hf, hb2⟩
    have hb3 := Lib.hid (hb.out.andThen hb2)
    replace hf := Lib.hid hf
    clear hb2
    go_wp2_with fail
    go_ret2
    exact ItsPost.bad hf.out hb3.out
  | some c =>
    rw [hcB] at hch ho
    simp only at ho
    have hcp := chanB_place hcB
    rw [nodes_len] at hcp
    obtain ⟨cn, rfl⟩ : ∃ cn : Nat, c = (cn : Int) := ⟨c.toNat, by omega⟩
    have hcl : cn < P.length := by omega
    have hp0 : 0 < P.length := by omega
    have hnm := fun W (hb : Below w.heap.size w W) => named12_any P v cn itemL W (hnx W hb) hn
    have hSn := namedB_nodup (nodes P) cn itemL
    have hSb : ∀ x ∈ namedB (nodes P) cn itemL, placeB (nodes P) x = true ∧ upN (nodes P) x = (cn : Int) ∧ x ≠ (cn : Int) := fun x hx => ⟨(namedB_bd hx).1, (namedB_bd hx).2.1, (namedB_bd hx).2.2.1⟩
    have hSl := namedB_len (nodes P) cn itemL
    rw [nodes_len] at hSl
    generalize namedB (nodes P) cn itemL = S at ho hnm hSn hSb hSl
    have hcut := fun W u (hb : Below w.heap.size w W) (hu : RdSl .i64 W u S) => cut14_any P v u cn S W (hnx W hb) hu hp0 hn hcl hSb hSn (by omega)
    obtain ⟨os, hos⟩ : ∃ os, S.map (fun i => itO (fieldB (nodes P) i) r822C most) = os := ⟨_, rfl⟩
    rw [hos] at ho
    have hol : os.length = S.length := by rw [← hos, List.length_map]
    have hPn := hn
    unfold itemL at hnm
    subst hv
    replace ho := Lib.hid ho
    replace hch := Lib.hid hch
    replace hnm := Lib.hid hnm
    replace hnx := Lib.hid hnx
    replace hcut := Lib.hid hcut
    replace hSb := Lib.hid hSb
    replace hSn := Lib.hid hSn
    replace hos := Lib.hid hos
    replace hE := Lib.hid hE
    replace hY := Lib.hid hY
    replace h := Lib.hid h
    clear hcB hcp
    have hS1 : (S.length : Int) ≤ 1000000 := by omega
    by_cases hm : many < (S.length : Int)
    · have ho6 := ho.out
      rw [if_pos hm] at ho6
      subst ho6
      clear ho
      go_enter Tryz.func8, Tryz.ntmps8
      go_wp2_with fail
      refine hch.out.mono ?_
      rintro e w1 ⟨rfl, hb⟩
      clear hch
      replace hb := Lib.hid hb
      go_wp2_with fail
      refine (hnm.out w1 hb.out).mono ?_
      rintro e w2 ⟨u, rfl, hu, hb2⟩
      obtain ⟨ua, uc, rfl⟩ := own_form hu
      have hb3 := Lib.hid (hb.out.andThen hb2)
      clear hb2 hu hnm
      go_wp2_with fail
      refine (fault14_any 6 _).mono ?_
      rintro e w3 ⟨rfl, hf, hb4⟩
      have hb5 := Lib.hid (hb3.out.andThen hb4)
      replace hf := Lib.hid hf
      clear hb4
      go_wp2_with fail
      go_ret2
      exact ItsPost.bad hf.out hb5.out
    · have ho6 := ho.out
      rw [if_neg hm] at ho6
      replace ho := Lib.hid ho6
      clear ho6
      go_enter Tryz.func8, Tryz.ntmps8
      go_wp2_with fail
      refine hch.out.mono ?_
      rintro e w1 ⟨rfl, hb⟩
      clear hch
      replace hb := Lib.hid hb
      go_wp2_with fail
      refine (hnm.out w1 hb.out).mono ?_
      rintro e w2 ⟨u, rfl, hu, hb2⟩
      obtain ⟨ua, uc, rfl⟩ := own_form hu
      have hb3 := Lib.hid (hb.out.andThen hb2)
      have hn0 := arrAt_new w2 50 [.pointer none]
      have hbn : Below w2.heap.size w2 (w2.alloc (.cells #[.pointer none] 50)) := (Below.refl _ _).alloc (Nat.le_refl _) _
      have hct := hcut.out (w2.alloc (.cells #[.pointer none] 50)) _ (hb3.out.andThen hbn) (hu.rd.next hbn)
      have hlw0 := hb3.out.size
      clear hb2 hu hnm hcut
      replace hb3 := Lib.hid (hb3.out.andThen hbn)
      have hlw := hb3.out.size
      replace hlw : w.heap.size ≤ w2.heap.size := hlw0
      clear hbn
      replace hn0 := Lib.hid hn0
      replace hct := Lib.hid hct
      go_wp2_with fail
      refine hct.out.mono ?_
      rintro e wc ⟨g, pcs, rfl, hA, hpl, hpc, hb4⟩
      clear hct
      obtain ⟨Wb, hWb⟩ : ∃ Wb, w2.heap.size = Wb := ⟨_, rfl⟩
      rw [hWb] at hn0 hlw
      rw [hWb]
      replace hWb := Lib.hid hWb
      have hEc : Hid (Ec w wc g Wb pcs os most) := ⟨hA.out, fun i p hp => by
        obtain ⟨Q, q1, q2, q3, q4⟩ := hpc.out i p hp
        refine ⟨Q, q1, by omega, by omega, ?_⟩
        have hi : i < S.length := by rw [← hpl.out]; exact (List.getElem?_eq_some_iff.1 hp).1
        rw [← hos.out, List.getElem?_map, List.getElem?_eq_getElem hi, show fieldB (nodes Q) p.2 = fieldB (nodes P) (S.getD i 0) from funext q4]
        simp [List.getD, hi], hn0.out.next hb4.out, hlw, hb3.out.andThen hb4.out, by rw [hpl.out, hol]⟩
      have hEm : Hid (Em wc Wb os 0 (.slice none 0 0) [] false wc) := ⟨Turned.refl _ _, World.ownsRow_nil _ _ _ _, ⟨none, hEc.out.note, fun _ => rfl, nofun⟩, rfl, Nat.le_refl _⟩
      clear hA hpl hpc hn0 hb4 hb hb3
      go_wp2_with fail
      go_loopw [11, 38] (fun vi ii wr => ∃ (k m : Nat) (a' : Option Addr) (c' : Nat) (acc : List It) (bad : Bool), vi = .slice a' m c' ∧ ii = .int .i64 k ∧ k ≤ S.length ∧ Hid (m = acc.length) ∧ Hid (Em wc Wb os k vi acc bad wr)) (fun _ ii _ => S.length - (intOf ii).toNat)
      case atStart => exact ⟨0, 0, none, 0, [], false, rfl, rfl, Nat.zero_le _, rfl, hEm⟩
      case round =>
        clear hEm
        obtain ⟨k, m, a', c', acc, bad, rfl, rfl, hk, hmm, hM⟩ := hrel
        by_cases hlt : k < S.length
        · have hlt1 : (k : Int) < S.length := by omega
          obtain ⟨⟨pv, pz⟩, hp⟩ : ∃ p, pcs[k]? = some p := ⟨_, List.getElem?_eq_getElem (by rw [hEc.out.len]; omega)⟩
          obtain ⟨Q, q1, q2, q3, hx⟩ := hM.out.nd hEc.out hp
          have hA := hM.out.arr hEc.out
          obtain ⟨e0, e1⟩ := cellsQ_at pcs k _ hp
          have c0 : wr.cell? ⟨g, k * 2, none⟩ = some pv := (hA.cell _).trans e0
          have c1 : wr.cell? ⟨g, k * 2 + 1, none⟩ = some (.int .i64 pz) := (hA.cell _).trans e1
          clear e0 e1 hA
          simp only at q1 hx
          obtain ⟨pa, pc, rfl⟩ := q1.form
          have hbx : Below wr.heap.size wr (wr.alloc (.cells #[.slice pa Q.length pc, .int .i64 pz] 54)) := (Below.refl _ _).alloc (Nat.le_refl _) _
          have hM1 := Lib.hid (Em.next hM.out hbx)
          have hen := entry14_any Q _ pz most _ (q1.next hbx) q2 q3 (hE.out.below (hM1.out.below hEc.out))
          have hcs := itO_cases (fieldB (nodes Q) pz) r822C most
          generalize itO (fieldB (nodes Q) pz) r822C most = oo at hen hx hcs
          clear q1 hbx hM
          replace hp := Lib.hid hp
          replace hx := Lib.hid hx
          have hmk : m ≤ k := by rw [hmm.out]; exact hM1.out.few
          rcases hcs with rfl | rfl | ⟨x, rfl⟩
          · replace hen := Lib.hid hen
            go_wp2_with fail
            refine hen.out.mono ?_
            rintro e w4 ⟨f, rfl, -, hf, hb4⟩
            clear hen c0 c1
            have hM2 := Em.next hM1.out hb4
            have hbx : Below w4.heap.size w4 (w4.alloc (.cells (itC it0).toArray 44)) := (Below.refl _ _).alloc (Nat.le_refl _) _
            have hM3 := Lib.hid (Em.next hM2 hbx)
            have hf3 := hf.below hbx
            have hI := is11_fault f 6 6 _ (ArrAt.cell hf3 1)
            replace hf3 := Lib.hid hf3
            replace hI := Lib.hid hI
            clear hM1 hM2 hbx hf hb4
            unfold itV faultV itC it0 strV
            simp only
            go_wp2_with fail
            refine hI.out.mono ?_
            rintro e w5 ⟨rfl, rfl⟩
            clear hI
            go_wp2_with fail
            go_ret2
            rw [show o = .bad 6 from ho.out.symm.trans (hM3.out.gat.trans (by rw [drop_some hx.out]; rfl))]
            exact ItsPost.bad hf3.out (hM3.out.below hEc.out)
          · replace hen := Lib.hid hen
            go_wp2_with fail
            refine hen.out.mono ?_
            rintro e w4 ⟨f, rfl, -, hf, hb4⟩
            clear hen c0 c1
            have hM2 := Em.next hM1.out hb4
            have hbx : Below w4.heap.size w4 (w4.alloc (.cells (itC it0).toArray 44)) := (Below.refl _ _).alloc (Nat.le_refl _) _
            have hM3 := Lib.hid (Em.next hM2 hbx)
            have hf3 := hf.below hbx
            have hI := is11_fault f 7 6 _ (ArrAt.cell hf3 1)
            obtain ⟨y, n1, -, -⟩ := hM3.out.note
            have hAs := as11_fault f Wb _ _ (n1.cell 0) (n1.soft 0) (hY.out.below (hM3.out.below hEc.out))
            replace hf3 := Lib.hid hf3
            replace hI := Lib.hid hI
            replace hAs := Lib.hid hAs
            clear hM1 hM2 hbx hf hb4 n1
            unfold itV faultV itC it0 strV
            simp only
            go_wp2_with fail
            refine hI.out.mono ?_
            rintro e w5 ⟨rfl, rfl⟩
            clear hI
            go_wp2_with fail
            refine hAs.out.mono ?_
            rintro e w5 ⟨rfl, w6, hb6, rfl⟩
            have hM4 := Lib.hid (Em.wrong (Em.next hM3.out hb6) hx.out (by decide) (hf3.out.below hb6))
            clear hAs hM3 hf3 hb6
            go_wp2_with fail
            exact ⟨⟨k + 1, m, a', c', acc, true, rfl, by go_num, by omega, hmm, hM4⟩, by simp [intOf]; omega⟩
          · replace hen := Lib.hid hen
            go_wp2_with fail
            refine hen.out.mono ?_
            rintro e w4 ⟨rfl, hb4⟩
            clear hen c0 c1
            have hM2 := Em.next hM1.out hb4
            have hbx : Below w4.heap.size w4 (w4.alloc (.cells (itC x).toArray 44)) := (Below.refl _ _).alloc (Nat.le_refl _) _
            have hM3 := Lib.hid (Em.next hM2 hbx)
            have hrow := Lib.hid hM3.out.own
            unfold OwnI at hrow
            have hwc := hM3.out.tur.size
            clear hM1 hM2 hbx hb4
            obtain ⟨xg, xt, xl, xb, xd, xk⟩ := x
            unfold itV
            unfold itC strV
            unfold itC strV at hM3 hrow hwc
            simp only at hM3 hrow hwc ⊢
            go_wp2_with fail
            refine (is14_nil 6 _).mono ?_
            rintro e w5 ⟨rfl, rfl⟩
            go_wp2_with fail
            refine (as11_nil _ _).mono ?_
            rintro e w5 ⟨rfl, rfl⟩
            have hal : acc.length ≤ 1000000 := by rw [← hmm.out]; omega
            go_wp2_with (at_builtin; go_must (refine wpList_appendk rfl _ _ 24 44 rfl Tryz.underlying24 (.agg #[.string ⟨#[]⟩, .string ⟨#[]⟩, .string ⟨#[]⟩, .string ⟨#[]⟩, .int .i64 0, .bool false]) 6 80 info_item rfl (by decide) (by decide) wc.heap.size _ acc.length (cellsI acc) [.string ⟨xg.toArray⟩, .string ⟨xt.toArray⟩, .string ⟨xl.toArray⟩, .string ⟨xb.toArray⟩, .int .i64 xd, .bool xk] rfl hrow.out rfl (by first | rfl | simp [Act.eval]) (by intro u hu; simp at hu; rcases hu with rfl | rfl | rfl | rfl | rfl | rfl <;> rfl) (by omega) hwc ?_))
            intro v2 w7 h1 h2 h3
            have hM4 := Em.item hM3.out hx.out h1.out h2.out
            obtain ⟨a2, c2, rfl⟩ := own_form h1.out
            clear h1 h2 h3 hrow hM3
            replace hM4 := Lib.hid hM4
            go_wp2_with fail
            exact ⟨⟨k + 1, acc.length + 1, a2, c2, _, bad, rfl, by go_num, by omega, Lib.hid (by simp), hM4⟩, by simp [intOf]; omega⟩
        · have hlt2 : ¬ ((k : Int) < S.length) := by omega
          have hdr : os.drop k = [] := List.drop_eq_nil_of_le (by omega)
          have hgo := ho.out.symm.trans hM.out.gat
          rw [hdr] at hgo
          obtain ⟨y, n1, n2, n3⟩ := hM.out.note
          have n0 := n1.cell 0
          have hown := Lib.hid (ownsRow_mono hM.out.own hEc.out.below.size)
          have hbl := Lib.hid (hM.out.below hEc.out)
          replace n1 := Lib.hid n1
          cases bad with
          | false =>
            obtain rfl := n2 rfl
            clear n2 n3
            replace hgo := Lib.hid hgo
            go_wp2_with fail
            go_ret2
            rw [show o = .its acc from hgo.out]
            exact ⟨_, rfl, by unfold OwnI; exact hmm.out ▸ hown.out, hbl.out⟩
          | true =>
            obtain ⟨f, rfl, hf⟩ := n3 rfl
            clear n2 n3
            replace hgo := Lib.hid hgo
            replace hf := Lib.hid hf
            go_wp2_with fail
            go_quiet (fail)
            go_wp2_with fail
            go_ret2
            rw [show o = .bad 7 from hgo.out]
            have hdn := (drawn_drewN wr nq).below wr.heap.size
            exact ItsPost.bad (hf.out.below hdn) (hbl.out.andThen hdn)
end Go.Proofs.YtfmlgfeldlnlgaaGreatDoor
