/- Layer 17: what the law PrintBack keeps in memory, and what it asks of the reference's Parse. -/
import Derived.Test.YtahohmdbiiknoaaGreatDoorD17r
import Derived.Test.YtahohmdbiiknoaaGreatDoorBR35
import Derived.Test.YtahohmdbiiknoaaGreatDoorD17n
import Derived.Test.YtahohmdbiiknoaaGreatDoorD17u
namespace Go.Proofs.YtahohmdbiiknoaaGreatDoor
open Go.RowKit

/-- What the loop keeps: the entries as they are read, that they may be written, whether all have dates. -/
structure BkAt (w0 : World) (L : List It) (k : Nat) (dt : Bool) (v : Value) (w : World) : Prop where
  own : OwnI w w0.heap.size v ((L.take k).map cleanI)
  fine : ∀ x ∈ L.take k, Fine x ∧ GoodI x
  dat : dt = (L.take k).all fun x => x.dated
  below : Below w0.heap.size w0 w
theorem BkAt.next {w0 w w' : World} {L : List It} {k : Nat} {dt : Bool} {v : Value} (h : BkAt w0 L k dt v w) (hb : Below w.heap.size w w') : BkAt w0 L k dt v w' := ⟨ownsRow_below h.own hb, h.fine, h.dat, h.below.andThen hb⟩
theorem BkAt.begin (w : World) (L : List It) : BkAt w L 0 true (.slice none 0 0) w := ⟨World.ownsRow_nil _ _ _ _, fun _ h => by simp at h, by simp, Below.refl _ _⟩
theorem BkAt.step {w0 w w' : World} {L : List It} {k : Nat} {dt : Bool} {v v' : Value} {x : It} (h : BkAt w0 L k dt v w) (hx : L[k]? = some x) (hf : Fine x) (hg : GoodI x)
    (ho : w'.ownsRow w0.heap.size 26 6 v' (((L.take k).map cleanI).length + 1) (cellsI ((L.take k).map cleanI) ++ itC (cleanI x))) (hgr : w.grownBy w' v.ownBlock) : BkAt w0 L (k + 1) (dt && x.dated) v' w' := by
  obtain ⟨hk, hxe⟩ := List.getElem?_eq_some_iff.1 hx
  have e : L.take (k + 1) = L.take k ++ [x] := by rw [List.take_add_one, hx]; rfl
  refine ⟨?_, ?_, ?_, h.below.grown hgr h.below.size fun j hj => ((World.ownsRow.lt h.own) j hj).1⟩
  · unfold OwnI
    rw [e, List.map_append, List.length_append]
    show w'.ownsRow _ _ 6 v' _ (cellsI ((L.take k).map cleanI ++ [cleanI x]))
    rw [cellsI_app]
    exact ho
  · intro y hy
    rw [e] at hy
    rcases List.mem_append.1 hy with hy | hy
    · exact h.fine y hy
    · rw [List.mem_singleton] at hy; subst hy; exact ⟨hf, hg⟩
  · rw [e, List.all_append, h.dat]
    simp
/-- The numbers that the law hands over. -/
def p17 : Prm := ⟨0, 65536, 8, 0, 64, 1024, 0, 0, 0, 0, 0⟩
def Row11 (w : World) (b : Nat) : Prop := (w.cell? ⟨b, 0, none⟩ = some (.int .i64 0) ∧ w.cell? ⟨b, 1, none⟩ = some (.int .i64 65536) ∧ w.cell? ⟨b, 2, none⟩ = some (.int .i64 8) ∧ w.cell? ⟨b, 3, none⟩ = some (.int .i64 0) ∧ w.cell? ⟨b, 4, none⟩ = some (.int .i64 64) ∧ w.cell? ⟨b, 5, none⟩ = some (.int .i64 1024)) ∧ w.cell? ⟨b, 6, none⟩ = some (.int .i64 0) ∧ w.cell? ⟨b, 7, none⟩ = some (.int .i64 0) ∧ w.cell? ⟨b, 8, none⟩ = some (.int .i64 0) ∧ w.cell? ⟨b, 9, none⟩ = some (.int .i64 0) ∧ w.cell? ⟨b, 10, none⟩ = some (.int .i64 0)
theorem row11 {w : World} {b : Nat} (h : ArrAt w b 31 (prmC p17)) : Row11 w b := ⟨⟨h.cell 0, h.cell 1, h.cell 2, h.cell 3, h.cell 4, h.cell 5⟩, h.cell 6, h.cell 7, h.cell 8, h.cell 9, h.cell 10⟩
/-- Behind the loop: the numbers' row, slices of the entries as they are read. -/
structure Fk (w0 : World) (M : List It) (bp : Nat) (vs : List Value) (w : World) : Prop where
  p : ArrAt w bp 31 (prmC p17)
  own : ∀ v ∈ vs, ∃ B, OwnI w B v M
  below : Below w0.heap.size w0 w
section
variable {w0 w w' : World} {M : List It} {bp : Nat} {vs : List Value}
theorem Fk.next (h : Fk w0 M bp vs w) (hb : Below w.heap.size w w') : Fk w0 M bp vs w' := ⟨h.p.next hb, fun v hv => by obtain ⟨B, k⟩ := h.own v hv; exact ⟨B, ownsRow_below k hb⟩, h.below.andThen hb⟩
theorem Fk.more {v : Value} {B : Nat} (h : Fk w0 M bp vs w) (hv : OwnI w B v M) : Fk w0 M bp (v :: vs) w := ⟨h.p, fun u hu => (List.mem_cons.1 hu).elim (fun e => ⟨B, e ▸ hv⟩) fun hu => h.own u hu, h.below⟩
theorem Fk.drew (h : Hid (Fk w0 M bp vs w)) : Hid (Fk w0 M bp vs w.drew) := h.out.next ((drawn_drew w).below _)
/-- A document is printed. -/
theorem Fk.text {f : FuncId} {a : Array Value} {S : List UInt8} (hc : ∀ W, Below w0.heap.size w0 W → Calls Tryz.prog f a W (StrB W S)) (W : World) (h : Hid (Fk w0 M bp vs W)) :
    Calls Tryz.prog f a W fun e W' => e = .returned (.string ⟨S.toArray⟩) ∧ Row11 W' bp ∧ Hid (Fk w0 M bp vs W') :=
  (hc W h.out.below).mono fun _ _ hh => ⟨hh.1, row11 (h.out.next hh.2).p, h.out.next hh.2⟩
/-- A document is read: its entries. -/
theorem Fk.parse {S : List UInt8} {T : List Tk} {N : List Nd} (hl : S.length ≤ 50000) (hT : tokR 8 S = .toks T) (hN : buildB T = some N) (hI : nodesB N 64 1024 = .its M) (W : World) (h : Hid (Fk w0 M bp vs W)) :
    Calls Tryz.prog 10 #[.string ⟨S.toArray⟩, .agg #[.int .i64 0, .int .i64 65536, .int .i64 8, .int .i64 0, .int .i64 64, .int .i64 1024, .int .i64 0, .int .i64 0, .int .i64 0, .int .i64 0, .int .i64 0]] W
      fun e W' => ∃ a n c, e = .returned (.tuple #[.slice a n c, .int .i64 0]) ∧ Row11 W' bp ∧ Hid (Fk w0 M bp (.slice a n c :: vs) W') := by
  have := refparse16_any S p17 W T N (by decide) (by show ¬ ((65536 : Int) < (S.length : Int)); omega) hl hT hN
  refine this.mono fun e W' hh => ?_
  rw [show nodesB N p17.many p17.most = .its M from hI] at hh
  obtain ⟨v, rfl, hv, hb⟩ := hh.good
  obtain ⟨a, c, rfl⟩ := own_form hv
  exact ⟨a, _, c, rfl, row11 (h.out.next hb).p, (h.out.next hb).more hv⟩
/-- A document is read: one that isn't right. -/
theorem Fk.parse_no {S : List UInt8} {T : List Tk} {N : List Nd} (hl : S.length ≤ 50000) (hT : tokR 8 S = .toks T) (hN : buildB T = some N) (hI : nodesB N 64 1024 = .bad 7) (W : World) (h : Hid (Fk w0 M bp vs W)) :
    Calls Tryz.prog 10 #[.string ⟨S.toArray⟩, .agg #[.int .i64 0, .int .i64 65536, .int .i64 8, .int .i64 0, .int .i64 64, .int .i64 1024, .int .i64 0, .int .i64 0, .int .i64 0, .int .i64 0, .int .i64 0]] W
      fun e W' => e = .returned (.tuple #[.slice none 0 0, .int .i64 7]) ∧ Row11 W' bp ∧ Hid (Fk w0 M bp vs W') := by
  have := refparse16_any S p17 W T N (by decide) (by show ¬ ((65536 : Int) < (S.length : Int)); omega) hl hT hN
  refine this.mono fun e W' hh => ?_
  rw [show nodesB N p17.many p17.most = .bad 7 from hI] at hh
  obtain ⟨rfl, hb⟩ := hh.no
  exact ⟨rfl, row11 (h.out.next hb).p, h.out.next hb⟩
theorem Fk.same {u v : Value} (h : Fk w0 M bp vs w) (hu : u ∈ vs) (hv : v ∈ vs) (hM : M.length ≤ 1000000) : Calls Tryz.prog 13 #[u, v] w fun e w' => e = .returned (.bool true) ∧ Hid (Fk w0 M bp vs w') := by
  obtain ⟨A, k1⟩ := h.own u hu
  obtain ⟨B, k2⟩ := h.own v hv
  exact (same14_any M u v A B w k1 k2 hM).mono fun _ _ hh => ⟨hh.1, h.next (hh.2.below _)⟩
end
theorem nodes_rss {N : List Nd} {M : List It} (h : (atN N 0).name = rssL) (hI : itsB N r822C 64 1024 = .its M) : nodesB N 64 1024 = .its M := by
  unfold nodesB
  rw [if_neg (by rw [h]; decide)]
  exact hI
theorem nodes_atom {N : List Nd} {o : ItsO} (h : (atN N 0).name = feedL) (hI : itsA N r3339C 64 1024 = o) : nodesB N 64 1024 = o := by
  unfold nodesB
  rw [if_pos h]
  exact hI
end Go.Proofs.YtahohmdbiiknoaaGreatDoor
