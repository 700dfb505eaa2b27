/- Layers 14 and 15: the rows of an entry. -/
import Derived.Test.YtkjjjbipmobdaaaGreatDoorBR20
namespace Go.Proofs.YtkjjjbipmobdaaaGreatDoor
open Go.RowKit

theorem row14 {w : World} {b : Nat} {x : It} {t : TypeId} (h : ArrAt w b t (itC x)) : (w.cell? ⟨b, 0, none⟩ = some (strV x.guid) ∧ w.frozen? ⟨b, 0, none⟩ = false) ∧ (w.cell? ⟨b, 1, none⟩ = some (strV x.title) ∧ w.frozen? ⟨b, 1, none⟩ = false) ∧ (w.cell? ⟨b, 2, none⟩ = some (strV x.link) ∧ w.frozen? ⟨b, 2, none⟩ = false) ∧ (w.cell? ⟨b, 3, none⟩ = some (strV x.body) ∧ w.frozen? ⟨b, 3, none⟩ = false) ∧ (w.cell? ⟨b, 4, none⟩ = some (.int .i64 x.date) ∧ w.frozen? ⟨b, 4, none⟩ = false) ∧ (w.cell? ⟨b, 5, none⟩ = some (.bool x.dated) ∧ w.frozen? ⟨b, 5, none⟩ = false) :=
  ⟨⟨h.cell 0, h.soft 0⟩, ⟨h.cell 1, h.soft 1⟩, ⟨h.cell 2, h.soft 2⟩, ⟨h.cell 3, h.soft 3⟩, ⟨h.cell 4, h.soft 4⟩, ⟨h.cell 5, h.soft 5⟩⟩
theorem row14_set {w : World} {b : Nat} {x : It} {t : TypeId} (h : ArrAt w b t (itC x)) (y : It) : ArrAt ((((((w.setCell ⟨b, 0, none⟩ (strV y.guid)).setCell ⟨b, 1, none⟩ (strV y.title)).setCell ⟨b, 2, none⟩ (strV y.link)).setCell ⟨b, 3, none⟩ (strV y.body)).setCell ⟨b, 4, none⟩ (.int .i64 y.date)).setCell ⟨b, 5, none⟩ (.bool y.dated)) b t (itC y) :=
  (((((h.set 0 _).set 1 _).set 2 _).set 3 _).set 4 _).set 5 _
theorem row14_zero {w : World} {b : Nat} {t : TypeId} (h : ArrAt w b t (itC it0)) : (w.cell? ⟨b, 0, none⟩ = some (.string ⟨#[]⟩) ∧ w.frozen? ⟨b, 0, none⟩ = false) ∧ (w.cell? ⟨b, 1, none⟩ = some (.string ⟨#[]⟩) ∧ w.frozen? ⟨b, 1, none⟩ = false) ∧ (w.cell? ⟨b, 2, none⟩ = some (.string ⟨#[]⟩) ∧ w.frozen? ⟨b, 2, none⟩ = false) ∧ (w.cell? ⟨b, 3, none⟩ = some (.string ⟨#[]⟩) ∧ w.frozen? ⟨b, 3, none⟩ = false) ∧ (w.cell? ⟨b, 4, none⟩ = some (.int .i64 0) ∧ w.frozen? ⟨b, 4, none⟩ = false) ∧ (w.cell? ⟨b, 5, none⟩ = some (.bool false) ∧ w.frozen? ⟨b, 5, none⟩ = false) := row14 h
/-- A row of an entry, set anew. -/
def setIt (w : World) (b : Nat) (y : It) : World := ((((((w.setCell ⟨b, 0, none⟩ (strV y.guid)).setCell ⟨b, 1, none⟩ (strV y.title)).setCell ⟨b, 2, none⟩ (strV y.link)).setCell ⟨b, 3, none⟩ (strV y.body)).setCell ⟨b, 4, none⟩ (.int .i64 y.date)).setCell ⟨b, 5, none⟩ (.bool y.dated))
theorem setIt_below {w0 w : World} {b : Nat} (y : It) (h : Below w0.heap.size w0 w) (hb : w0.heap.size ≤ b) : Below w0.heap.size w0 (setIt w b y) :=
  (((((h.setCell (p := ⟨b, 0, none⟩) hb _).setCell (p := ⟨b, 1, none⟩) hb _).setCell (p := ⟨b, 2, none⟩) hb _).setCell (p := ⟨b, 3, none⟩) hb _).setCell (p := ⟨b, 4, none⟩) hb _).setCell (p := ⟨b, 5, none⟩) hb _
theorem bad_end {w W : World} {B f : Nat} {q : Int} (hw : Below w.heap.size w W) (hB : w.heap.size ≤ B) (hr : ArrAt W B 40 (itC it0)) (hf : FaultAt W f 0 (codeV q)) (hlow : w.heap.size ≤ f) : ItPost w (.bad q) (.returned (.tuple #[itV it0, faultV f])) (setIt W B it0) := by
  have hne : f ≠ B := arr_apart hf hr (by decide)
  exact ⟨f, rfl, hlow, ((((((hf.far 0 _ hne).far 1 _ hne).far 2 _ hne).far 3 _ hne).far 4 _ hne).far 5 _ hne), setIt_below it0 hw hB⟩
theorem it_end {w W : World} {B : Nat} (x : It) (hw : Below w.heap.size w W) (hB : w.heap.size ≤ B) : ItPost w (.it x) (.returned (.tuple #[itV x, .nilIface])) (setIt W B x) := ⟨rfl, setIt_below x hw hB⟩
theorem itO_is {F : List UInt8 → Option (List UInt8)} {R : List UInt8 → Int × Bool} {most : Int} {s1 s2 s3 s4 : List UInt8} (h1 : (F guidL).getD [] = s1) (h2 : (F titleL).getD [] = s2) (h3 : (F linkL).getD [] = s3) (h4 : (F descL).getD [] = s4) :
    itO F R most = if shortB ⟨s1, s2, s3, s4, 0, false⟩ most = false then .bad 6 else match F pubL with
      | none => if s1 = [] then .bad 7 else .it ⟨s1, s2, s3, s4, 0, false⟩
      | some s => if s1 = [] ∨ (R s).2 = false then .bad 7 else .it ⟨s1, s2, s3, s4, (R s).1, (R s).2⟩ := by
  subst h1 h2 h3 h4
  have hs : shortB (oneB F R) most = shortB ⟨(F guidL).getD [], (F titleL).getD [], (F linkL).getD [], (F descL).getD [], 0, false⟩ most := rfl
  unfold itO lateB
  rw [hs]
  unfold oneB
  cases F pubL with
  | none => simp
  | some s => simp
/-- The rows of one's result and of its variable. -/
structure On (w0 : World) (x : It) (w : World) : Prop where
  r0 : ArrAt w w0.heap.size 40 (itC it0)
  r1 : ArrAt w (w0.heap.size + 1) 40 (itC x)
  below : Below w0.heap.size w0 w
section
variable {w0 w w' : World} {x : It}
theorem On.next (h : On w0 x w) (hb : Below w.heap.size w w') : On w0 x w' := ⟨h.r0.next hb, h.r1.next hb, h.below.andThen hb⟩
theorem On.set (h : On w0 x w) (k : Nat) (u : Value) (y : It) (e : (itC x).set k u = itC y) : On w0 y (w.setCell ⟨w0.heap.size + 1, k, none⟩ u) :=
  ⟨h.r0.far k u (by omega), e ▸ h.r1.set k u, h.below.setCell (p := ⟨w0.heap.size + 1, k, none⟩) (Nat.le_succ _) u⟩
theorem On.new (w : World) : On w it0 ((w.alloc (.cells (itC it0).toArray 40)).alloc (.cells (itC it0).toArray 40)) := by
  have h1 := arrAt_new w 40 (itC it0)
  have h2 := arrAt_new (w.alloc (.cells (itC it0).toArray 40)) 40 (itC it0)
  rw [show (w.alloc (.cells (itC it0).toArray 40)).heap.size = w.heap.size + 1 from by simp] at h2
  exact ⟨h1.next ((Below.refl _ _).alloc (Nat.le_refl _) _), h2, ((Below.refl _ _).alloc (Nat.le_refl _) _).alloc (by simp) _⟩
end
theorem FldPost.tells {w w' : World} {o : Option (List UInt8)} {e : Ending} {s : List UInt8} (h : FldPost w o e w') (hs : o.getD [] = s) : e = .returned (.tuple #[.string ⟨s.toArray⟩, .bool o.isSome]) ∧ Below w.heap.size w w' := by
  subst hs; exact h
theorem drew_below (w : World) : Below w.heap.size w w.drew := (drawn_drew w).below _
end Go.Proofs.YtkjjjbipmobdaaaGreatDoor
