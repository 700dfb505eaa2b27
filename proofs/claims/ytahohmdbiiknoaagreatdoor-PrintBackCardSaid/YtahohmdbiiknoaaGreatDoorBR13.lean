/- errors.As: of nil, and of a fault. -/
import Derived.Test.YtahohmdbiiknoaaGreatDoorBR12
import Derived.Test.YtahohmdbiiknoaaGreatDoorBR07
import Derived.Test.YtahohmdbiiknoaaGreatDoorBR09
import Derived.Test.YtahohmdbiiknoaaGreatDoorBR06
namespace Go.Proofs.YtahohmdbiiknoaaGreatDoor
open Go.RowKit Go.Extern.Stop Go.Stop Go.Extern

def rowType : Array Value → Sem Value := Extern.ReflectliteValue.methodAny (Extern.ReflectliteValue.valueError "reflectlite.Value.Type" 0) fun t _ _ _ => Extern.ReflectliteType.toType t
def rowIsNil : Array Value → Sem Value := Extern.ReflectliteValue.method (Extern.ReflectliteValue.valueError "reflectlite.Value.IsNil" 0) Extern.ReflectliteValue.isNil
def rowElemV : Array Value → Sem Value := Extern.ReflectliteValue.method (Extern.ReflectliteValue.valueError "reflectlite.Value.Elem" 0) Extern.ReflectliteValue.elem
theorem as_load (t : TypeId) (a : Addr) (v : Value) (W : World) (ht : ∀ W, (isAgg t).run Tryz.prog W = .ok false W) (h : W.cell? a = some v) : (loadVar t a).run Tryz.prog W = .ok v W := by
  simp [loadVar, Sem.run_bind, ht, h]
def rowKind : Array Value → Sem Value := Extern.ReflectliteType.abiMethod fun t => do pure (.int .u8 (← Extern.Rtype.kind t))
def rowElemT : Array Value → Sem Value := Extern.ReflectliteType.method Extern.ReflectliteType.elem
def rowImpl : Array Value → Sem Value := Extern.ReflectliteType.relation "Implements" Extern.ReflectliteType.implements_
def rowAssi : Array Value → Sem Value := Extern.ReflectliteType.relation "AssignableTo" Extern.ReflectliteType.assignableTo
def rowValueOf : Array Value → Sem Value := fun args => Extern.ReflectliteValue.unpack (args.getD 0 (.tuple #[]))
end Go.Proofs.YtahohmdbiiknoaaGreatDoor

/- errors.As of a fault. -/
namespace Go.Proofs.YtahohmdbiiknoaaGreatDoor
open Go.RowKit Go.Extern.Stop Go.Stop Go.Extern

end Go.Proofs.YtahohmdbiiknoaaGreatDoor

/- Faults in memory; errors.As and errors.Is of the program's own error. -/
namespace Go.Proofs.YtahohmdbiiknoaaGreatDoor
open Go.RowKit Go.Extern.Stop Go.Stop Go.Extern

end Go.Proofs.YtahohmdbiiknoaaGreatDoor

/- Layer 14: first, Field, Channel, Short, fault; the reference's Field, Channel, Short. -/
namespace Go.Proofs.YtahohmdbiiknoaaGreatDoor
open Go.RowKit

/-- The place of the first kid of a name. -/
def firstB (l : List Nd) (i : Int) (nm : List UInt8) : Option Int := (namedB l i nm).head?
def FstPost (w : World) (o : Option Int) (e : Ending) (w' : World) : Prop := e = .returned (.tuple #[.int .i64 (o.getD 0), .bool o.isSome]) ∧ Below w.heap.size w w'
def FldPost (w : World) (o : Option (List UInt8)) (e : Ending) (w' : World) : Prop := e = .returned (.tuple #[.string ⟨(o.getD []).toArray⟩, .bool o.isSome]) ∧ Below w.heap.size w w'
theorem fieldB_first (l : List Nd) (i : Int) (nm : List UInt8) : fieldB l i nm = (firstB l i nm).map fun j => cleanB (textB l j) := by
  unfold fieldB firstB
  cases namedB l i nm <;> rfl
theorem FldPost.mk {w w' : World} {o : Option (List UInt8)} {e : Ending} (x : List UInt8) (b : Bool) (h1 : o.getD [] = x) (h2 : o.isSome = b) (he : e = .returned (.tuple #[.string ⟨x.toArray⟩, .bool b])) (hb : Below w.heap.size w w') : FldPost w o e w' := by subst h1 h2; exact ⟨he, hb⟩
/-- The first of numbers that can be read. -/
theorem rd_first {w : World} {v : Value} {xs : List Int} (h : RdSl .i64 w v xs) : (xs = [] ∧ ∃ a c, v = .slice a 0 c) ∨ ∃ x r b off c, xs = x :: r ∧ v = .slice (some ⟨b, off, none⟩) (r.length + 1) c ∧ w.cell? ⟨b, off, none⟩ = some (.int .i64 x) := by
  rcases h.sl with ⟨h1, a, c, h2⟩ | ⟨b, off, c, hv, hc⟩
  · exact Or.inl ⟨h1, a, c, h2⟩
  · cases xs with
    | nil => exact Or.inl ⟨rfl, _, c, by simpa using hv⟩
    | cons x r =>
      have := hc 0 (by simp)
      rw [Nat.add_zero] at this
      exact Or.inr ⟨x, r, b, off, c, rfl, by simpa using hv, this⟩

end Go.Proofs.YtahohmdbiiknoaaGreatDoor

/- Layer 14: Channel, Short, fault, a part's field; the reference's Field, Channel, Short. -/
namespace Go.Proofs.YtahohmdbiiknoaaGreatDoor
open Go.RowKit

def rssL : List UInt8 := [114, 115, 115]
def chanL : List UInt8 := [99, 104, 97, 110, 110, 101, 108]
/-- The channel's place. -/
def chanB (l : List Nd) : Option Int := if l = [] ∨ (atN l 0).name ≠ rssL then none else firstB l 0 chanL
/-- An entry. -/
structure It where
  guid : List UInt8
  title : List UInt8
  link : List UInt8
  body : List UInt8
  date : Int
  dated : Bool
def itC (x : It) : List Value := [strV x.guid, strV x.title, strV x.link, strV x.body, .int .i64 x.date, .bool x.dated]
def itV (x : It) : Value := .agg (itC x).toArray
def shortB (x : It) (most : Int) : Bool := decide ((x.guid.length : Int) ≤ most) && decide ((x.guid.length : Int) ≤ 256) && decide ((x.title.length : Int) ≤ most) && decide ((x.link.length : Int) ≤ most) && decide ((x.body.length : Int) ≤ most)

set_option maxHeartbeats 2000000 in
theorem refshort14_any (x : It) (most : Int) (w : World) : Calls Tryz.prog 39 #[itV x, .int .i64 most] w fun e w' => e = .returned (.bool (shortB x most)) ∧ Below w.heap.size w w' := by
  obtain ⟨xg, xt, xl, xb, xd, xk⟩ := x
  unfold itV itC strV shortB
  simp only
  have hb : ∀ c : Array Value, Below w.heap.size w (w.alloc (.cells c 26)) := fun c => (Below.refl _ _).alloc (Nat.le_refl _) _
  replace hb := Lib.hid hb
  cases h1 : decide ((xg.length : Int) ≤ most) <;> cases h2 : decide ((xt.length : Int) ≤ most) <;> cases h3 : decide ((xl.length : Int) ≤ most) <;> cases h4 : decide ((xb.length : Int) ≤ most) <;> cases h5 : decide ((xg.length : Int) ≤ 256)
  all_goals
    go_enter Tryz.func39, Tryz.ntmps39
    go_wp2_with fail
    go_ret
    exact ⟨rfl, hb.out _⟩
/-- A fault with a code. -/
def codeV (q : Int) : Value := .iface 32 (.int .i64 q)
set_option maxHeartbeats 1000000 in
theorem refchannel14_any (P : List (Nd × Value)) (v : Value) (w : World) (h : NdSl w v P) (hn : P.length ≤ 1000000) :
    Calls Tryz.prog 40 #[v] w (FstPost w (chanB (nodes P))) := by
  by_cases h0 : P = []
  · subst h0
    obtain ⟨a, c, rfl⟩ := h.form
    have hP : chanB (nodes []) = none := if_pos (Or.inl rfl)
    rw [hP]
    clear h
    replace hP := Lib.hid hP
    go_enter Tryz.func40, Tryz.ntmps40
    go_wp2_with fail
    go_ret2
    exact ⟨rfl, Below.refl _ _⟩
  have hp0 : 0 < P.length := List.length_pos_iff.2 h0
  have hf := refnamed12_any P v 0 chanL w h hn
  obtain ⟨b, off, cap, hcap, hbl, rfl, hcl⟩ := h.some hp0
  obtain ⟨d0, _, _, _⟩ := hcl 0 hp0
  have hna : (P[0]'hp0).1 = atN (nodes P) 0 := nodes_at hp0
  rw [hna] at d0
  clear hcl hna
  have hP := show chanB (nodes P) = _ from by unfold chanB; rfl
  have hne : nodes P ≠ [] := fun e => h0 (List.map_eq_nil_iff.1 e)
  have hl0 : ((P.length : Int) == 0) = false := by rw [beq_eq_false_iff_ne]; omega
  have hl1 : (P.length == 0) = false := by rw [beq_eq_false_iff_ne]; omega
  have hl2 : (0 : Int) < P.length := by omega
  unfold strV at d0
  rw [Nat.zero_mul, Nat.add_zero] at d0
  unfold chanL at hf
  replace h := Lib.hid h
  replace h0 := Lib.hid h0
  by_cases hq : (atN (nodes P) 0).name = rssL
  · have hP2 := hP.trans (if_neg (by rintro (e | e); exact hne e; exact e hq))
    rw [hP2]
    rw [hq] at d0
    unfold rssL at d0
    unfold firstB chanL
    generalize namedB (nodes P) 0 [99, 104, 97, 110, 110, 101, 108] = xs at hf hP2
    replace hf := Lib.hid hf
    replace hP := Lib.hid hP
    replace hP2 := Lib.hid hP2
    replace hq := Lib.hid hq
    go_enter Tryz.func40, Tryz.ntmps40
    go_wp2_with fail
    refine hf.out.mono ?_
    rintro e w1 ⟨u, rfl, hu, hb⟩
    rcases rd_first hu.rd with ⟨rfl, a1, c1, rfl⟩ | ⟨x, r, b, off, c1, rfl, rfl, hc⟩
    · clear hu
      replace hb := Lib.hid hb
      go_wp2_with fail
      go_ret2
      exact ⟨rfl, hb.out⟩
    · clear hu
      replace hb := Lib.hid hb
      have hl0 : ((r.length : Int) + 1 == 0) = false := by rw [beq_eq_false_iff_ne]; omega
      have hl1 : (r.length + 1 == 0) = false := by rw [beq_eq_false_iff_ne]; omega
      have hl2 : (0 : Int) < (r.length : Int) + 1 := by omega
      go_wp2_with fail
      go_ret2
      exact ⟨rfl, hb.out⟩
  · have hP2 := hP.trans (if_pos (Or.inr hq))
    rw [hP2]
    have hq1 : ((atN (nodes P) 0).name == [114, 115, 115]) = false := by rw [beq_eq_false_iff_ne]; exact hq
    generalize (atN (nodes P) 0).name = nm at d0 hq1
    clear hf
    replace hP := Lib.hid hP
    replace hP2 := Lib.hid hP2
    replace hq := Lib.hid hq
    go_enter Tryz.func40, Tryz.ntmps40
    go_wp2_with fail
    go_ret2
    exact ⟨rfl, Below.refl _ _⟩

set_option maxHeartbeats 1000000 in
theorem reffield14_any (P : List (Nd × Value)) (v : Value) (i : Int) (nm : List UInt8) (w : World) (h : NdSl w v P) (hn : P.length ≤ 1000000) (hT : sumT (nodes P) ≤ 2000000) :
    Calls Tryz.prog 55 #[v, .int .i64 i, .string ⟨nm.toArray⟩] w (FldPost w (fieldB (nodes P) i nm)) := by
  have hnm := refnamed12_any P v i nm w h hn
  rw [fieldB_first]
  unfold firstB
  generalize namedB (nodes P) i nm = xs at hnm
  obtain ⟨a, c, hv⟩ := h.form
  have hnx := fun W (hb : Below w.heap.size w W) => h.next hb
  subst hv
  replace hnm := Lib.hid hnm
  replace hnx := Lib.hid hnx
  replace h := Lib.hid h
  go_enter Tryz.func55, Tryz.ntmps55
  go_wp2_with fail
  refine hnm.out.mono ?_
  rintro e w1 ⟨u, rfl, hu, hb⟩
  clear hnm
  rcases rd_first hu.rd with ⟨rfl, a1, c1, rfl⟩ | ⟨x, r, b, off, c1, rfl, rfl, hc⟩
  · clear hu
    replace hb := Lib.hid hb
    go_wp2_with fail
    go_ret2
    exact ⟨rfl, hb.out⟩
  · clear hu
    have ht := reftext12_any P _ x w1 (hnx.out w1 hb) hn (by omega)
    have hl := textB_len (nodes P) x
    have hl0 : ((r.length : Int) + 1 == 0) = false := by rw [beq_eq_false_iff_ne]; omega
    have hl1 : (r.length + 1 == 0) = false := by rw [beq_eq_false_iff_ne]; omega
    have hl2 : (0 : Int) < (r.length : Int) + 1 := by omega
    replace hb := Lib.hid hb
    replace ht := Lib.hid ht
    go_wp2_with fail
    refine ht.out.mono ?_
    rintro e w2 ⟨rfl, hb2⟩
    have hb3 := Lib.hid (hb.out.andThen hb2)
    clear hb2
    go_wp2_with fail
    refine (refclean_any _ _ (by omega)).mono ?_
    rintro e w3 ⟨rfl, hb4⟩
    have hb5 := Lib.hid (hb3.out.andThen hb4)
    clear hb4
    go_wp2_with fail
    go_ret2
    exact ⟨rfl, hb5.out⟩
end Go.Proofs.YtahohmdbiiknoaaGreatDoor
