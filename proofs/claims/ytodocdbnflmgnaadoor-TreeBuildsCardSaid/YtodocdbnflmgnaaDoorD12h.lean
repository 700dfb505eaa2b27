/- Layer 12: a builder takes a token. -/
import Derived.Test.YtodocdbnflmgnaaDoorD12g
import Derived.Test.YtodocdbnflmgnaaDoorD12a
import Derived.Test.YtodocdbnflmgnaaDoorEn
namespace Go.Proofs.YtodocdbnflmgnaaDoor
open Go.RowKit

def formV : Value := .iface 29 (.int .i64 2)
def openV (A : Addr) : Value := .iface 97 (.pointer (some A))
/-- The program's own error lies as laid, ahead of what the call makes. -/
structure Env12 (w : World) (B : Nat) (A : Addr) : Prop where
  ende : w.cell? ⟨0, 0, none⟩ = some (openV A)
  low : 0 < B
theorem Env12.below {w w' : World} {B : Nat} {A : Addr} (h : Env12 w B A) (hb : Below B w w') : Env12 w' B A := ⟨(hb.cell (p := ⟨0, 0, none⟩) h.low).trans h.ende, h.low⟩
/-- What take answers of a state. -/
def sayV (A : Addr) (u : Int) : Value := if u = -1 then .nilIface else openV A
/-- What take comes to. -/
def TakePost (w : World) (B R : Nat) (A : Addr) : Option Bs → Ending → World → Prop
  | none, e, w' => ∃ f q, e = .returned (faultV f) ∧ FaultAt w' f q formV ∧ Below B w w'
  | some s', e, w' => e = .returned (sayV A s'.up) ∧ BdE w' B R s' ∧ Below B w w'
theorem TakePost.no {w w' : World} {B R f q : Nat} {A : Addr} {o : Option Bs} (ho : o = none) (h : FaultAt w' f q formV) (hb : Below B w w') : TakePost w B R A o (.returned (.iface 55 (.pointer (some ⟨f, 0, none⟩)))) w' := by subst ho; exact ⟨f, q, rfl, h, hb⟩
theorem TakePost.nil {w w' : World} {B R : Nat} {A : Addr} {o : Option Bs} {s' : Bs} {P : List (Nd × Value)} {v : Value} (ho : o = some s') (hu : s'.up = -1) (h : BdM w' B R s' P v) (hb : Below B w w') : TakePost w B R A o (.returned .nilIface) w' := by
  subst ho; exact ⟨by unfold sayV; rw [if_pos hu], ⟨P, v, h⟩, hb⟩
theorem TakePost.open {w w' : World} {B R : Nat} {A : Addr} {o : Option Bs} {s' : Bs} {P : List (Nd × Value)} {v : Value} (ho : o = some s') (hu : s'.up ≠ -1) (h : BdM w' B R s' P v) (hb : Below B w w') : TakePost w B R A o (.returned (.iface 97 (.pointer (some A)))) w' := by
  subst ho; exact ⟨by unfold sayV; rw [if_neg hu]; rfl, ⟨P, v, h⟩, hb⟩
section
variable {s : Bs} {x : Tk}
theorem takeB_out (h1 : s.up = -1) (h2 : s.nds ≠ []) : takeB s x = none := by unfold takeB; rw [if_pos ⟨h1, h2⟩]
theorem takeB_start (h : ¬ (s.up = -1 ∧ s.nds ≠ [])) (hk : x.kind = 1) (hn : x.name ≠ []) : takeB s x = some ⟨s.nds ++ [elemN x s.up], s.nds.length⟩ := by unfold takeB; rw [if_neg h, if_pos ⟨hk, hn⟩]
theorem takeB_empty (h : ¬ (s.up = -1 ∧ s.nds ≠ [])) (hk : x.kind = 3) (hn : x.name ≠ []) : takeB s x = some ⟨s.nds ++ [elemN x s.up], s.up⟩ := by unfold takeB; rw [if_neg h, if_neg (by omega), if_pos ⟨hk, hn⟩]
theorem takeB_text (hk : x.kind = 4) (hu : s.up ≠ -1) : takeB s x = some ⟨s.nds ++ [textN x s.up], s.up⟩ := by unfold takeB; rw [if_neg (fun e => hu e.1), if_neg (by omega), if_neg (by omega), if_pos ⟨hk, hu⟩]
theorem takeB_end (hk : x.kind = 2) (hu : s.up ≠ -1) (hn : x.name = (atN s.nds s.up).name) : takeB s x = some ⟨s.nds, upN s.nds s.up⟩ := by unfold takeB; rw [if_neg (fun e => hu e.1), if_neg (by omega), if_neg (by omega), if_neg (by omega), if_pos ⟨hk, hu, hn⟩]
theorem takeB_no (h1 : ¬ (x.kind = 1 ∧ x.name ≠ [])) (h3 : ¬ (x.kind = 3 ∧ x.name ≠ [])) (h4 : ¬ (x.kind = 4 ∧ s.up ≠ -1)) (h2 : ¬ (x.kind = 2 ∧ s.up ≠ -1 ∧ x.name = (atN s.nds s.up).name)) : takeB s x = none := by
  unfold takeB
  by_cases h : s.up = -1 ∧ s.nds ≠ []
  · rw [if_pos h]
  · rw [if_neg h, if_neg h1, if_neg h3, if_neg h4, if_neg h2]
end
/-- A token's box. -/
abbrev boxT (w : World) (x : Tk) (va : Value) : World := w.alloc (.cells #[.int .i64 x.kind, .string ⟨x.name.toArray⟩, va, .string ⟨x.text.toArray⟩] 47)
theorem fault_new (W : World) (f : Nat) (hf : f = W.heap.size) : FaultAt (W.alloc (.cells #[.int .i64 0, .iface 29 (.int .i64 2)] 81)) f 0 formV := by subst hf; exact arrAt_new W _ _

set_option maxRecDepth 100000 in
set_option maxHeartbeats 4000000 in
/-- Outside of the root: a second one, or none yet. -/
theorem take12_out (B R : Nat) (s : Bs) (P : List (Nd × Value)) (v : Value) (x : Tk) (va : Value) (A : Addr) (w : World) (h : BdM w B R s P v) (hE : Env12 w B A) (ha : AtSl w va x.attrs) (hn : P.length ≤ 1000000) (hx : x.attrs.length * 32 ≤ 140737488355328) (hu : s.up = -1) :
    Calls Tryd.prog 21 #[.pointer (some ⟨R, 0, none⟩), tkA x va] w (TakePost w B R A (takeB s x)) := by
  obtain ⟨a0, cv, rfl⟩ := own_form h.row
  obtain ⟨va0, vc0, rfl⟩ := ha.form
  have hb0 : Below w.heap.size w (boxT w x (.slice va0 x.attrs.length vc0)) := (Below.refl _ _).alloc (Nat.le_refl _) _
  have hA := h.below hb0
  have haA := ha.next hb0
  have hbx : ArrAt (boxT w x (.slice va0 x.attrs.length vc0)) w.heap.size 47 [.int .i64 x.kind, .string ⟨x.name.toArray⟩, .slice va0 x.attrs.length vc0, .string ⟨x.text.toArray⟩] := arrAt_new w _ _
  have hbB := h.base
  have hBA := hb0.mono hbB
  have hEA := hE.below hBA
  have c0 := hA.c0
  have c1 := hA.c1
  rw [hu] at c1
  have y0 : (boxT w x (.slice va0 x.attrs.length vc0)).cell? ⟨w.heap.size, 0, none⟩ = some (.int .i64 x.kind) := by rw [hbx.cell]; rfl
  have y1 : (boxT w x (.slice va0 x.attrs.length vc0)).cell? ⟨w.heap.size, 1, none⟩ = some (.string ⟨x.name.toArray⟩) := by rw [hbx.cell]; rfl
  have y2 : (boxT w x (.slice va0 x.attrs.length vc0)).cell? ⟨w.heap.size, 2, none⟩ = some (.slice va0 x.attrs.length vc0) := by rw [hbx.cell]; rfl
  have y3 : (boxT w x (.slice va0 x.attrs.length vc0)).cell? ⟨w.heap.size, 3, none⟩ = some (.string ⟨x.text.toArray⟩) := by rw [hbx.cell]; rfl
  have hwA : w.heap.size < (boxT w x (.slice va0 x.attrs.length vc0)).heap.size := by simp [boxT]
  have hout : s.nds ≠ [] → takeB s x = none := fun h2 => takeB_out hu h2
  have hstart := fun h1 h2 h3 => takeB_start (s := s) (x := x) h1 h2 h3
  have hempty := fun h1 h2 h3 => takeB_empty (s := s) (x := x) h1 h2 h3
  have hnone := fun h1 h2 h3 h4 => takeB_no (s := s) (x := x) h1 h2 h3 h4
  generalize takeB s x = o at hout hstart hempty hnone ⊢
  have hpl := h.plen
  have hpar := @element12_any B R s P (.slice a0 P.length cv) x (.slice va0 x.attrs.length vc0) _ hA haA hn hx
  clear h ha hE hbx
  unfold tkA at hpar ⊢
  unfold boxT at *
  replace hb0 := Lib.hid hb0
  replace hBA := Lib.hid hBA
  replace hA := Lib.hid hA
  replace haA := Lib.hid haA
  replace hEA := Lib.hid hEA
  replace hpar := Lib.hid hpar
  replace hstart := Lib.hid hstart
  replace hempty := Lib.hid hempty
  replace hnone := Lib.hid hnone
  by_cases hnn : s.nds = []
  · have hP : P = [] := List.length_eq_zero_iff.1 (by rw [hpl, hnn]; rfl)
    subst hP
    clear hout hpl
    have hst : ¬ (s.up = -1 ∧ s.nds ≠ []) := fun e => e.2 hnn
    by_cases hk1 : x.kind = 1 ∧ x.name ≠ []
    · have ho := hstart.out hst hk1.1 hk1.2
      have q1 : (x.kind == 1) = true := by rw [beq_iff_eq]; exact hk1.1
      have q2 : x.name.isEmpty = false := by cases hq : x.name with | nil => exact absurd hq hk1.2 | cons => rfl
      clear hstart hempty hnone hst hk1
      replace ho := Lib.hid ho
      replace hnn := Lib.hid hnn
      replace hu := Lib.hid hu
      go_enter Tryd.func21, Tryd.ntmps21
      go_wp2_with fail
      refine hpar.out.mono ?_; rintro e w1 ⟨rfl, ⟨P1, v1, m1⟩, b1⟩
      have hl1 : P1.length = 1 := by rw [m1.plen, hnn.out]; rfl
      obtain ⟨a1, cv1, rfl⟩ := own_form m1.row
      have d0 := m1.c0
      rw [hl1] at d0
      have d1 := m1.c1
      rw [hu.out] at d1
      have f1 := m1.bd.soft 1
      have hM2 := m1.setUp 0
      have d2 := hM2.1.c1
      have hb2 := (hBA.out.trans b1).trans hM2.2
      have hE2 := (hEA.out.below b1).below hM2.2
      have e2 := hE2.ende
      unfold openV at e2
      clear hpar m1 b1 hE2 c0 c1 y0 y1 y2 y3
      replace hM2 := Lib.hid hM2
      replace hb2 := Lib.hid hb2
      go_wp2_with fail
      go_ret
      exact TakePost.open ho.out (by rw [hnn.out]; simp) (by rw [hnn.out]; rw [hnn.out] at hM2; exact hM2.out.1) hb2.out
    by_cases hk3 : x.kind = 3 ∧ x.name ≠ []
    · have ho := hempty.out hst hk3.1 hk3.2
      have q1 : (x.kind == 1) = false := by rw [beq_eq_false_iff_ne]; omega
      have q3 : (x.kind == 3) = true := by rw [beq_iff_eq]; exact hk3.1
      have q2 : x.name.isEmpty = false := by cases hq : x.name with | nil => exact absurd hq hk3.2 | cons => rfl
      clear hstart hempty hnone hst hk1 hk3
      replace ho := Lib.hid ho
      replace hnn := Lib.hid hnn
      replace hu := Lib.hid hu
      go_enter Tryd.func21, Tryd.ntmps21
      go_wp2_with fail
      refine hpar.out.mono ?_; rintro e w1 ⟨rfl, ⟨P1, v1, m1⟩, b1⟩
      have d1 := m1.c1
      rw [hu.out] at d1
      have hb2 := hBA.out.trans b1
      clear hpar b1 c0 c1 y0 y1 y2 y3
      replace m1 := Lib.hid m1
      replace hb2 := Lib.hid hb2
      go_wp2_with fail
      go_ret
      exact TakePost.nil ho.out hu.out m1.out hb2.out
    have ho := hnone.out hk1 hk3 (fun e => e.2 hu) (fun e => e.2.1 hu)
    have hq : ((x.kind == 1) = true ∧ (x.kind == 3) = false ∧ x.name.isEmpty = true) ∨ ((x.kind == 1) = false ∧ (x.kind == 3) = true ∧ x.name.isEmpty = true) ∨ ((x.kind == 1) = false ∧ (x.kind == 3) = false) := by
      have hne : ∀ (_ : x.name.isEmpty = false), x.name ≠ [] := fun h e => by rw [e] at h; cases h
      cases e1 : (x.kind == 1)
      · cases e3 : (x.kind == 3)
        · exact Or.inr (Or.inr ⟨rfl, rfl⟩)
        · cases en : x.name.isEmpty
          · exact absurd ⟨by simpa using e3, hne en⟩ hk3
          · exact Or.inr (Or.inl ⟨rfl, rfl, rfl⟩)
      · cases en : x.name.isEmpty
        · exact absurd ⟨by simpa using e1, hne en⟩ hk1
        · exact Or.inl ⟨rfl, by rw [beq_eq_false_iff_ne]; rw [beq_iff_eq] at e1; omega, rfl⟩
    clear hstart hempty hnone hst hk1 hk3 hpar
    replace ho := Lib.hid ho
    replace hnn := Lib.hid hnn
    replace hu := Lib.hid hu
    cases q4 : (x.kind == 4)
    all_goals cases q5 : (x.kind == 2)
    all_goals rcases hq with ⟨q1, q3, q2⟩ | ⟨q1, q3, q2⟩ | ⟨q1, q3⟩
    all_goals
      go_enter Tryd.func21, Tryd.ntmps21
      go_wp2_with fail
      go_quiet (fail)
      go_wp2_with fail
      refine (fault12_any _).mono ?_; rintro e w' ⟨rfl, rfl⟩
      go_wp2_with fail
      go_ret
      exact TakePost.no ho.out (fault_new _ _ (by simp)) ((hBA.out.trans ((drawn_drewN _ nq).below B)).alloc (by simp; omega) _)
  · have ho := hout hnn
    have hlen : 0 < P.length := by rw [hpl]; exact List.length_pos_iff.2 hnn
    have hlen1 : (0 : Int) < P.length := by omega
    clear hout hpl hstart hempty hnone
    replace hnn := Lib.hid hnn
    replace ho := Lib.hid ho
    replace hu := Lib.hid hu
    go_enter Tryd.func21, Tryd.ntmps21
    go_wp2_with fail
    refine (fault12_any _).mono ?_; rintro e w' ⟨rfl, rfl⟩
    go_wp2_with fail
    go_ret
    exact TakePost.no ho.out (fault_new _ _ (by simp)) (hBA.out.trans ((Below.refl B _).alloc (Nat.le_trans hbB (Nat.le_of_lt hwA)) _))
end Go.Proofs.YtodocdbnflmgnaaDoor
